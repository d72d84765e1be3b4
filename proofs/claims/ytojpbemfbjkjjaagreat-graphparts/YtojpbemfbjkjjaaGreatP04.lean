import Derived.Test.YtojpbemfbjkjjaaGreatP03
import Derived.Test.YtojpbemfbjkjjaaGreatP02
import Derived.Lib.SliceRun
import Derived.Deep.QuietTactic
import Derived.BigQuiet
import Derived.Laws.OwnMore
/- What the calls of the layer answer of a blob. -/
namespace Go.Proofs.YtojpbemfbjkjjaaGreat
open Go.RowKit

set_option maxHeartbeats 1000000 in
theorem oequal_any (w : World) (a b : Option Addr) (n m c d : Nat) (l k : List UInt8) (ha : Bytes w a n l) (hb : Bytes w b m k) :
    Calls Tryz.prog 57 #[.slice a n c, .slice b m d] w fun e w' => e = .returned (.bool (decide (l = k))) ∧ w' = w := by
  have r1 := run_string w a n c l ha
  have r2 := run_string w b m d k hb
  go_enter Tryz.func57, Tryz.ntmps57
  go_wp2
  go_ret
  refine ⟨?_, rfl⟩
  simp
  rw [Bool.eq_iff_iff]
  simp
theorem equal_yes (w : World) (a b : Option Addr) (n m c d : Nat) (l : List UInt8) (ha : Bytes w a n l) (hb : Bytes w b m l) :
    Calls Tryz.prog 57 #[.slice a n c, .slice b m d] w fun e w' => e = .returned (.bool true) ∧ w' = w :=
  (oequal_any w a b n m c d l l ha hb).mono fun e w' h => ⟨by rw [h.1]; simp, h.2⟩

set_option maxHeartbeats 1000000 in
theorem oclone_any (a : Option Addr) (n c : Nat) (l : List UInt8) (w : World) (hb : Bytes w a n l) (hnil : a = none → n = 0 ∧ c = 0) (hbig : n ≤ 140737488355328) :
    Calls Tryz.prog 51 #[.slice a n c] w fun e w' => ∃ v, e = .returned v ∧ w'.ownsRow w.heap.size 5 1 v n (cellsOf l) ∧ Below w.heap.size w w' := by
  have q22 : ∀ (w : World) (a : Option Addr) (n c n' c' : Nat), (binOp .eql 70 (.slice a n c) (.slice none n' c')).run Tryz.prog w = .ok (.bool a.isNone) w := fun w a n c n' c' => Lib.run_eql_slice_nil w _ _ a n c n' c' Tryz.underlying70
  cases a with
  | none =>
    obtain ⟨rfl, rfl⟩ := hnil rfl
    have hl : l = [] := List.eq_nil_of_length_eq_zero hb.1
    subst hl
    go_enter Tryz.func51, Tryz.ntmps51
    go_wp2
    go_ret
    exact ⟨_, rfl, World.ownsRow_nil _ _ _ _, Below.refl _ _⟩
  | some a =>
    have hB0 : Below w.heap.size w (w.alloc (.cells #[] 5)) := (Below.refl _ _).alloc (Nat.le_refl _) _
    have hb0 : Bytes (w.alloc (.cells #[] 5)) (some a) n l := bytes_below hb hB0
    have hr0 : (w.alloc (.cells #[] 5)).ownsRow w.heap.size 5 1 (.slice (some ⟨w.heap.size, 0, none⟩) 0 0) 0 [] := World.ownsRow_made w #[] 0 (Nat.le_refl _) (by unfold maxLen; omega) rfl
    go_enter Tryz.func51, Tryz.ntmps51
    go_wp2_with (at_builtin; refine wpList_app _ w.heap.size (by simp) rfl _ _ rfl (.slice (some ⟨w.heap.size, 0, none⟩) 0 0) 0 [] rfl hr0 (some a) n c l rfl hb0 hnil (by omega) ?_; intro v' w1 hown hgrow _; obtain ⟨a', c', rfl, hnc, hnn⟩ := row_shape hown)
    go_ret
    simp only [Nat.zero_add, List.nil_append] at *
    refine ⟨_, rfl, hown, hB0.grown hgrow (by simp) (by intro k hk; cases hk; exact Nat.le_refl _)⟩

theorem Encode_blob_long (a : Option Addr) (n c : Nat) (w : World) (hn : 4096 < n) : Calls Tryz.prog 38 #[.iface 72 (.agg #[.slice a n c])] w fun e w' => e = .returned (.tuple #[.slice none 0 0, .int .i64 3]) ∧ Below w.heap.size w w' := by
  have c1 := check_blob a n c w
  rw [show blobErr n = 3 by unfold blobErr; rw [if_pos (by omega)]] at c1
  go_enter Tryz.func38, Tryz.ntmps38
  go_wp2_with (go_at_call 54; refine c1.mono ?_; rintro e w1 ⟨rfl, hB1⟩)
  go_ret2
  exact ⟨rfl, hB1⟩
def idOf (l : List UInt8) : Int := if hashTo l l.length = 0 then 1 else hashTo l l.length
theorem id_ne (l : List UInt8) : idOf l ≠ 0 := by unfold idOf; split <;> omega
theorem Id_any (a : Option Addr) (n c : Nat) (l : List UInt8) (w : World) (hb : Bytes w a n l) (hm : n ≤ maxLen) : Calls Tryz.prog 39 #[.slice a n c] w fun e w' => e = .returned (.int .u64 (idOf l)) ∧ w' = w := by
  have hh := hash_any a n c l w hb hm
  have e0 : idOf l = if hashTo l n = 0 then 1 else hashTo l n := by unfold idOf; rw [hb.1]
  rw [e0]
  generalize hashTo l n = h at hh
  by_cases h0 : h = 0
  · subst h0
    go_enter Tryz.func39, Tryz.ntmps39
    go_wp2_with (go_at_call 56; refine hh.mono ?_; rintro e w1 ⟨rfl, rfl⟩)
    go_ret
    exact ⟨rfl, rfl⟩
  · have h1 : (h == 0) = false := beq_eq_false_iff_ne.2 h0
    go_enter Tryz.func39, Tryz.ntmps39
    go_wp2_with (go_at_call 56; refine hh.mono ?_; rintro e w1 ⟨rfl, rfl⟩)
    go_ret
    exact ⟨rfl, rfl⟩
/-- a row of bytes of the call's own -/
structure OwnB (B : Nat) (l : List UInt8) (v : Value) (w : World) : Prop where
  row : w.ownsRow B 5 1 v l.length (cellsOf l)
theorem OwnB.shape {B : Nat} {l : List UInt8} {v : Value} {w : World} {n : Nat} (h : OwnB B l v w) (hl : l.length = n) : ∃ ad c, v = .slice ad n c ∧ (ad = none → n = 0 ∧ c = 0) := by
  subst hl
  obtain ⟨ad, c, rfl, _, h2⟩ := row_shape h.row
  exact ⟨ad, c, rfl, h2⟩
theorem OwnB.bytes {B : Nat} {l : List UInt8} {ad : Option Addr} {c : Nat} {w : World} {n : Nat} (h : OwnB B l (.slice ad n c) w) (hl : l.length = n) : Bytes w ad n l := by
  subst hl
  exact row_bytes h.row
theorem encode_own (a : Option Addr) (n c : Nat) (l : List UInt8) (w : World) (hb : Bytes w a n l) (hnil : a = none → n = 0 ∧ c = 0) (hm : n ≤ 4096) :
    Calls Tryz.prog 55 #[.iface 72 (.agg #[.slice a n c])] w fun e w' => ∃ ad cp, e = .returned (.slice ad (n + 1) cp) ∧ OwnB w.heap.size (98 :: l) (.slice ad (n + 1) cp) w' ∧ Below w.heap.size w w' :=
  (encode_blob a n c l w hb hnil (by omega)).mono fun e w' ⟨v, he, ho, hB⟩ => by
    obtain ⟨ad, cp, rfl, _⟩ := OwnB.shape ⟨ho⟩ (n := n + 1) (by simp [hb.1])
    exact ⟨ad, cp, he, ⟨ho⟩, hB⟩
theorem Same_blob_long (a : Option Addr) (n c : Nat) (x : Value) (w : World) (hn : 4096 < n) : Calls Tryz.prog 41 #[.iface 72 (.agg #[.slice a n c]), x] w fun e w' => e = .returned (.bool false) ∧ Below w.heap.size w w' := by
  have c1 := check_blob a n c w
  rw [show blobErr n = 3 by unfold blobErr; rw [if_pos (by omega)]] at c1
  go_enter Tryz.func41, Tryz.ntmps41
  go_wp2_with (go_at_call 54; refine c1.mono ?_; rintro e w1 ⟨rfl, hB1⟩)
  go_ret
  exact ⟨rfl, hB1⟩
theorem Same_blob (a : Option Addr) (n c : Nat) (l : List UInt8) (w : World) (hb : Bytes w a n l) (hnil : a = none → n = 0 ∧ c = 0) (hm : n ≤ 4096) : Calls Tryz.prog 41 #[.iface 72 (.agg #[.slice a n c]), .iface 72 (.agg #[.slice a n c])] w fun e w' => e = .returned (.bool true) ∧ Below w.heap.size w w' := by
  have c1 := fun w => check_blob a n c w
  rw [show blobErr n = 0 by unfold blobErr; rw [if_neg (by omega)]] at c1
  have HL : Hid ((98 :: l).length = n + 1) := by show _ = _; simp [hb.1]
  go_enter Tryz.func41, Tryz.ntmps41
  go_wp2_with first
    | (go_at_call 54; refine (c1 w).mono ?_; rintro e w1 ⟨rfl, hB1⟩)
    | (go_at_call 54; refine (c1 _).mono ?_; clear c1; rintro e w2 ⟨rfl, hB2⟩; have hB : Below w.heap.size w w2 := hB1.trans (hB2.mono hB1.size); have hb2 := bytes_below hb hB; clear hB1 hB2)
    | (go_at_call 55; refine (encode_own a n c l w2 hb2 hnil hm).mono ?_; rintro e w3 ⟨ad, cp, rfl, ho, hB3⟩; have hy3 := ho.bytes HL.out; have hb3 := bytes_below hb2 hB3; clear hb2 ho)
    | (go_at_call 55; refine (encode_own a n c l _ hb3 hnil hm).mono ?_; rintro e w4 ⟨ad4, cp4, rfl, ho, hB4⟩; have hy4 := ho.bytes HL.out; have hy3' := bytes_below hy3 hB4; clear hb3 hy3 ho)
    | (go_at_call 57; refine (equal_yes _ ad ad4 _ _ cp cp4 _ hy3' hy4).mono ?_; rintro e w5 ⟨rfl, rfl⟩)
  go_ret
  exact ⟨rfl, hB.trans ((hB3.trans (hB4.mono hB3.size)).mono hB.size)⟩
end Go.Proofs.YtojpbemfbjkjjaaGreat

/- What is none of the three kinds: nil, pointers. -/
namespace Go.Proofs.YtojpbemfbjkjjaaGreat
open Go.RowKit

/-- an interface value that holds none of the three types -/
structure Odd (o : Value) : Prop where
  b : ∀ xT w, (Instr.typeAssert o xT 72 true).run Tryz.prog w = .ok (.tuple #[.agg #[.slice none 0 0], .bool false]) w
  t : ∀ xT w, (Instr.typeAssert o xT 107 true).run Tryz.prog w = .ok (.tuple #[.agg #[.slice none 0 0], .bool false]) w
  c : ∀ xT w, (Instr.typeAssert o xT 55 true).run Tryz.prog w = .ok (.tuple #[.agg #[.int .u64 0, .slice none 0 0, .string ⟨#[]⟩, .int .i64 0, .string ⟨#[]⟩], .bool false]) w
  mt : ∀ xT w, ∃ ob, (Instr.typeAssert o xT 107 false).run Tryz.prog w = .halt (.panic (.iface 15 (.pointer (some ⟨w.heap.size, 0, none⟩)))) (w.alloc ob)
  mc : ∀ xT w, ∃ ob, (Instr.typeAssert o xT 55 false).run Tryz.prog w = .halt (.panic (.iface 15 (.pointer (some ⟨w.heap.size, 0, none⟩)))) (w.alloc ob)
theorem odd_nil : Odd .nilIface := ⟨nil_blob, nil_tree, nil_commit, must_nil_tree, must_nil_commit⟩
theorem odd_iface (t : TypeId) (v : Value) (h1 : t ≠ 72) (h2 : t ≠ 107) (h3 : t ≠ 55) : Odd (.iface t v) := ⟨no_blob t h1 v, no_tree t h2 v, no_commit t h3 v, must_not_tree t h2 v, must_not_commit t h3 v⟩

theorem ocheck_odd (o : Value) (h : Odd o) (w : World) : Calls Tryz.prog 54 #[o] w fun e w' => e = .returned (.int .i64 160) ∧ w' = w := by
  have h1 := h.b
  have h2 := h.t
  have h3 := h.c
  go_enter Tryz.func54, Tryz.ntmps54
  go_wp2
  go_ret
  exact ⟨rfl, rfl⟩
theorem Encode_odd (o : Value) (h : Odd o) (w : World) : Calls Tryz.prog 38 #[o] w fun e w' => e = .returned (.tuple #[.slice none 0 0, .int .i64 160]) ∧ w' = w := by
  go_enter Tryz.func38, Tryz.ntmps38
  go_wp2_with (go_at_call 54; refine (ocheck_odd o h _).mono ?_; rintro e w1 ⟨rfl, rfl⟩)
  go_ret2
  exact ⟨rfl, rfl⟩
theorem fresh_odd (o : Value) (h : Odd o) (w : World) : Calls Tryz.prog 59 #[o] w fun e w' => e = .returned .nilIface ∧ w' = w := by
  have h1 := h.b
  have h2 := h.t
  have h3 := h.c
  go_enter Tryz.func59, Tryz.ntmps59
  go_wp2
  go_ret
  exact ⟨rfl, rfl⟩
theorem Copy_odd (o : Value) (h : Odd o) (w : World) : Calls Tryz.prog 44 #[o] w fun e w' => e = .returned .nilIface ∧ w' = w := by
  go_enter Tryz.func44, Tryz.ntmps44
  go_wp2_with (go_at_call 59; refine (fresh_odd o h _).mono ?_; rintro e w1 ⟨rfl, rfl⟩)
  go_ret
  exact ⟨rfl, rfl⟩
theorem Same_odd (o x : Value) (h : Odd o) (w : World) : Calls Tryz.prog 41 #[o, x] w fun e w' => e = .returned (.bool false) ∧ w' = w := by
  go_enter Tryz.func41, Tryz.ntmps41
  go_wp2_with (go_at_call 54; refine (ocheck_odd o h _).mono ?_; rintro e w1 ⟨rfl, rfl⟩)
  go_ret
  exact ⟨rfl, rfl⟩
theorem Same_tree_odd (o : Value) (h : Odd o) (w : World) : Calls Tryz.prog 41 #[.iface 107 (.agg #[.slice none 0 0]), o] w fun e w' => e = .returned (.bool false) ∧ Below w.heap.size w w' := by
  have c1 := check_tree_none w
  have c2 := fun w => ocheck_odd o h w
  go_enter Tryz.func41, Tryz.ntmps41
  go_wp2_with first
    | (go_at_call 54; refine c1.mono ?_; clear c1; rintro e w1 ⟨rfl, hB1⟩)
    | (go_at_call 54; refine (c2 _).mono ?_; rintro e w2 ⟨rfl, rfl⟩)
  go_ret
  exact ⟨rfl, hB1⟩
end Go.Proofs.YtojpbemfbjkjjaaGreat

/- What is none of the three kinds, as a commit; and what MustTree, MustCommit do of it. -/
namespace Go.Proofs.YtojpbemfbjkjjaaGreat
open Go.RowKit

abbrev zC : Value := .agg #[.int .u64 0, .slice none 0 0, .string ⟨#[]⟩, .int .i64 0, .string ⟨#[]⟩]
/-- a block of a commit's five cells -/
def Box5 (W : World) (B : Nat) (a b c d e : Value) : Prop := W.heap[B]? = some (.cells #[a, b, c, d, e] 55 (0, 0))
theorem Box5.lt {W : World} {B : Nat} {a b c d e : Value} (h : Box5 W B a b c d e) : B < W.heap.size := (Array.getElem?_eq_some_iff.1 h).1
theorem Box5.cell {W : World} {B : Nat} {a b c d e : Value} (h : Box5 W B a b c d e) : W.cell? ⟨B, 0, none⟩ = some a ∧ W.cell? ⟨B, 1, none⟩ = some b ∧ W.cell? ⟨B, 2, none⟩ = some c ∧ W.cell? ⟨B, 3, none⟩ = some d ∧ W.cell? ⟨B, 4, none⟩ = some e := by
  have h' : W.heap[B]? = _ := h
  simp [World.cell?, h']
theorem Box5.frozen {W : World} {B : Nat} {a b c d e : Value} (h : Box5 W B a b c d e) : W.frozen? ⟨B, 0, none⟩ = false ∧ W.frozen? ⟨B, 1, none⟩ = false ∧ W.frozen? ⟨B, 2, none⟩ = false ∧ W.frozen? ⟨B, 3, none⟩ = false ∧ W.frozen? ⟨B, 4, none⟩ = false := by
  have h' : W.heap[B]? = _ := h
  simp [World.frozen?, h']
theorem Box5.new (W : World) (a b c d e : Value) : Box5 (W.alloc (.cells #[a, b, c, d, e] 55)) W.heap.size a b c d e := World.alloc_heap_new W _
theorem Box5.kept {W W' : World} {B : Nat} {a b c d e : Value} (h : Box5 W B a b c d e) (hB : Below W.heap.size W W') : Box5 W' B a b c d e := (hB.block B h.lt).trans h
theorem Box5.all {W : World} {B : Nat} {a b c d e : Value} (h : Box5 W B a b c d e) (a' b' c' d' e' : Value) : Box5 (((((W.setCell ⟨B, 0, none⟩ a').setCell ⟨B, 1, none⟩ b').setCell ⟨B, 2, none⟩ c').setCell ⟨B, 3, none⟩ d').setCell ⟨B, 4, none⟩ e') B a' b' c' d' e' := by
  have h' : W.heap[B]? = _ := h
  have hl := h.lt
  unfold Box5
  simp [World.setCell, Array.getElem?_modify, h']
theorem below5 {n0 : Nat} {w W : World} (h : Below n0 w W) {B : Nat} (hB : n0 ≤ B) (a' b' c' d' e' : Value) : Below n0 w (((((W.setCell ⟨B, 0, none⟩ a').setCell ⟨B, 1, none⟩ b').setCell ⟨B, 2, none⟩ c').setCell ⟨B, 3, none⟩ d').setCell ⟨B, 4, none⟩ e') :=
  ((((h.setCell (p := ⟨B, 0, none⟩) hB _).setCell (p := ⟨B, 1, none⟩) hB _).setCell (p := ⟨B, 2, none⟩) hB _).setCell (p := ⟨B, 3, none⟩) hB _).setCell (p := ⟨B, 4, none⟩) hB _

end Go.Proofs.YtojpbemfbjkjjaaGreat

/- The law's comparisons, of a thing with itself: entries, ids, commits. -/
namespace Go.Proofs.YtojpbemfbjkjjaaGreat
open Go.RowKit

theorem below_drewN {n0 : Nat} {w W : World} (h : Below n0 w W) (n : Nat) : Below n0 w (W.drewN n) := ⟨h.os, h.tape, h.output, h.size, h.block⟩
/-- a slice of ids -/
def Ids (w : World) (a : Option Addr) (n : Nat) (l : List Int) : Prop := l.length = n ∧ (0 < n → ∃ b off, a = some ⟨b, off, none⟩ ∧ ∀ (j : Nat) x, l[j]? = some x → w.cell? ⟨b, off + j, none⟩ = some (.int .u64 x))
theorem Ids.kept {w w' : World} {a : Option Addr} {n : Nat} {l : List Int} (h : Ids w a n l) (hB : Below w.heap.size w w') : Ids w' a n l :=
  ⟨h.1, fun h0 => by
    obtain ⟨b, off, e, hc⟩ := h.2 h0
    exact ⟨b, off, e, fun j x hx => (hB.cell (p := ⟨b, off + j, none⟩) (World.block_lt_of_cell? w _ (hc j x hx))).trans (hc j x hx)⟩⟩
/-- a slice of entries -/
abbrev Ent := ByteArray × Bool × Int
def Ents (w : World) (a : Option Addr) (n : Nat) (l : List Ent) : Prop := l.length = n ∧ (0 < n → ∃ b off, a = some ⟨b, off, none⟩ ∧ ∀ (j : Nat) x, l[j]? = some x → w.cell? ⟨b, off + j * 3, none⟩ = some (.string x.1) ∧ w.cell? ⟨b, off + j * 3 + 1, none⟩ = some (.bool x.2.1) ∧ w.cell? ⟨b, off + j * 3 + 2, none⟩ = some (.int .u64 x.2.2))
theorem Ents.kept {w w' : World} {a : Option Addr} {n : Nat} {l : List Ent} (h : Ents w a n l) (hB : Below w.heap.size w w') : Ents w' a n l :=
  ⟨h.1, fun h0 => by
    obtain ⟨b, off, e, hc⟩ := h.2 h0
    refine ⟨b, off, e, fun j x hx => ?_⟩
    obtain ⟨h1, h2, h3⟩ := hc j x hx
    exact ⟨(hB.cell (p := ⟨b, off + j * 3, none⟩) (World.block_lt_of_cell? w _ h1)).trans h1, (hB.cell (p := ⟨b, off + j * 3 + 1, none⟩) (World.block_lt_of_cell? w _ h2)).trans h2, (hB.cell (p := ⟨b, off + j * 3 + 2, none⟩) (World.block_lt_of_cell? w _ h3)).trans h3⟩⟩

abbrev cmt (t : Int) (pa : Option Addr) (pn pc : Nat) (au : ByteArray) (d : Int) (tx : ByteArray) : Value := .agg #[.int .u64 t, .slice pa pn pc, .string au, .int .i64 d, .string tx]
end Go.Proofs.YtojpbemfbjkjjaaGreat

/- Does an object answer what it must: the walk of says, of every object. -/
namespace Go.Proofs.YtojpbemfbjkjjaaGreat
open Go.RowKit

attribute [local go_sem] Oper.semAt_some

theorem Ids.below {w W : World} {a : Option Addr} {n : Nat} {l : List Int} (h : Ids w a n l) (hB : Below w.heap.size w W) : Ids W a n l := by
  refine ⟨h.1, fun h0 => ?_⟩
  obtain ⟨b, off, e, hc⟩ := h.2 h0
  exact ⟨b, off, e, fun j x hx => (hB.cell (p := ⟨b, off + j, none⟩) (World.block_lt_of_cell? w _ (hc j x hx))).trans (hc j x hx)⟩

theorem own_ids {w : World} {B : Nat} {v : Value} {ids : List Int} (h : w.ownsRow B 31 1 v ids.length (ids.map (Value.int .u64))) : ∃ ad c, v = .slice ad ids.length c ∧ Ids w ad ids.length ids := by
  obtain ⟨ad, c, rfl, hc, hn⟩ := row_shape h
  refine ⟨ad, c, rfl, rfl, fun h0 => ?_⟩
  rcases h.2 with ⟨e, h'⟩ | ⟨g, cap, cur, e, _⟩
  · omega
  · cases e
    refine ⟨g, 0, rfl, fun j x hx => ?_⟩
    have := h.cells (g := g) rfl j (.int .u64 x) (by rw [List.getElem?_map, hx]; rfl)
    rw [Addr.add_lit] at this
    exact this
def OwnR (B : Nat) (v : Value) (n : Nat) (W : World) : Prop := ∃ xs, W.ownsRow B 5 1 v n xs
def OwnI (B : Nat) (v : Value) (n : Nat) (W : World) : Prop := ∃ xs, W.ownsRow B 31 1 v n xs
theorem below_gr {W W' : World} {B n : Nat} {t : TypeId} {v : Value} {xs : List Value} (h : W.ownsRow B t 1 v n xs) (hB : B ≤ W.heap.size) (hg : W.grownBy W' v.ownBlock) : Below B W W' :=
  ⟨hg.os, hg.tape, hg.output, hg.size, fun k hk => hg.block k (by omega) (fun e => by have := (row_block h k e.symm).1; omega)⟩
theorem cells_two (W : World) (t : TypeId) (a b : Value) : ∀ (j : Nat) u, [a, b][j]? = some u → (W.alloc (.cells #[a, b] t)).cell? (Addr.add ⟨W.heap.size, 0, none⟩ j) = some u := by
  intro j u hj
  match j, hj with
  | 0, hj => simp at hj; subst hj; simp [Addr.add]
  | 1, hj => simp at hj; subst hj; simp [Addr.add]

end Go.Proofs.YtojpbemfbjkjjaaGreat
