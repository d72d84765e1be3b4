import Derived.Test.YtncagdfbgpdhfaaGreatP03
import Derived.Test.YtncagdfbgpdhfaaGreatP02
import Derived.Lib.SlBytesConst
import Derived.Test.YtncagdfbgpdhfaaGreatProg
import Derived.Test.YtncagdfbgpdhfaaGreatP01
import Derived.Outline
import Derived.Lib.SliceRun
import Derived.Deep.QuietTactic
import Derived.BigQuiet
import Derived.Laws.OwnMore
import Derived.Laws.RangeAny
/- A blob's bytes. -/
namespace Go.Proofs.YtncagdfbgpdhfaaGreat
open Go.RowKit

def blobErr (n : Nat) : Int := if 4096 < n then 3 else 0
theorem checkBlob_any (a : Option Addr) (n c : Nat) (w : World) : Calls Tryz.prog 100 #[.agg #[.slice a n c]] w fun e w' => e = .returned (.int .i64 (blobErr n)) ∧ Below w.heap.size w w' := by
  have hB0 : Below w.heap.size w (w.alloc (.cells #[.slice a n c] 82)) := (Below.refl _ w).alloc (Nat.le_refl _) _
  by_cases h : 4096 < n
  · have i1 : (4096 : Int) < n := by omega
    go_enter Tryz.func100, Tryz.ntmps100
    go_wp2
    go_ret
    exact ⟨by unfold blobErr; rw [if_pos h]; rfl, hB0⟩
  · have i1 : ¬ (4096 : Int) < n := by omega
    go_enter Tryz.func100, Tryz.ntmps100
    go_wp2
    go_ret
    exact ⟨by unfold blobErr; rw [if_neg h]; rfl, hB0⟩
theorem check_blob (a : Option Addr) (n c : Nat) (w : World) : Calls Tryz.prog 74 #[.iface 82 (.agg #[.slice a n c])] w fun e w' => e = .returned (.int .i64 (blobErr n)) ∧ Below w.heap.size w w' := by
  have h1 := as_blob (.agg #[.slice a n c])
  have hB0 : Below w.heap.size w (w.alloc (.cells #[.slice a n c] 82)) := (Below.refl _ w).alloc (Nat.le_refl _) _
  go_enter Tryz.func74, Tryz.ntmps74
  go_wp2_with (go_at_call 100; refine (checkBlob_any a n c _).mono ?_; rintro e w1 ⟨rfl, hB⟩)
  go_ret
  exact ⟨rfl, hB0.trans (hB.mono (by simp))⟩

theorem out_new (w : World) : OOut w w.heap.size [] (w.alloc (.cells #[.slice none 0 0] 80)) :=
  ⟨⟨_, Boxed.new _ _ _, World.ownsRow_nil _ _ _ _⟩, (Below.refl _ w).alloc (Nat.le_refl _) _, Nat.le_refl _⟩
theorem bytes_below {w W : World} {a : Option Addr} {n : Nat} {l : List UInt8} (h : Bytes w a n l) (hB : Below w.heap.size w W) : Bytes W a n l := by
  refine ⟨h.1, fun h0 => ?_⟩
  obtain ⟨b, off, e, hc⟩ := h.2 h0
  refine ⟨b, off, e, fun j hj => ?_⟩
  exact (hB.cell (p := ⟨b, off + j, none⟩) (World.block_lt_of_cell? w _ (hc j hj))).trans (hc j hj)

set_option maxRecDepth 20000 in
set_option maxHeartbeats 1000000 in
theorem encode_blob (a : Option Addr) (n c : Nat) (l : List UInt8) (w : World) (hb : Bytes w a n l) (hnil : a = none → n = 0 ∧ c = 0) (hm : n ≤ 70368744177664) :
    Calls Tryz.prog 75 #[.iface 82 (.agg #[.slice a n c])] w fun e w' => ∃ v, e = .returned v ∧ w'.ownsRow w.heap.size 5 1 v (98 :: l).length (cellsOf (98 :: l)) ∧ Below w.heap.size w w' := by
  have hmf : ∀ (fn : Fn) (first cap : Array Value) (w : World), (Instr.makeFunc fn first cap).run Tryz.prog w = .ok (.func fn first cap) w := fun _ _ _ _ => rfl
  have h1 := as_blob (.agg #[.slice a n c])
  have HO := ((out_new w).alloc (.cells #[.slice a n c] 82)).alloc (.cells #[.int .u8 98] 5)
  have hO2 : Boxed ((w.alloc (.cells #[.slice none 0 0] 80)).alloc (.cells #[.slice a n c] 82)) (w.heap.size + 1) 82 (.slice a n c) := by
    have := Boxed.new (w.alloc (.cells #[.slice none 0 0] 80)) 82 (.slice a n c)
    rw [World.size_alloc] at this
    exact this
  have hby := bytes_new ((w.alloc (.cells #[.slice none 0 0] 80)).alloc (.cells #[.slice a n c] 82)) [98] _ rfl
  have hp := put_any w w.heap.size [] (some ⟨w.heap.size + 1 + 1, 0, none⟩) 1 1 [98] _ HO (by rw [World.size_alloc, World.size_alloc] at hby; exact hby) (fun h => by cases h) (by simp)
  clear HO
  have hK := hO2.alloc (.cells #[.int .u8 98] 5)
  clear hO2 hby
  go_enter Tryz.func75, Tryz.ntmps75
  go_wp2_with first
    | (go_at_call 103; refine hp.mono ?_; rintro e w1 ⟨rfl, hO1, hk1⟩; have cb := (hk1 _ _ _ hK (by decide) (by omega)).cell; have HO1 : Hid (OOut w w.heap.size ([] ++ [98]) w1) := hO1; clear hp hO1 hk1)
    | (go_at_call 103; refine (put_any w w.heap.size ([] ++ [98]) a n c l _ HO1.out (bytes_below hb HO1.out.bel) hnil (by simp; omega)).mono ?_; rintro e w2 ⟨rfl, hO2, _⟩; obtain ⟨v, hv, ho⟩ := hO2.box; have cv := hv.cell; obtain ⟨ad, cp, rfl, _⟩ := row_shape ho; have HO2 : Hid (OOut w w.heap.size (([] ++ [98]) ++ l) w2) := hO2; clear hO2 HO1)
  go_ret
  exact ⟨_, rfl, ho, HO2.out.bel⟩
theorem row_lower {w : World} {B B' n : Nat} {e : TypeId} {v : Value} {xs : List Value} (h : w.ownsRow B e 1 v n xs) (hB : B' ≤ B) : w.ownsRow B' e 1 v n xs := by
  refine ⟨h.1, ?_⟩
  rcases h.2 with h0 | ⟨g, cap, cur, h1, h2, h3⟩
  · exact .inl h0
  · exact .inr ⟨g, cap, cur, h1, by omega, h3⟩
theorem Encode_blob (a : Option Addr) (n c : Nat) (l : List UInt8) (w : World) (hb : Bytes w a n l) (hnil : a = none → n = 0 ∧ c = 0) (hm : n ≤ 4096) :
    Calls Tryz.prog 52 #[.iface 82 (.agg #[.slice a n c])] w fun e w' => ∃ v, e = .returned (.tuple #[v, .int .i64 0]) ∧ w'.ownsRow w.heap.size 5 1 v (98 :: l).length (cellsOf (98 :: l)) ∧ Below w.heap.size w w' := by
  have c1 := check_blob a n c w
  rw [show blobErr n = 0 by unfold blobErr; rw [if_neg (by omega)]] at c1
  go_enter Tryz.func52, Tryz.ntmps52
  go_wp2_with first
    | (go_at_call 74; refine c1.mono ?_; rintro e w1 ⟨rfl, hB1⟩)
    | (go_at_call 75; refine (encode_blob a n c l _ (bytes_below hb hB1) hnil (by omega)).mono ?_; rintro e w2 ⟨v, rfl, ho, hB2⟩; have HO : Hid (w2.ownsRow w1.heap.size 5 1 v (98 :: l).length (cellsOf (98 :: l))) := ho; clear ho)
  go_ret2
  refine ⟨_, rfl, ?_, hB1.trans (hB2.mono hB1.size)⟩
  exact row_lower HO.out hB1.size
end Go.Proofs.YtncagdfbgpdhfaaGreat

/- The walk of wakes: a blob's bytes, and the empty tree read. -/
namespace Go.Proofs.YtncagdfbgpdhfaaGreat
open Go.RowKit

end Go.Proofs.YtncagdfbgpdhfaaGreat

/- The walk of the program's Hash. -/
namespace Go.Proofs.YtncagdfbgpdhfaaGreat
open Go.RowKit

/-- the hash of the first k bytes of l -/
def hashTo (l : List UInt8) : Nat → Int
  | 0 => 14695981039346656037
  | k + 1 => IntKind.u64.wrap (bits BinOp.xor IntKind.u64 (hashTo l k) (bt l k) * 1099511628211)
theorem hashTo_zero (l : List UInt8) : hashTo l 0 = 14695981039346656037 := rfl
theorem hashTo_succ (l : List UInt8) (k : Nat) : hashTo l (k + 1) = IntKind.u64.wrap (bits BinOp.xor IntKind.u64 (hashTo l k) (bt l k) * 1099511628211) := rfl
theorem hashTo_lo (l : List UInt8) (k : Nat) : 0 ≤ hashTo l k := by
  cases k with
  | zero => rw [hashTo_zero]; omega
  | succ k => rw [hashTo_succ]; rw [IntKind.wrap_u64]; omega
theorem hashTo_hi (l : List UInt8) (k : Nat) : hashTo l k ≤ 18446744073709551615 := by
  cases k with
  | zero => rw [hashTo_zero]; omega
  | succ k => rw [hashTo_succ]; rw [IntKind.wrap_u64]; omega

set_option maxHeartbeats 400000 in
theorem hash_any (a : Option Addr) (n cap : Nat) (l : List UInt8) (w : World) (hb : Bytes w a n l) (hm : n ≤ maxLen) :
    Calls Tryz.prog 76 #[.slice a n cap] w fun e w' => e = .returned (.int .u64 (hashTo l n)) ∧ w' = w := by
  unfold maxLen at hm
  obtain ⟨hl, hc⟩ := hb
  go_enter Tryz.func76, Tryz.ntmps76
  go_wp2
  go_loop [3, 8] (fun h i => ∃ k : Nat, k ≤ n ∧ i = .int .i64 k ∧ h = .int .u64 (hashTo l k)) (fun _ i => n - (intOf i).toNat)
  case atStart => exact ⟨0, Nat.zero_le _, rfl, rfl⟩
  case round =>
    obtain ⟨k, hk, rfl, rfl⟩ := hrel
    by_cases hlt : k < n
    · obtain ⟨b, off, rfl, hcell⟩ := hc (by omega)
      have hck := hcell k hlt
      have b0 := bt_lo l k
      have b1 := bt_hi l k
      have h0 := hashTo_lo l k
      have h1 := hashTo_hi l k
      clear hcell hc
      go_wp2
      go_round
      case rel => exact ⟨k + 1, by omega, by go_num, by rw [hashTo_succ]⟩
      case measure => simp [intOf]; omega
    · go_wp2
      go_ret
      obtain rfl : k = n := by omega
      exact ⟨rfl, rfl⟩

end Go.Proofs.YtncagdfbgpdhfaaGreat

/- The walk of the document's Hash: it answers the same function of the bytes as the program's. -/
namespace Go.Proofs.YtncagdfbgpdhfaaGreat
open Go.RowKit

end Go.Proofs.YtncagdfbgpdhfaaGreat

/- What the calls of the layer answer of a blob. -/
namespace Go.Proofs.YtncagdfbgpdhfaaGreat
open Go.RowKit

set_option maxHeartbeats 1000000 in
theorem oequal_any (w : World) (a b : Option Addr) (n m c d : Nat) (l k : List UInt8) (ha : Bytes w a n l) (hb : Bytes w b m k) :
    Calls Tryz.prog 77 #[.slice a n c, .slice b m d] w fun e w' => e = .returned (.bool (decide (l = k))) ∧ w' = w := by
  have r1 := run_string w a n c l ha
  have r2 := run_string w b m d k hb
  go_enter Tryz.func77, Tryz.ntmps77
  go_wp2
  go_ret
  refine ⟨?_, rfl⟩
  simp
  rw [Bool.eq_iff_iff]
  simp
set_option maxHeartbeats 1000000 in
theorem oclone_any (a : Option Addr) (n c : Nat) (l : List UInt8) (w : World) (hb : Bytes w a n l) (hnil : a = none → n = 0 ∧ c = 0) (hbig : n ≤ 140737488355328) :
    Calls Tryz.prog 71 #[.slice a n c] w fun e w' => ∃ v, e = .returned v ∧ w'.ownsRow w.heap.size 5 1 v n (cellsOf l) ∧ Below w.heap.size w w' := by
  have q22 : ∀ (w : World) (a : Option Addr) (n c n' c' : Nat), (binOp .eql 80 (.slice a n c) (.slice none n' c')).run Tryz.prog w = .ok (.bool a.isNone) w := fun w a n c n' c' => Lib.run_eql_slice_nil w _ _ a n c n' c' Tryz.underlying80
  cases a with
  | none =>
    obtain ⟨rfl, rfl⟩ := hnil rfl
    have hl : l = [] := List.eq_nil_of_length_eq_zero hb.1
    subst hl
    go_enter Tryz.func71, Tryz.ntmps71
    go_wp2
    go_ret
    exact ⟨_, rfl, World.ownsRow_nil _ _ _ _, Below.refl _ _⟩
  | some a =>
    have hB0 : Below w.heap.size w (w.alloc (.cells #[] 5)) := (Below.refl _ _).alloc (Nat.le_refl _) _
    have hb0 : Bytes (w.alloc (.cells #[] 5)) (some a) n l := bytes_below hb hB0
    have hr0 : (w.alloc (.cells #[] 5)).ownsRow w.heap.size 5 1 (.slice (some ⟨w.heap.size, 0, none⟩) 0 0) 0 [] := World.ownsRow_made w #[] 0 (Nat.le_refl _) (by unfold maxLen; omega) rfl
    go_enter Tryz.func71, Tryz.ntmps71
    go_wp2_with (at_builtin; refine wpList_app _ w.heap.size (by simp) rfl _ _ rfl (.slice (some ⟨w.heap.size, 0, none⟩) 0 0) 0 [] rfl hr0 (some a) n c l rfl hb0 hnil (by omega) ?_; intro v' w1 hown hgrow _; obtain ⟨a', c', rfl, hnc, hnn⟩ := row_shape hown)
    go_ret
    simp only [Nat.zero_add, List.nil_append] at *
    refine ⟨_, rfl, hown, hB0.grown hgrow (by simp) (by intro k hk; cases hk; exact Nat.le_refl _)⟩

def idOf (l : List UInt8) : Int := if hashTo l l.length = 0 then 1 else hashTo l l.length
theorem Id_any (a : Option Addr) (n c : Nat) (l : List UInt8) (w : World) (hb : Bytes w a n l) (hm : n ≤ maxLen) : Calls Tryz.prog 53 #[.slice a n c] w fun e w' => e = .returned (.int .u64 (idOf l)) ∧ w' = w := by
  have hh := hash_any a n c l w hb hm
  have e0 : idOf l = if hashTo l n = 0 then 1 else hashTo l n := by unfold idOf; rw [hb.1]
  rw [e0]
  generalize hashTo l n = h at hh
  by_cases h0 : h = 0
  · subst h0
    go_enter Tryz.func53, Tryz.ntmps53
    go_wp2_with (go_at_call 76; refine hh.mono ?_; rintro e w1 ⟨rfl, rfl⟩)
    go_ret
    exact ⟨rfl, rfl⟩
  · have h1 : (h == 0) = false := beq_eq_false_iff_ne.2 h0
    go_enter Tryz.func53, Tryz.ntmps53
    go_wp2_with (go_at_call 76; refine hh.mono ?_; rintro e w1 ⟨rfl, rfl⟩)
    go_ret
    exact ⟨rfl, rfl⟩
/-- a row of bytes of the call's own -/
structure OwnB (B : Nat) (l : List UInt8) (v : Value) (w : World) : Prop where
  row : w.ownsRow B 5 1 v l.length (cellsOf l)
theorem OwnB.shape {B : Nat} {l : List UInt8} {v : Value} {w : World} {n : Nat} (h : OwnB B l v w) (hl : l.length = n) : ∃ ad c, v = .slice ad n c ∧ (ad = none → n = 0 ∧ c = 0) := by
  subst hl
  obtain ⟨ad, c, rfl, _, h2⟩ := row_shape h.row
  exact ⟨ad, c, rfl, h2⟩
theorem OwnB.bytes {B : Nat} {l : List UInt8} {ad : Option Addr} {c : Nat} {w : World} {n : Nat} (h : OwnB B l (.slice ad n c) w) (hl : l.length = n) : Bytes w ad n l := by
  subst hl
  exact row_bytes h.row
end Go.Proofs.YtncagdfbgpdhfaaGreat

/- What is none of the three kinds: nil, pointers. -/
namespace Go.Proofs.YtncagdfbgpdhfaaGreat
open Go.RowKit

/-- an interface value that holds none of the three types -/
structure Odd (o : Value) : Prop where
  b : ∀ xT w, (Instr.typeAssert o xT 82 true).run Tryz.prog w = .ok (.tuple #[.agg #[.slice none 0 0], .bool false]) w
  t : ∀ xT w, (Instr.typeAssert o xT 125 true).run Tryz.prog w = .ok (.tuple #[.agg #[.slice none 0 0], .bool false]) w
  c : ∀ xT w, (Instr.typeAssert o xT 78 true).run Tryz.prog w = .ok (.tuple #[.agg #[.int .u64 0, .slice none 0 0, .string ⟨#[]⟩, .int .i64 0, .string ⟨#[]⟩], .bool false]) w
  mt : ∀ xT w, ∃ ob, (Instr.typeAssert o xT 125 false).run Tryz.prog w = .halt (.panic (.iface 15 (.pointer (some ⟨w.heap.size, 0, none⟩)))) (w.alloc ob)
  mc : ∀ xT w, ∃ ob, (Instr.typeAssert o xT 78 false).run Tryz.prog w = .halt (.panic (.iface 15 (.pointer (some ⟨w.heap.size, 0, none⟩)))) (w.alloc ob)
theorem odd_nil : Odd .nilIface := ⟨nil_blob, nil_tree, nil_commit, must_nil_tree, must_nil_commit⟩
theorem ocheck_odd (o : Value) (h : Odd o) (w : World) : Calls Tryz.prog 74 #[o] w fun e w' => e = .returned (.int .i64 160) ∧ w' = w := by
  have h1 := h.b
  have h2 := h.t
  have h3 := h.c
  go_enter Tryz.func74, Tryz.ntmps74
  go_wp2
  go_ret
  exact ⟨rfl, rfl⟩
end Go.Proofs.YtncagdfbgpdhfaaGreat

/- What is none of the three kinds, as a commit; and what MustTree, MustCommit do of it. -/
namespace Go.Proofs.YtncagdfbgpdhfaaGreat
open Go.RowKit

/-- a block of a commit's five cells -/
def Box5 (W : World) (B : Nat) (a b c d e : Value) : Prop := W.heap[B]? = some (.cells #[a, b, c, d, e] 78 (0, 0))
theorem Box5.lt {W : World} {B : Nat} {a b c d e : Value} (h : Box5 W B a b c d e) : B < W.heap.size := (Array.getElem?_eq_some_iff.1 h).1
theorem Box5.cell {W : World} {B : Nat} {a b c d e : Value} (h : Box5 W B a b c d e) : W.cell? ⟨B, 0, none⟩ = some a ∧ W.cell? ⟨B, 1, none⟩ = some b ∧ W.cell? ⟨B, 2, none⟩ = some c ∧ W.cell? ⟨B, 3, none⟩ = some d ∧ W.cell? ⟨B, 4, none⟩ = some e := by
  have h' : W.heap[B]? = _ := h
  simp [World.cell?, h']
theorem Box5.frozen {W : World} {B : Nat} {a b c d e : Value} (h : Box5 W B a b c d e) : W.frozen? ⟨B, 0, none⟩ = false ∧ W.frozen? ⟨B, 1, none⟩ = false ∧ W.frozen? ⟨B, 2, none⟩ = false ∧ W.frozen? ⟨B, 3, none⟩ = false ∧ W.frozen? ⟨B, 4, none⟩ = false := by
  have h' : W.heap[B]? = _ := h
  simp [World.frozen?, h']
theorem Box5.new (W : World) (a b c d e : Value) : Box5 (W.alloc (.cells #[a, b, c, d, e] 78)) W.heap.size a b c d e := World.alloc_heap_new W _
theorem Box5.kept {W W' : World} {B : Nat} {a b c d e : Value} (h : Box5 W B a b c d e) (hB : Below W.heap.size W W') : Box5 W' B a b c d e := (hB.block B h.lt).trans h
theorem Box5.all {W : World} {B : Nat} {a b c d e : Value} (h : Box5 W B a b c d e) (a' b' c' d' e' : Value) : Box5 (((((W.setCell ⟨B, 0, none⟩ a').setCell ⟨B, 1, none⟩ b').setCell ⟨B, 2, none⟩ c').setCell ⟨B, 3, none⟩ d').setCell ⟨B, 4, none⟩ e') B a' b' c' d' e' := by
  have h' : W.heap[B]? = _ := h
  have hl := h.lt
  unfold Box5
  simp [World.setCell, Array.getElem?_modify, h']
theorem below5 {n0 : Nat} {w W : World} (h : Below n0 w W) {B : Nat} (hB : n0 ≤ B) (a' b' c' d' e' : Value) : Below n0 w (((((W.setCell ⟨B, 0, none⟩ a').setCell ⟨B, 1, none⟩ b').setCell ⟨B, 2, none⟩ c').setCell ⟨B, 3, none⟩ d').setCell ⟨B, 4, none⟩ e') :=
  ((((h.setCell (p := ⟨B, 0, none⟩) hB _).setCell (p := ⟨B, 1, none⟩) hB _).setCell (p := ⟨B, 2, none⟩) hB _).setCell (p := ⟨B, 3, none⟩) hB _).setCell (p := ⟨B, 4, none⟩) hB _

end Go.Proofs.YtncagdfbgpdhfaaGreat

/- The law's comparisons, of a thing with itself: entries, ids, commits. -/
namespace Go.Proofs.YtncagdfbgpdhfaaGreat
open Go.RowKit

theorem below_drewN {n0 : Nat} {w W : World} (h : Below n0 w W) (n : Nat) : Below n0 w (W.drewN n) := ⟨h.os, h.tape, h.output, h.size, h.block⟩
/-- a slice of ids -/
def Ids (w : World) (a : Option Addr) (n : Nat) (l : List Int) : Prop := l.length = n ∧ (0 < n → ∃ b off, a = some ⟨b, off, none⟩ ∧ ∀ (j : Nat) x, l[j]? = some x → w.cell? ⟨b, off + j, none⟩ = some (.int .u64 x))
theorem Ids.kept {w w' : World} {a : Option Addr} {n : Nat} {l : List Int} (h : Ids w a n l) (hB : Below w.heap.size w w') : Ids w' a n l :=
  ⟨h.1, fun h0 => by
    obtain ⟨b, off, e, hc⟩ := h.2 h0
    exact ⟨b, off, e, fun j x hx => (hB.cell (p := ⟨b, off + j, none⟩) (World.block_lt_of_cell? w _ (hc j x hx))).trans (hc j x hx)⟩⟩
/-- a slice of entries -/
abbrev Ent := ByteArray × Bool × Int
def Ents (w : World) (a : Option Addr) (n : Nat) (l : List Ent) : Prop := l.length = n ∧ (0 < n → ∃ b off, a = some ⟨b, off, none⟩ ∧ ∀ (j : Nat) x, l[j]? = some x → w.cell? ⟨b, off + j * 3, none⟩ = some (.string x.1) ∧ w.cell? ⟨b, off + j * 3 + 1, none⟩ = some (.bool x.2.1) ∧ w.cell? ⟨b, off + j * 3 + 2, none⟩ = some (.int .u64 x.2.2))
theorem Ents.kept {w w' : World} {a : Option Addr} {n : Nat} {l : List Ent} (h : Ents w a n l) (hB : Below w.heap.size w w') : Ents w' a n l :=
  ⟨h.1, fun h0 => by
    obtain ⟨b, off, e, hc⟩ := h.2 h0
    refine ⟨b, off, e, fun j x hx => ?_⟩
    obtain ⟨h1, h2, h3⟩ := hc j x hx
    exact ⟨(hB.cell (p := ⟨b, off + j * 3, none⟩) (World.block_lt_of_cell? w _ h1)).trans h1, (hB.cell (p := ⟨b, off + j * 3 + 1, none⟩) (World.block_lt_of_cell? w _ h2)).trans h2, (hB.cell (p := ⟨b, off + j * 3 + 2, none⟩) (World.block_lt_of_cell? w _ h3)).trans h3⟩⟩

abbrev cmt (t : Int) (pa : Option Addr) (pn pc : Nat) (au : ByteArray) (d : Int) (tx : ByteArray) : Value := .agg #[.int .u64 t, .slice pa pn pc, .string au, .int .i64 d, .string tx]
end Go.Proofs.YtncagdfbgpdhfaaGreat

/- Does an object answer what it must: the walk of says, of every object. -/
namespace Go.Proofs.YtncagdfbgpdhfaaGreat
open Go.RowKit

attribute [local go_sem] Oper.semAt_some

theorem Ids.below {w W : World} {a : Option Addr} {n : Nat} {l : List Int} (h : Ids w a n l) (hB : Below w.heap.size w W) : Ids W a n l := by
  refine ⟨h.1, fun h0 => ?_⟩
  obtain ⟨b, off, e, hc⟩ := h.2 h0
  exact ⟨b, off, e, fun j x hx => (hB.cell (p := ⟨b, off + j, none⟩) (World.block_lt_of_cell? w _ (hc j x hx))).trans (hc j x hx)⟩

theorem own_ids {w : World} {B : Nat} {v : Value} {ids : List Int} (h : w.ownsRow B 31 1 v ids.length (ids.map (Value.int .u64))) : ∃ ad c, v = .slice ad ids.length c ∧ Ids w ad ids.length ids := by
  obtain ⟨ad, c, rfl, hc, hn⟩ := row_shape h
  refine ⟨ad, c, rfl, rfl, fun h0 => ?_⟩
  rcases h.2 with ⟨e, h'⟩ | ⟨g, cap, cur, e, _⟩
  · omega
  · cases e
    refine ⟨g, 0, rfl, fun j x hx => ?_⟩
    have := h.cells (g := g) rfl j (.int .u64 x) (by rw [List.getElem?_map, hx]; rfl)
    rw [Addr.add_lit] at this
    exact this
end Go.Proofs.YtncagdfbgpdhfaaGreat

/- Names and paths as rows of bytes: what the document says of them, and what follows. Of no program. -/
namespace Go.Proofs.YtncagdfbgpdhfaaGreat

/-! runes -/
theorem get_list (s : ByteArray) (n : Nat) : s.get! n = s.data.toList.getD n 0 := by
  obtain ⟨d⟩ := s
  show d[n]! = _
  rw [List.getD_eq_getElem?_getD, getElem!_def]
  show _ = (d.toList[n]?).getD 0
  rw [Array.getElem?_toList]
  cases d[n]? <;> rfl

/-- the rune at the front of these bytes, and its width -/
def dec (l : List UInt8) : Nat × Nat := Utf8.decode ⟨l.toArray⟩ 0

theorem decode_dec (s : ByteArray) (i : Nat) : Utf8.decode s i = dec (s.data.toList.drop i) := by
  have hg : ∀ k, (⟨(s.data.toList.drop i).toArray⟩ : ByteArray).get! (0 + k) = s.get! (i + k) := fun k => by
    rw [get_list, get_list]; simp
  have hz : ∀ k, (0 + k < (⟨(s.data.toList.drop i).toArray⟩ : ByteArray).size) = (i + k < s.size) := fun k => by
    have h1 : (⟨(s.data.toList.drop i).toArray⟩ : ByteArray).size = s.size - i := by
      show (s.data.toList.drop i).toArray.size = s.data.size - i
      simp
    rw [h1]
    exact propext ⟨fun h => by omega, fun h => by omega⟩
  unfold dec Utf8.decode
  simp only [hg, hz]

theorem dec_pos (l : List UInt8) : 1 ≤ (dec l).2 := by
  unfold dec
  simp only [Utf8.decode]
  repeat' split
  all_goals simp

theorem dec_le (l : List UInt8) (h : l ≠ []) : (dec l).2 ≤ l.length := by
  have hl : 1 ≤ l.length := by cases l with | nil => exact absurd rfl h | cons a t => simp
  have hz : (⟨l.toArray⟩ : ByteArray).size = l.length := by show l.toArray.size = _; simp
  unfold dec
  simp only [Utf8.decode, hz]
  repeat' split
  all_goals simp_all
  all_goals omega

/-! names -/
def fffd : List UInt8 := [239, 191, 189]
/-- may the rune at the front not stand in a name? -/
def bad (l : List UInt8) : Bool := decide ((dec l).1 < 32) || decide ((dec l).1 = 127) || decide ((dec l).1 = 47) || (decide ((dec l).1 = 65533) && !(fffd.isPrefixOf l))

theorem drop_lt (l : List UInt8) (h : ¬ l = []) : (l.drop (dec l).2).length < l.length := by
  have := dec_pos l
  have hl : 1 ≤ l.length := by cases l with | nil => exact absurd rfl h | cons a t => simp
  rw [List.length_drop]; omega

/-- the first wrong byte -/
def badAt (l : List UInt8) : Option Nat :=
  if l = [] then none else if bad l then some 0 else (badAt (l.drop (dec l).2)).map (· + (dec l).2)
termination_by l.length
decreasing_by exact drop_lt l (by assumption)

theorem badAt_nil : badAt [] = none := by rw [badAt]; simp
theorem badAt_bad (l : List UInt8) (h : l ≠ []) (hb : bad l = true) : badAt l = some 0 := by rw [badAt, if_neg h, if_pos hb]
theorem badAt_go (l : List UInt8) (h : l ≠ []) (hb : bad l = false) : badAt l = (badAt (l.drop (dec l).2)).map (· + (dec l).2) := by rw [badAt, if_neg h, if_neg (by simp [hb])]

/-- what is wrong with a name -/
def spot (l : List UInt8) : Nat × Nat := if l = [] ∨ l = [46] ∨ l = [46, 46] then (140, 0) else if 32 < l.length then (3, 32) else match badAt l with
  | some k => (140, k)
  | none => (0, 0)
/-! paths -/
/-! what lies in what -/
end Go.Proofs.YtncagdfbgpdhfaaGreat
