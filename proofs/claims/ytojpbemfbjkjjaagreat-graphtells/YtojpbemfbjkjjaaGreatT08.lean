import Derived.Test.YtojpbemfbjkjjaaGreatT06
import Derived.Deep.QuietTactic
import Derived.BigQuiet
import Derived.Test.YtojpbemfbjkjjaaGreatT07
/- The document's check of a tree. -/
namespace Go.Proofs.YtojpbemfbjkjjaaGreat
open Go.RowKit

attribute [local go_sem] Oper.semAt_some

theorem sle_none (nm : ByteArray) (h : (spot (bs nm)).1 = 0) : sle nm ⟨#[]⟩ = false := by
  have hne : nm.toList ≠ [] := by
    intro e
    rw [toList_bs] at e
    rw [e] at h
    exact absurd h (by decide)
  unfold sle
  have : (⟨#[]⟩ : ByteArray).toList = [] := by rw [toList_bs]; rfl
  rw [this]
  cases hn : nm.toList with
  | nil => exact absurd hn hne
  | cons x r => rfl

end Go.Proofs.YtojpbemfbjkjjaaGreat

/- What the calls of the layer answer of a tree. -/
namespace Go.Proofs.YtojpbemfbjkjjaaGreat
open Go.RowKit

theorem Ents.below {w W : World} {a : Option Addr} {n : Nat} {l : List Ent} (h : Ents w a n l) (hB : Below w.heap.size w W) : Ents W a n l := h.kept hB
abbrev trV (a : Option Addr) (n c : Nat) : Value := .iface 107 (.agg #[.slice a n c])
def treeB (l : List Ent) : List UInt8 := 116 :: (short l.length ++ entsB l)
theorem no_blob_tree (v : Value) : ∀ xT w, (Instr.typeAssert (.iface 107 v) xT 72 true).run Tryz.prog w = .ok (.tuple #[.agg #[.slice none 0 0], .bool false]) w := no_blob 107 (by decide) v

theorem check_tree (a : Option Addr) (n c : Nat) (l : List Ent) (w : World) (h : Ents w a n l) (hs : Short l) (hn : n ≤ 9223372036854775807) : Calls Tryz.prog 54 #[trV a n c] w fun e w' => e = .returned (.int .i64 (treeErrs l)) ∧ Below w.heap.size w w' := by
  have h1 := no_blob_tree (.agg #[.slice a n c])
  have h2 := as_tree (.agg #[.slice a n c])
  have hB0 : Below w.heap.size w (w.alloc (.cells #[.slice a n c] 107)) := (Below.refl _ w).alloc (Nat.le_refl _) _
  have hc := checkTree_any a n c l _ (h.below hB0) hs hn
  go_enter Tryz.func54, Tryz.ntmps54
  go_wp2_with (go_at_call 71; refine hc.mono ?_; rintro e w1 ⟨rfl, hB⟩)
  go_ret
  exact ⟨rfl, hB0.trans (hB.mono (by simp))⟩
set_option maxRecDepth 20000 in
set_option maxHeartbeats 1000000 in
theorem encode_tree (a : Option Addr) (n c : Nat) (l : List Ent) (w : World) (h : Ents w a n l) (hF : Fits l) (hn : n ≤ 256) :
    Calls Tryz.prog 55 #[trV a n c] w fun e w' => ∃ ad m cp, e = .returned (.slice ad m cp) ∧ (treeB l).length = m ∧ OwnB w.heap.size (treeB l) (.slice ad m cp) w' ∧ Below w.heap.size w w' := by
  have hmf : ∀ (fn : Fn) (first cap : Array Value) (w : World), (Instr.makeFunc fn first cap).run Tryz.prog w = .ok (.func fn first cap) w := fun _ _ _ _ => rfl
  have h1 := no_blob_tree (.agg #[.slice a n c])
  have h2 := as_tree (.agg #[.slice a n c])
  have HO := ((out_new w).alloc (.cells #[.slice a n c] 107)).alloc (.cells #[.int .u8 116] 5)
  have hO2 : Boxed ((w.alloc (.cells #[.slice none 0 0] 70)).alloc (.cells #[.slice a n c] 107)) (w.heap.size + 1) 107 (.slice a n c) := by
    have := Boxed.new (w.alloc (.cells #[.slice none 0 0] 70)) 107 (.slice a n c)
    rw [World.size_alloc] at this
    exact this
  have hby := bytes_new ((w.alloc (.cells #[.slice none 0 0] 70)).alloc (.cells #[.slice a n c] 107)) [116] _ rfl
  have hp := put_any2 w w.heap.size [] (some ⟨w.heap.size + 1 + 1, 0, none⟩) 1 1 [116] _ HO (by rw [World.size_alloc, World.size_alloc] at hby; exact hby) (fun h => by cases h) (by simp)
  clear HO
  have hK := hO2.alloc (.cells #[.int .u8 116] 5)
  have hll := h.1
  clear hO2 hby
  go_enter Tryz.func55, Tryz.ntmps55
  go_wp2_with first
    | (go_at_call 73; refine hp.mono ?_; rintro e w1 ⟨rfl, hO1, hk1⟩; have hbx : Boxed w1 (w.heap.size + 1) 107 (.slice a n c) := hk1 _ _ _ hK (by decide) (by omega); have cb := hbx.cell; have HO1 : Hid (OOut w w.heap.size ([] ++ [116]) w1) := hO1; clear hp hO1 hk1 hbx)
    | (go_at_call 74; refine (putTree_any w w.heap.size ([] ++ [116]) a n c l _ HO1.out h hF hn (by simp)).mono ?_; rintro e w2 ⟨rfl, hO2, _⟩; obtain ⟨v, hv, ho⟩ := hO2.box; have cv := hv.cell; have HO2 : Hid (OwnB w.heap.size (treeB l) v w2 ∧ Below w.heap.size w w2) := ⟨⟨by have e : treeB l = [] ++ [116] ++ (short n ++ entsB l) := (by unfold treeB; rw [hll]; rfl); rw [e]; exact ho⟩, hO2.bel⟩; obtain ⟨ad, cp, hvv, _⟩ := HO2.out.1.shape rfl; subst hvv; clear hO2 HO1 ho hv)
  go_ret
  exact ⟨ad, _, cp, rfl, rfl, HO2.out.1, HO2.out.2⟩

/-- entries of a tree that may be -/
theorem treeErr_ok : ∀ (l : List Ent) (p : ByteArray), treeErr p l = 0 → ∀ (j : Nat) x, l[j]? = some x → (spot (bs x.1)).1 = 0
  | [], _, _, j, x, h => by simp at h
  | y :: r, p, h0, j, x, h => by
    unfold treeErr at h0
    split at h0
    · rename_i h1; omega
    · rename_i h1
      have h1' : (spot (bs y.1)).1 = 0 := by simpa using h1
      split at h0
      · omega
      · split at h0
        · omega
        · cases j with
          | zero => simp at h; rw [← h]; exact h1'
          | succ j => exact treeErr_ok r _ h0 j x (by simpa using h)
end Go.Proofs.YtojpbemfbjkjjaaGreat

/- What the layer answers of a tree: encode, id, sameness, links. -/
namespace Go.Proofs.YtojpbemfbjkjjaaGreat
open Go.RowKit

theorem spot_short (nm : ByteArray) (h : (spot (bs nm)).1 = 0) : nm.size ≤ 32 := by
  have hl : (bs nm).length = nm.size := bs_len nm
  unfold spot at h
  split at h
  · cases h
  · split at h
    · cases h
    · omega
/-- the fields of entries that came in -/
structure Fields (l : List Ent) : Prop where
  name : Short l
  id : ∀ (j : Nat) x, l[j]? = some x → 0 ≤ x.2.2 ∧ x.2.2 < 18446744073709551616
theorem fits_of {l : List Ent} (hf : Fields l) (h : treeErrs l = 0) : l.length ≤ 256 ∧ Fits l := by
  unfold treeErrs at h
  split at h
  · omega
  · rename_i h1
    exact ⟨by omega, fun j x hx => spot_short _ (treeErr_ok l _ h j x hx), hf.id⟩
theorem Encode_tree (a : Option Addr) (n c : Nat) (l : List Ent) (w : World) (h : Ents w a n l) (hf : Fields l) (hn : n ≤ 9223372036854775807) (h0 : treeErrs l = 0) :
    Calls Tryz.prog 38 #[trV a n c] w fun e w' => ∃ v, e = .returned (.tuple #[v, .int .i64 0]) ∧ OwnB w.heap.size (treeB l) v w' ∧ Below w.heap.size w w' := by
  have c1 := check_tree a n c l w h hf.name hn
  rw [h0] at c1
  obtain ⟨hl, hF⟩ := fits_of hf h0
  have hll := h.1
  go_enter Tryz.func38, Tryz.ntmps38
  go_wp2_with first
    | (go_at_call 54; refine c1.mono ?_; clear c1; rintro e w1 ⟨rfl, hB1⟩)
    | (go_at_call 55; refine (encode_tree a n c l _ (h.below hB1) hF (by omega)).mono ?_; rintro e w2 ⟨ad, m, cp, rfl, hm, ho, hB2⟩; have HO : Hid (OwnB w1.heap.size (treeB l) (.slice ad m cp) w2) := ho; clear ho hm)
  go_ret2
  exact ⟨_, rfl, ⟨row_lower HO.out.row hB1.size⟩, hB1.trans (hB2.mono hB1.size)⟩
theorem Encode_tree_bad (a : Option Addr) (n c : Nat) (l : List Ent) (w : World) (h : Ents w a n l) (hf : Fields l) (hn : n ≤ 9223372036854775807) (h0 : treeErrs l ≠ 0) :
    Calls Tryz.prog 38 #[trV a n c] w fun e w' => e = .returned (.tuple #[.slice none 0 0, .int .i64 (treeErrs l)]) ∧ Below w.heap.size w w' := by
  have c1 := check_tree a n c l w h hf.name hn
  have h0' : (treeErrs l == 0) = false := beq_eq_false_iff_ne.2 h0
  generalize treeErrs l = E at *
  go_enter Tryz.func38, Tryz.ntmps38
  go_wp2_with (go_at_call 54; refine c1.mono ?_; clear c1; rintro e w1 ⟨rfl, hB1⟩)
  go_ret2
  exact ⟨rfl, hB1⟩
theorem Same_tree_bad (a : Option Addr) (n c : Nat) (l : List Ent) (x : Value) (w : World) (h : Ents w a n l) (hf : Fields l) (hn : n ≤ 9223372036854775807) (h0 : treeErrs l ≠ 0) :
    Calls Tryz.prog 41 #[trV a n c, x] w fun e w' => e = .returned (.bool false) ∧ Below w.heap.size w w' := by
  have c1 := check_tree a n c l w h hf.name hn
  have h0' : (treeErrs l == 0) = false := beq_eq_false_iff_ne.2 h0
  generalize treeErrs l = E at *
  go_enter Tryz.func41, Tryz.ntmps41
  go_wp2_with (go_at_call 54; refine c1.mono ?_; clear c1; rintro e w1 ⟨rfl, hB1⟩)
  go_ret
  exact ⟨rfl, hB1⟩
theorem Same_tree (a : Option Addr) (n c : Nat) (l : List Ent) (w : World) (h : Ents w a n l) (hf : Fields l) (hn : n ≤ 9223372036854775807) (h0 : treeErrs l = 0) :
    Calls Tryz.prog 41 #[trV a n c, trV a n c] w fun e w' => e = .returned (.bool true) ∧ Below w.heap.size w w' := by
  have c1 := fun w h => check_tree a n c l w h hf.name hn
  rw [h0] at c1
  obtain ⟨hl, hF⟩ := fits_of hf h0
  have hll := h.1
  have he := fun w h => encode_tree a n c l w h hF (by omega)
  generalize treeB l = T at *
  go_enter Tryz.func41, Tryz.ntmps41
  go_wp2_with first
    | (go_at_call 54; refine (c1 w h).mono ?_; rintro e w1 ⟨rfl, hB1⟩)
    | (go_at_call 54; refine (c1 _ (h.below hB1)).mono ?_; clear c1; rintro e w2 ⟨rfl, hB2⟩; have hB : Below w.heap.size w w2 := hB1.trans (hB2.mono hB1.size); have hb2 := h.below hB; clear hB1 hB2)
    | (go_at_call 55; refine (he w2 hb2).mono ?_; rintro e w3 ⟨ad, m, cp, rfl, hm, ho, hB3⟩; have hy3 := ho.bytes hm; have hb3 := hb2.below hB3; clear hb2 ho hm)
    | (go_at_call 55; refine (he _ hb3).mono ?_; clear he; rintro e w4 ⟨ad4, m4, cp4, rfl, hm4, ho, hB4⟩; have hy4 := ho.bytes hm4; have hy3' := bytes_below hy3 hB4; clear hb3 hy3 ho hm4)
    | (go_at_call 57; refine (equal_yes _ ad ad4 m m4 cp cp4 T hy3' hy4).mono ?_; rintro e w5 ⟨rfl, h5⟩; subst h5)
  go_ret
  exact ⟨rfl, hB.trans ((hB3.trans (hB4.mono hB3.size)).mono hB.size)⟩
end Go.Proofs.YtojpbemfbjkjjaaGreat

/- A tree's links, and what it answers in all. -/
namespace Go.Proofs.YtojpbemfbjkjjaaGreat
open Go.RowKit

attribute [local go_sem] Oper.semAt_some

theorem infoId : (Tryz.prog.info? 31).map (fun i => (i.zero, i.size, i.bytes)) = some (some (.int .u64 0), 1, 8) := by kernel_rfl
theorem infoEntry : (Tryz.prog.info? 157).map (fun i => (i.zero, i.size, i.bytes)) = some (some (.agg #[.string ⟨#[]⟩, .bool false, .int .u64 0]), 3, 32) := by kernel_rfl
def idsOf (l : List Ent) : List Int := l.map fun x => x.2.2
theorem cells_one (W : World) (t : TypeId) (a : Value) : ∀ (j : Nat) u, [a][j]? = some u → (W.alloc (.cells #[a] t)).cell? (Addr.add ⟨W.heap.size, 0, none⟩ j) = some u := by
  intro j u hj
  match j, hj with
  | 0, hj => simp at hj; subst hj; simp [Addr.add]
theorem idsOf_take (l : List Ent) (k : Nat) (x : Ent) (h : l[k]? = some x) : idsOf (l.take (k + 1)) = idsOf (l.take k) ++ [x.2.2] := by
  unfold idsOf
  rw [List.take_add_one, h]
  simp

end Go.Proofs.YtojpbemfbjkjjaaGreat

/- The document's bytes of a tree. -/
namespace Go.Proofs.YtojpbemfbjkjjaaGreat
open Go.RowKit

attribute [local go_sem] Oper.semAt_some

/-- bytes put together in a row of the call's own -/
structure RO (w : World) (l : List UInt8) (v : Value) (W : World) : Prop where
  own : OwnB w.heap.size l v W
  bel : Below w.heap.size w W
def Keeps' (W W' : World) : Prop := ∀ (K : Nat) (cs : Array Value) (t : TypeId), W.heap[K]? = some (.cells cs t (0, 0)) → t ≠ 5 → W'.heap[K]? = some (.cells cs t (0, 0))
theorem RO.below {w W W' : World} {l : List UInt8} {v : Value} (h : RO w l v W) (hb : Below W.heap.size W W') : RO w l v W' :=
  ⟨⟨h.own.row.kept (row := none) ⟨hb.os, hb.tape, hb.output, hb.size, fun k hk _ => hb.block k hk⟩ (by cases v.ownBlock <;> simp)⟩, h.bel.trans (hb.mono h.bel.size)⟩
theorem RO.alloc {w W : World} {l : List UInt8} {v : Value} (h : RO w l v W) (o : Obj) : RO w l v (W.alloc o) := h.below ((Below.refl _ _).alloc (Nat.le_refl _) _)
theorem wpList_ro (w W : World) {ops : Array Oper} {rest : List Oper} {o : Oper} {a : Act} {Q : Exit → Act → World → Prop} (hgd : o.guard = none) (s x : Operand)
    (ho : o.op = .call { callee := .builtin .append, args := #[s, x], argTypes := #[70, 70] })
    (v : Value) (l : List UInt8) (hs : a.eval s = v) (h : RO w l v W) (ad : Option Addr) (m c : Nat) (k : List UInt8) (hx : a.eval x = .slice ad m c) (hb : Bytes W ad m k) (hnil : ad = none → m = 0 ∧ c = 0) (hm : l.length + m ≤ 140737488355328)
    (hc : ∀ v' W', RO w (l ++ k) v' W' → Keeps' W W' → wpList Tryz.prog ops Q rest (a.put o.dst v') W') : wpList Tryz.prog ops Q (o :: rest) a W := by
  refine wpList_app W w.heap.size h.bel.size hgd s x ho v l.length _ hs h.own.row ad m c k hx hb hnil hm fun v' W' h2 h3 _ => hc v' W' ⟨⟨?_⟩, h.bel.trans (below_gr h.own.row h.bel.size h3)⟩ fun K cs t hK ht => ?_
  · rw [List.length_append, hb.1, cellsOf_append]
    exact h2
  · refine (h3.block K (Array.getElem?_eq_some_iff.1 hK).1 (fun e => ?_)).trans hK
    obtain ⟨_, _, cur, hcur⟩ := row_block h.own.row K e.symm
    rw [hK] at hcur
    cases hcur
    exact ht rfl
theorem Keeps'.box3 {W W' : World} {g : Nat} {u0 u1 u2 : Value} (h : Keeps' W W') (hb : Box3 W g u0 u1 u2) : Box3 W' g u0 u1 u2 := h g _ _ hb (by decide)

end Go.Proofs.YtojpbemfbjkjjaaGreat

/- Entries in rows of one's own; a tree's copy. -/
namespace Go.Proofs.YtojpbemfbjkjjaaGreat
open Go.RowKit

attribute [local go_sem] Oper.semAt_some

def entCells : List Ent → List Value
  | [] => []
  | x :: r => .string x.1 :: .bool x.2.1 :: .int .u64 x.2.2 :: entCells r
theorem entCells_len : ∀ l : List Ent, (entCells l).length = l.length * 3
  | [] => rfl
  | x :: r => by simp only [entCells, List.length_cons, entCells_len r]; omega
theorem entCells_one : ∀ (l : List Ent), ∀ u ∈ entCells l, u.oneCell' = true
  | [], u, h => by cases h
  | x :: r, u, h => by
    simp only [entCells, List.mem_cons] at h
    rcases h with rfl | rfl | rfl | h
    · rfl
    · rfl
    · rfl
    · exact entCells_one r u h
theorem entCells_append : ∀ (l m : List Ent), entCells (l ++ m) = entCells l ++ entCells m
  | [], m => rfl
  | x :: r, m => by simp [entCells, entCells_append r m]
theorem entCells_get : ∀ (l : List Ent) (j : Nat) (x : Ent), l[j]? = some x → (entCells l)[j * 3]? = some (.string x.1) ∧ (entCells l)[j * 3 + 1]? = some (.bool x.2.1) ∧ (entCells l)[j * 3 + 2]? = some (.int .u64 x.2.2)
  | [], j, x, h => by simp at h
  | y :: r, 0, x, h => by
    simp at h; subst h
    exact ⟨rfl, rfl, rfl⟩
  | y :: r, j + 1, x, h => by
    have ih := entCells_get r j x (by simpa using h)
    rw [show (j + 1) * 3 = j * 3 + 3 by omega]
    exact ih
theorem ents_news {w : World} {b : Nat} : ∀ (l : List Ent) (off : Nat), (∀ (j : Nat) x, l[j]? = some x → w.cell? ⟨b, off + j * 3, none⟩ = some (.string x.1) ∧ w.cell? ⟨b, off + j * 3 + 1, none⟩ = some (.bool x.2.1) ∧ w.cell? ⟨b, off + j * 3 + 2, none⟩ = some (.int .u64 x.2.2)) →
    ∀ (j : Nat) u, (entCells l)[j]? = some u → w.cell? ⟨b, off + j, none⟩ = some u
  | [], _, _, j, u, h => by simp [entCells] at h
  | x :: r, off, hc, 0, u, h => by
    simp [entCells] at h; subst h
    have := (hc 0 x rfl).1
    simpa using this
  | x :: r, off, hc, 1, u, h => by
    simp [entCells] at h; subst h
    have := (hc 0 x rfl).2.1
    simpa using this
  | x :: r, off, hc, 2, u, h => by
    simp [entCells] at h; subst h
    have := (hc 0 x rfl).2.2
    simpa using this
  | x :: r, off, hc, j + 3, u, h => by
    have := ents_news (w := w) (b := b) r (off + 3) (fun i y hy => by
      have := hc (i + 1) y (by simpa using hy)
      rw [show off + (i + 1) * 3 = off + 3 + i * 3 by omega] at this
      exact this) j u (by simpa [entCells] using h)
    rw [show off + (j + 3) = off + 3 + j by omega]
    exact this
theorem row_shape3 {w : World} {B n : Nat} {v : Value} {xs : List Value} (h : w.ownsRow B 157 3 v n xs) : ∃ ad c, v = .slice ad n c ∧ n ≤ c ∧ (ad = none → n = 0 ∧ c = 0) := by
  rcases h.2 with ⟨rfl, rfl⟩ | ⟨g, cap, cur, rfl, _, _, hc, _⟩
  · exact ⟨none, 0, rfl, Nat.le_refl _, fun _ => ⟨rfl, rfl⟩⟩
  · exact ⟨_, _, rfl, hc, fun h => by cases h⟩
theorem own_ents {w : World} {B n c : Nat} {ad : Option Addr} {l : List Ent} (h : w.ownsRow B 157 3 (.slice ad n c) n (entCells l)) (hl : l.length = n) : Ents w ad n l := by
  refine ⟨hl, fun h0 => ?_⟩
  rcases h.2 with ⟨e, h'⟩ | ⟨g, cap, cur, e, _⟩
  · omega
  · cases e
    refine ⟨g, 0, rfl, fun j x hx => ?_⟩
    obtain ⟨h1, h2, h3⟩ := entCells_get l j x hx
    have c1 := h.cells (g := g) rfl _ _ h1
    have c2 := h.cells (g := g) rfl _ _ h2
    have c3 := h.cells (g := g) rfl _ _ h3
    rw [Addr.add_lit] at c1 c2 c3
    simp only [Nat.zero_add] at c1 c2 c3 ⊢
    exact ⟨c1, c2, c3⟩
theorem row_block3 {W : World} {base n : Nat} {v : Value} {xs : List Value} (h : W.ownsRow base 157 3 v n xs) : ∀ r, v.ownBlock = some r → base ≤ r ∧ r < W.heap.size ∧ ∃ cur, W.heap[r]? = some (.cells cur 157 (0, 0)) := by
  intro r hr
  rcases h.2 with ⟨rfl, _⟩ | ⟨g, cap, cur, rfl, hb, hg, _⟩
  · cases hr
  · cases hr
    exact ⟨hb, (Array.getElem?_eq_some_iff.1 hg).1, cur, hg⟩
theorem below_gr3 {W W' : World} {B n : Nat} {v : Value} {xs : List Value} (h : W.ownsRow B 157 3 v n xs) (hB : B ≤ W.heap.size) (hg : W.grownBy W' v.ownBlock) : Below B W W' :=
  ⟨hg.os, hg.tape, hg.output, hg.size, fun k hk => hg.block k (by omega) (fun e => by have := (row_block3 h k e.symm).1; omega)⟩

/-- entries appended to a row of one's own -/
theorem wpList_app3 (w : World) (B : Nat) (hB : B ≤ w.heap.size) {ops : Array Oper} {rest : List Oper} {o : Oper} {a : Act} {Q : Exit → Act → World → Prop} (hgd : o.guard = none) (s x : Operand)
    (ho : o.op = .call { callee := .builtin .append, args := #[s, x], argTypes := #[105, 105] })
    (v : Value) (n : Nat) (k : List Ent) (hs : a.eval s = v) (hown : w.ownsRow B 157 3 v n (entCells k)) (ad : Option Addr) (m c : Nat) (l : List Ent) (hx : a.eval x = .slice ad m c) (hb : Ents w ad m l) (hnil : ad = none → m = 0 ∧ c = 0) (hm : n + m ≤ 1099511627776)
    (h : ∀ v' w', w'.ownsRow B 157 3 v' (n + m) (entCells (k ++ l)) → w.grownBy w' v.ownBlock → wpList Tryz.prog ops Q rest (a.put o.dst v') w') : wpList Tryz.prog ops Q (o :: rest) a w := by
  obtain ⟨i0, hi, hz0, hz1, hz2⟩ := info_parts infoEntry
  cases ad with
  | none =>
    obtain ⟨rfl, rfl⟩ := hnil rfl
    have hl : l = [] := List.eq_nil_of_length_eq_zero hb.1
    subst hl
    refine wpList_plain hgd fun K hK => ?_
    have hr := run_append_owned_none (P := Tryz.prog) (w := w) B 105 o.type 157 i0 3 Tryz.underlying105 hi v n _ hown
    unfold Oper.wp execOp
    simp only [ho, resolve, invoke, builtin, Sem.run_bind, Sem.run_pure, Result.andThen_ok, List.map_toArray, List.map_cons, List.map_nil, hs, hx, hr]
    exact hK _ _ (h v w (by rw [List.append_nil]; exact hown) ⟨rfl, rfl, rfl, Nat.le_refl _, fun _ _ _ => rfl⟩)
  | some q =>
    refine wpList_append_own w hgd s x 105 ho B 157 i0 _ 3 32 Tryz.underlying105 hi hz0 hz1 hz2 rfl (by decide) v n _ hs hown q m c (entCells l) hx (by rw [entCells_len, hb.1]) ?_ (entCells_one l) (by unfold maxLen; omega) (by omega) hB fun v' w' h1 h2 _ => h v' w' (by rw [entCells_append]; exact h1) h2
    intro j u hj
    have hl := hb.1
    by_cases hm0 : 0 < m
    · obtain ⟨b, off, e, hc⟩ := hb.2 hm0
      cases e
      rw [Addr.add_lit]
      exact ents_news l off hc j u hj
    · have : l = [] := List.eq_nil_of_length_eq_zero (by omega)
      subst this
      simp [entCells] at hj

set_option maxHeartbeats 1000000 in
theorem clone_ents (a : Option Addr) (n c : Nat) (l : List Ent) (w : World) (hb : Ents w a n l) (hnil : a = none → n = 0 ∧ c = 0) (hbig : n ≤ 1099511627776) :
    Calls Tryz.prog 78 #[.slice a n c] w fun e w' => ∃ v, e = .returned v ∧ w'.ownsRow w.heap.size 157 3 v n (entCells l) ∧ Below w.heap.size w w' := by
  have q22 : ∀ (w : World) (a : Option Addr) (n c n' c' : Nat), (binOp .eql 105 (.slice a n c) (.slice none n' c')).run Tryz.prog w = .ok (.bool a.isNone) w := fun w a n c n' c' => Lib.run_eql_slice_nil w _ _ a n c n' c' Tryz.underlying105
  cases a with
  | none =>
    obtain ⟨rfl, rfl⟩ := hnil rfl
    have hl : l = [] := List.eq_nil_of_length_eq_zero hb.1
    subst hl
    go_enter Tryz.func78, Tryz.ntmps78
    go_wp2
    go_ret
    exact ⟨_, rfl, World.ownsRow_nil _ _ _ _, Below.refl _ _⟩
  | some a =>
    have hB0 : Below w.heap.size w (w.alloc (.cells #[] 157)) := (Below.refl _ _).alloc (Nat.le_refl _) _
    have hb0 : Ents (w.alloc (.cells #[] 157)) (some a) n l := hb.below hB0
    have hr0 : (w.alloc (.cells #[] 157)).ownsRow w.heap.size 157 3 (.slice (some ⟨w.heap.size, 0, none⟩) 0 0) 0 (entCells []) := World.ownsRow_made w #[] 0 (Nat.le_refl _) (by unfold maxLen; omega) rfl
    go_enter Tryz.func78, Tryz.ntmps78
    go_wp2_with (at_builtin; refine wpList_app3 _ w.heap.size (by simp) rfl _ _ rfl (.slice (some ⟨w.heap.size, 0, none⟩) 0 0) 0 [] rfl hr0 (some a) n c l rfl hb0 hnil (by omega) ?_; intro v' w1 hown hgrow; obtain ⟨a', c', rfl, hnc, hnn⟩ := row_shape3 hown)
    go_ret
    simp only [Nat.zero_add, List.nil_append] at *
    refine ⟨_, rfl, hown, hB0.grown hgrow (by simp) (by intro k hk; cases hk; exact Nat.le_refl _)⟩
theorem row_lower3 {w : World} {B B' n : Nat} {v : Value} {xs : List Value} (h : w.ownsRow B 157 3 v n xs) (hB : B' ≤ B) : w.ownsRow B' 157 3 v n xs := by
  refine ⟨h.1, ?_⟩
  rcases h.2 with h0 | ⟨g, cap, cur, h1, h2, h3⟩
  · exact .inl h0
  · exact .inr ⟨g, cap, cur, h1, by omega, h3⟩
theorem fresh_tree (a : Option Addr) (n c : Nat) (l : List Ent) (w : World) (hb : Ents w a n l) (hnil : a = none → n = 0 ∧ c = 0) (hn : n ≤ 1099511627776) :
    Calls Tryz.prog 59 #[trV a n c] w fun e w' => ∃ ad cp, e = .returned (trV ad n cp) ∧ w'.ownsRow w.heap.size 157 3 (.slice ad n cp) n (entCells l) ∧ Below w.heap.size w w' := by
  have h0 := no_blob_tree (.agg #[.slice a n c])
  have h1 := as_tree (.agg #[.slice a n c])
  have hB0 : Below w.heap.size w (w.alloc (.cells #[.slice a n c] 107)) := (Below.refl _ w).alloc (Nat.le_refl _) _
  have hcl : Calls Tryz.prog 78 #[.slice a n c] (w.alloc (.cells #[.slice a n c] 107)) fun e w' => ∃ ad cp, e = .returned (.slice ad n cp) ∧ Hid (w'.ownsRow (w.heap.size + 1) 157 3 (.slice ad n cp) n (entCells l) ∧ Below (w.heap.size + 1) (w.alloc (.cells #[.slice a n c] 107)) w') ∧ Boxed w' w.heap.size 107 (.slice a n c) := by
    refine (clone_ents a n c l _ (hb.below hB0) hnil (by omega)).mono fun e w' ⟨v, he, ho, hB⟩ => ?_
    have hbx : Boxed w' w.heap.size 107 (.slice a n c) := (hB.block w.heap.size (by simp)).trans (World.alloc_heap_new _ _)
    rw [World.size_alloc] at ho hB
    obtain ⟨ad, cp, rfl, _⟩ := row_shape3 ho
    exact ⟨ad, cp, he, ⟨ho, hB⟩, hbx⟩
  go_enter Tryz.func59, Tryz.ntmps59
  go_wp2_with (go_at_call 78; refine hcl.mono ?_; clear hcl; rintro e w1 ⟨ad, cp, rfl, HO, hbx⟩; have cb := hbx.cell; have fb := hbx.frozen; have c2 := (hbx.set (.slice ad n cp)).cell)
  go_ret
  obtain ⟨ho, hB⟩ := HO.out
  refine ⟨ad, cp, rfl, ?_, (hB0.trans (hB.mono (by omega))).setCell (p := ⟨w.heap.size, 0, none⟩) (Nat.le_refl _) _⟩
  refine row_lower3 (ho.kept (row := some w.heap.size) (grownBy_setCell' w1 w.heap.size _) ?_) (by omega)
  exact .inr fun e => by have := (row_block3 ho w.heap.size e).1; omega
theorem Copy_tree (a : Option Addr) (n c : Nat) (l : List Ent) (w : World) (hb : Ents w a n l) (hnil : a = none → n = 0 ∧ c = 0) (hn : n ≤ 1099511627776) :
    Calls Tryz.prog 44 #[trV a n c] w fun e w' => ∃ ad cp, e = .returned (trV ad n cp) ∧ w'.ownsRow w.heap.size 157 3 (.slice ad n cp) n (entCells l) ∧ Below w.heap.size w w' := by
  go_enter Tryz.func44, Tryz.ntmps44
  go_wp2_with (go_at_call 59; refine (fresh_tree a n c l _ hb hnil hn).mono ?_; rintro e w1 ⟨ad, cp, rfl, hO, hB⟩)
  go_ret
  exact ⟨ad, cp, rfl, hO, hB⟩
end Go.Proofs.YtojpbemfbjkjjaaGreat
