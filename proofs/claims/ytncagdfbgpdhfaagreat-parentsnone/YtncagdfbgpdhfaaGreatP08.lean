import Derived.Test.YtncagdfbgpdhfaaGreatP07
import Derived.Test.YtncagdfbgpdhfaaGreatP03
/- Entries in rows of one's own; a tree's copy. -/
namespace Go.Proofs.YtncagdfbgpdhfaaGreat
open Go.RowKit

attribute [local go_sem] Oper.semAt_some

def entCells : List Ent → List Value
  | [] => []
  | x :: r => .string x.1 :: .bool x.2.1 :: .int .u64 x.2.2 :: entCells r
theorem entCells_len : ∀ l : List Ent, (entCells l).length = l.length * 3
  | [] => rfl
  | x :: r => by simp only [entCells, List.length_cons, entCells_len r]; omega
theorem entCells_one : ∀ (l : List Ent), ∀ u ∈ entCells l, u.oneCell' = true
  | [], u, h => by cases h
  | x :: r, u, h => by
    simp only [entCells, List.mem_cons] at h
    rcases h with rfl | rfl | rfl | h
    · rfl
    · rfl
    · rfl
    · exact entCells_one r u h
theorem entCells_append : ∀ (l m : List Ent), entCells (l ++ m) = entCells l ++ entCells m
  | [], m => rfl
  | x :: r, m => by simp [entCells, entCells_append r m]
theorem entCells_get : ∀ (l : List Ent) (j : Nat) (x : Ent), l[j]? = some x → (entCells l)[j * 3]? = some (.string x.1) ∧ (entCells l)[j * 3 + 1]? = some (.bool x.2.1) ∧ (entCells l)[j * 3 + 2]? = some (.int .u64 x.2.2)
  | [], j, x, h => by simp at h
  | y :: r, 0, x, h => by
    simp at h; subst h
    exact ⟨rfl, rfl, rfl⟩
  | y :: r, j + 1, x, h => by
    have ih := entCells_get r j x (by simpa using h)
    rw [show (j + 1) * 3 = j * 3 + 3 by omega]
    exact ih
theorem ents_news {w : World} {b : Nat} : ∀ (l : List Ent) (off : Nat), (∀ (j : Nat) x, l[j]? = some x → w.cell? ⟨b, off + j * 3, none⟩ = some (.string x.1) ∧ w.cell? ⟨b, off + j * 3 + 1, none⟩ = some (.bool x.2.1) ∧ w.cell? ⟨b, off + j * 3 + 2, none⟩ = some (.int .u64 x.2.2)) →
    ∀ (j : Nat) u, (entCells l)[j]? = some u → w.cell? ⟨b, off + j, none⟩ = some u
  | [], _, _, j, u, h => by simp [entCells] at h
  | x :: r, off, hc, 0, u, h => by
    simp [entCells] at h; subst h
    have := (hc 0 x rfl).1
    simpa using this
  | x :: r, off, hc, 1, u, h => by
    simp [entCells] at h; subst h
    have := (hc 0 x rfl).2.1
    simpa using this
  | x :: r, off, hc, 2, u, h => by
    simp [entCells] at h; subst h
    have := (hc 0 x rfl).2.2
    simpa using this
  | x :: r, off, hc, j + 3, u, h => by
    have := ents_news (w := w) (b := b) r (off + 3) (fun i y hy => by
      have := hc (i + 1) y (by simpa using hy)
      rw [show off + (i + 1) * 3 = off + 3 + i * 3 by omega] at this
      exact this) j u (by simpa [entCells] using h)
    rw [show off + (j + 3) = off + 3 + j by omega]
    exact this
theorem row_shape3 {w : World} {B n : Nat} {v : Value} {xs : List Value} (h : w.ownsRow B 179 3 v n xs) : ∃ ad c, v = .slice ad n c ∧ n ≤ c ∧ (ad = none → n = 0 ∧ c = 0) := by
  rcases h.2 with ⟨rfl, rfl⟩ | ⟨g, cap, cur, rfl, _, _, hc, _⟩
  · exact ⟨none, 0, rfl, Nat.le_refl _, fun _ => ⟨rfl, rfl⟩⟩
  · exact ⟨_, _, rfl, hc, fun h => by cases h⟩
theorem own_ents {w : World} {B n c : Nat} {ad : Option Addr} {l : List Ent} (h : w.ownsRow B 179 3 (.slice ad n c) n (entCells l)) (hl : l.length = n) : Ents w ad n l := by
  refine ⟨hl, fun h0 => ?_⟩
  rcases h.2 with ⟨e, h'⟩ | ⟨g, cap, cur, e, _⟩
  · omega
  · cases e
    refine ⟨g, 0, rfl, fun j x hx => ?_⟩
    obtain ⟨h1, h2, h3⟩ := entCells_get l j x hx
    have c1 := h.cells (g := g) rfl _ _ h1
    have c2 := h.cells (g := g) rfl _ _ h2
    have c3 := h.cells (g := g) rfl _ _ h3
    rw [Addr.add_lit] at c1 c2 c3
    simp only [Nat.zero_add] at c1 c2 c3 ⊢
    exact ⟨c1, c2, c3⟩
theorem row_block3 {W : World} {base n : Nat} {v : Value} {xs : List Value} (h : W.ownsRow base 179 3 v n xs) : ∀ r, v.ownBlock = some r → base ≤ r ∧ r < W.heap.size ∧ ∃ cur, W.heap[r]? = some (.cells cur 179 (0, 0)) := by
  intro r hr
  rcases h.2 with ⟨rfl, _⟩ | ⟨g, cap, cur, rfl, hb, hg, _⟩
  · cases hr
  · cases hr
    exact ⟨hb, (Array.getElem?_eq_some_iff.1 hg).1, cur, hg⟩
/-- entries appended to a row of one's own -/
theorem wpList_app3 (w : World) (B : Nat) (hB : B ≤ w.heap.size) {ops : Array Oper} {rest : List Oper} {o : Oper} {a : Act} {Q : Exit → Act → World → Prop} (hgd : o.guard = none) (s x : Operand)
    (ho : o.op = .call { callee := .builtin .append, args := #[s, x], argTypes := #[123, 123] })
    (v : Value) (n : Nat) (k : List Ent) (hs : a.eval s = v) (hown : w.ownsRow B 179 3 v n (entCells k)) (ad : Option Addr) (m c : Nat) (l : List Ent) (hx : a.eval x = .slice ad m c) (hb : Ents w ad m l) (hnil : ad = none → m = 0 ∧ c = 0) (hm : n + m ≤ 1099511627776)
    (h : ∀ v' w', w'.ownsRow B 179 3 v' (n + m) (entCells (k ++ l)) → w.grownBy w' v.ownBlock → wpList Tryz.prog ops Q rest (a.put o.dst v') w') : wpList Tryz.prog ops Q (o :: rest) a w := by
  obtain ⟨i0, hi, hz0, hz1, hz2⟩ := info_parts infoEntry
  cases ad with
  | none =>
    obtain ⟨rfl, rfl⟩ := hnil rfl
    have hl : l = [] := List.eq_nil_of_length_eq_zero hb.1
    subst hl
    refine wpList_plain hgd fun K hK => ?_
    have hr := run_append_owned_none (P := Tryz.prog) (w := w) B 123 o.type 179 i0 3 Tryz.underlying123 hi v n _ hown
    unfold Oper.wp execOp
    simp only [ho, resolve, invoke, builtin, Sem.run_bind, Sem.run_pure, Result.andThen_ok, List.map_toArray, List.map_cons, List.map_nil, hs, hx, hr]
    exact hK _ _ (h v w (by rw [List.append_nil]; exact hown) ⟨rfl, rfl, rfl, Nat.le_refl _, fun _ _ _ => rfl⟩)
  | some q =>
    refine wpList_append_own w hgd s x 123 ho B 179 i0 _ 3 32 Tryz.underlying123 hi hz0 hz1 hz2 rfl (by decide) v n _ hs hown q m c (entCells l) hx (by rw [entCells_len, hb.1]) ?_ (entCells_one l) (by unfold maxLen; omega) (by omega) hB fun v' w' h1 h2 _ => h v' w' (by rw [entCells_append]; exact h1) h2
    intro j u hj
    have hl := hb.1
    by_cases hm0 : 0 < m
    · obtain ⟨b, off, e, hc⟩ := hb.2 hm0
      cases e
      rw [Addr.add_lit]
      exact ents_news l off hc j u hj
    · have : l = [] := List.eq_nil_of_length_eq_zero (by omega)
      subst this
      simp [entCells] at hj

set_option maxHeartbeats 1000000 in
theorem clone_ents (a : Option Addr) (n c : Nat) (l : List Ent) (w : World) (hb : Ents w a n l) (hnil : a = none → n = 0 ∧ c = 0) (hbig : n ≤ 1099511627776) :
    Calls Tryz.prog 108 #[.slice a n c] w fun e w' => ∃ v, e = .returned v ∧ w'.ownsRow w.heap.size 179 3 v n (entCells l) ∧ Below w.heap.size w w' := by
  have q22 : ∀ (w : World) (a : Option Addr) (n c n' c' : Nat), (binOp .eql 123 (.slice a n c) (.slice none n' c')).run Tryz.prog w = .ok (.bool a.isNone) w := fun w a n c n' c' => Lib.run_eql_slice_nil w _ _ a n c n' c' Tryz.underlying123
  cases a with
  | none =>
    obtain ⟨rfl, rfl⟩ := hnil rfl
    have hl : l = [] := List.eq_nil_of_length_eq_zero hb.1
    subst hl
    go_enter Tryz.func108, Tryz.ntmps108
    go_wp2
    go_ret
    exact ⟨_, rfl, World.ownsRow_nil _ _ _ _, Below.refl _ _⟩
  | some a =>
    have hB0 : Below w.heap.size w (w.alloc (.cells #[] 179)) := (Below.refl _ _).alloc (Nat.le_refl _) _
    have hb0 : Ents (w.alloc (.cells #[] 179)) (some a) n l := hb.below hB0
    have hr0 : (w.alloc (.cells #[] 179)).ownsRow w.heap.size 179 3 (.slice (some ⟨w.heap.size, 0, none⟩) 0 0) 0 (entCells []) := World.ownsRow_made w #[] 0 (Nat.le_refl _) (by unfold maxLen; omega) rfl
    go_enter Tryz.func108, Tryz.ntmps108
    go_wp2_with (at_builtin; refine wpList_app3 _ w.heap.size (by simp) rfl _ _ rfl (.slice (some ⟨w.heap.size, 0, none⟩) 0 0) 0 [] rfl hr0 (some a) n c l rfl hb0 hnil (by omega) ?_; intro v' w1 hown hgrow; obtain ⟨a', c', rfl, hnc, hnn⟩ := row_shape3 hown)
    go_ret
    simp only [Nat.zero_add, List.nil_append] at *
    refine ⟨_, rfl, hown, hB0.grown hgrow (by simp) (by intro k hk; cases hk; exact Nat.le_refl _)⟩
theorem row_lower3 {w : World} {B B' n : Nat} {v : Value} {xs : List Value} (h : w.ownsRow B 179 3 v n xs) (hB : B' ≤ B) : w.ownsRow B' 179 3 v n xs := by
  refine ⟨h.1, ?_⟩
  rcases h.2 with h0 | ⟨g, cap, cur, h1, h2, h3⟩
  · exact .inl h0
  · exact .inr ⟨g, cap, cur, h1, by omega, h3⟩
theorem fresh_tree (a : Option Addr) (n c : Nat) (l : List Ent) (w : World) (hb : Ents w a n l) (hnil : a = none → n = 0 ∧ c = 0) (hn : n ≤ 1099511627776) :
    Calls Tryz.prog 79 #[trV a n c] w fun e w' => ∃ ad cp, e = .returned (trV ad n cp) ∧ w'.ownsRow w.heap.size 179 3 (.slice ad n cp) n (entCells l) ∧ Below w.heap.size w w' := by
  have h0 := no_blob_tree (.agg #[.slice a n c])
  have h1 := as_tree (.agg #[.slice a n c])
  have hB0 : Below w.heap.size w (w.alloc (.cells #[.slice a n c] 125)) := (Below.refl _ w).alloc (Nat.le_refl _) _
  have hcl : Calls Tryz.prog 108 #[.slice a n c] (w.alloc (.cells #[.slice a n c] 125)) fun e w' => ∃ ad cp, e = .returned (.slice ad n cp) ∧ Hid (w'.ownsRow (w.heap.size + 1) 179 3 (.slice ad n cp) n (entCells l) ∧ Below (w.heap.size + 1) (w.alloc (.cells #[.slice a n c] 125)) w') ∧ Boxed w' w.heap.size 125 (.slice a n c) := by
    refine (clone_ents a n c l _ (hb.below hB0) hnil (by omega)).mono fun e w' ⟨v, he, ho, hB⟩ => ?_
    have hbx : Boxed w' w.heap.size 125 (.slice a n c) := (hB.block w.heap.size (by simp)).trans (World.alloc_heap_new _ _)
    rw [World.size_alloc] at ho hB
    obtain ⟨ad, cp, rfl, _⟩ := row_shape3 ho
    exact ⟨ad, cp, he, ⟨ho, hB⟩, hbx⟩
  go_enter Tryz.func79, Tryz.ntmps79
  go_wp2_with (go_at_call 108; refine hcl.mono ?_; clear hcl; rintro e w1 ⟨ad, cp, rfl, HO, hbx⟩; have cb := hbx.cell; have fb := hbx.frozen; have c2 := (hbx.set (.slice ad n cp)).cell)
  go_ret
  obtain ⟨ho, hB⟩ := HO.out
  refine ⟨ad, cp, rfl, ?_, (hB0.trans (hB.mono (by omega))).setCell (p := ⟨w.heap.size, 0, none⟩) (Nat.le_refl _) _⟩
  refine row_lower3 (ho.kept (row := some w.heap.size) (grownBy_setCell' w1 w.heap.size _) ?_) (by omega)
  exact .inr fun e => by have := (row_block3 ho w.heap.size e).1; omega
theorem Copy_tree (a : Option Addr) (n c : Nat) (l : List Ent) (w : World) (hb : Ents w a n l) (hnil : a = none → n = 0 ∧ c = 0) (hn : n ≤ 1099511627776) :
    Calls Tryz.prog 58 #[trV a n c] w fun e w' => ∃ ad cp, e = .returned (trV ad n cp) ∧ w'.ownsRow w.heap.size 179 3 (.slice ad n cp) n (entCells l) ∧ Below w.heap.size w w' := by
  go_enter Tryz.func58, Tryz.ntmps58
  go_wp2_with (go_at_call 79; refine (fresh_tree a n c l _ hb hnil hn).mono ?_; rintro e w1 ⟨ad, cp, rfl, hO, hB⟩)
  go_ret
  exact ⟨ad, cp, rfl, hO, hB⟩
end Go.Proofs.YtncagdfbgpdhfaaGreat

/- An entry, as it is read. -/
namespace Go.Proofs.YtncagdfbgpdhfaaGreat
open Go.RowKit

attribute [local go_sem] Oper.semAt_some

/-- one entry, as it is read -/
def entR (l : List UInt8) (p : Nat) (e : Int) : Option Ent × Nat × Int :=
  let t := textR l p e 32
  let b := byteR l t.2.1 t.2.2
  let x := wordR l b.2.1 b.2.2
  (if x.2.2 ≠ 0 ∨ 1 < b.1 then none else some (t.1, b.1 == 1, x.1), x.2.1, x.2.2)
def entV : Option Ent → Value
  | none => .agg #[.string ⟨#[]⟩, .bool false, .int .u64 0]
  | some x => .agg #[.string x.1, .bool x.2.1, .int .u64 x.2.2]
theorem Box3.all {W : World} {g : Nat} {v0 v1 v2 : Value} (h : Box3 W g v0 v1 v2) (u0 u1 u2 : Value) : Box3 (((W.setCell ⟨g, 0, none⟩ u0).setCell ⟨g, 1, none⟩ u1).setCell ⟨g, 2, none⟩ u2) g u0 u1 u2 := by
  have h' : W.heap[g]? = _ := h
  have hl := h.lt
  unfold Box3
  simp [World.setCell, Array.getElem?_modify, h']
theorem Box3.frozen {W : World} {g : Nat} {u0 u1 u2 : Value} (h : Box3 W g u0 u1 u2) : W.frozen? ⟨g, 0, none⟩ = false ∧ W.frozen? ⟨g, 1, none⟩ = false ∧ W.frozen? ⟨g, 2, none⟩ = false := by
  unfold Box3 at h
  simp [World.frozen?, h]
theorem Box3.grown {W W' : World} {g r : Nat} {u0 u1 u2 : Value} (h : Box3 W g u0 u1 u2) (hg : W.grownBy W' (some r)) (hr : g ≠ r) : Box3 W' g u0 u1 u2 := (hg.block g h.lt (fun e => hr (Option.some.inj e))).trans h

set_option maxRecDepth 20000 in
set_option maxHeartbeats 2000000 in
theorem readEntry_any (w : World) (r g p : Nat) (e : Int) (l : List UInt8) (h : Rd w r g p e l) (hr : r < w.heap.size) (hg : g < w.heap.size) :
    Calls Tryz.prog 157 #[.pointer (some ⟨r, 0, none⟩)] w fun x w' => x = .returned (.tuple #[entV (entR l p e).1, .bool (entR l p e).1.isSome]) ∧ Rd w' r g (entR l p e).2.1 (entR l p e).2.2 l ∧ w.grownBy w' (some r) := by
  have hg0 : w.grownBy (w.alloc (.cells #[.string ⟨#[]⟩, .bool false, .int .u64 0] 179)) (some r) := ⟨rfl, rfl, rfl, by simp, fun k hk _ => Below.heap_alloc _ _ _ hk⟩
  have h0 : Rd (w.alloc (.cells #[.string ⟨#[]⟩, .bool false, .int .u64 0] 179)) r g p e l := h.kept (row := none) ⟨rfl, rfl, rfl, by simp, fun k hk _ => Below.heap_alloc _ _ _ hk⟩ (by simp) (by simp)
  have b0 := Box3.new w (.string ⟨#[]⟩) (.bool false) (.int .u64 0)
  have hne : w.heap.size ≠ r := by omega
  have hbf := byteR_fits l (textR l p e 32).2.1 (textR l p e 32).2.2
  obtain ⟨t, ht⟩ : ∃ t, t = textR l p e 32 := ⟨_, rfl⟩
  rw [← ht] at hbf
  obtain ⟨b, hb⟩ : ∃ b, b = byteR l t.2.1 t.2.2 := ⟨_, rfl⟩
  rw [← hb] at hbf
  obtain ⟨x, hx⟩ : ∃ x, x = wordR l b.2.1 b.2.2 := ⟨_, rfl⟩
  have hE : entR l p e = (if x.2.2 ≠ 0 ∨ 1 < b.1 then none else some (t.1, b.1 == 1, x.1), x.2.1, x.2.2) := by rw [hx, hb, ht]; rfl
  rw [hE]
  have HT : Hid (∀ W, Rd W r g p e l → Calls Tryz.prog 93 #[.pointer (some ⟨r, 0, none⟩), .int .i64 32] W fun y w' => y = .returned (.string t.1) ∧ Rd w' r g t.2.1 t.2.2 l ∧ W.grownBy w' (some r)) := fun W hW => by rw [ht]; exact text_st W r g p e 32 l hW (by omega)
  have HBy : Hid (∀ W, Rd W r g t.2.1 t.2.2 l → Calls Tryz.prog 126 #[.pointer (some ⟨r, 0, none⟩)] W fun y w' => y = .returned (.int .u8 b.1) ∧ Rd w' r g b.2.1 b.2.2 l ∧ W.grownBy w' (some r)) := fun W hW => by rw [hb]; exact byte_st W r g _ _ l hW
  have HW : Hid (∀ W, Rd W r g b.2.1 b.2.2 l → Calls Tryz.prog 94 #[.pointer (some ⟨r, 0, none⟩)] W fun y w' => y = .returned (.int .u64 x.1) ∧ Rd w' r g x.2.1 x.2.2 l ∧ W.grownBy w' (some r)) := fun W hW => by rw [hx]; exact word_st W r g _ _ l hW
  clear ht hb hx hE
  obtain ⟨t1, tp, te⟩ := t
  obtain ⟨bv, bp, be⟩ := b
  obtain ⟨xv, xp, xe⟩ := x
  simp only at HT HBy HW hbf ⊢
  have key : ∀ ok : Bool, ok = (!(decide (xe ≠ 0 ∨ 1 < bv))) → Calls Tryz.prog 157 #[.pointer (some ⟨r, 0, none⟩)] w fun x w' => x = .returned (.tuple #[if ok = true then .agg #[.string t1, .bool (bv == 1), .int .u64 xv] else .agg #[.string ⟨#[]⟩, .bool false, .int .u64 0], .bool ok]) ∧ Rd w' r g xp xe l ∧ w.grownBy w' (some r) := by
    intro ok hok
    have H0 : Hid (Rd (w.alloc (.cells #[.string ⟨#[]⟩, .bool false, .int .u64 0] 179)) r g p e l) := h0
    have HG0 : Hid (w.grownBy (w.alloc (.cells #[.string ⟨#[]⟩, .bool false, .int .u64 0] 179)) (some r)) := hg0
    have HK : Hid (∀ W, Rd W r g xp xe l → w.grownBy W (some r) → ∀ u0 u1 u2, Rd (((W.setCell ⟨w.heap.size, 0, none⟩ u0).setCell ⟨w.heap.size, 1, none⟩ u1).setCell ⟨w.heap.size, 2, none⟩ u2) r g xp xe l ∧ w.grownBy (((W.setCell ⟨w.heap.size, 0, none⟩ u0).setCell ⟨w.heap.size, 1, none⟩ u1).setCell ⟨w.heap.size, 2, none⟩ u2) (some r)) := fun W hR hG u0 u1 u2 => by
      have s1 : W.grownBy (((W.setCell ⟨w.heap.size, 0, none⟩ u0).setCell ⟨w.heap.size, 1, none⟩ u1).setCell ⟨w.heap.size, 2, none⟩ u2) (some w.heap.size) := grownBy_trans (grownBy_trans (grownBy_setCell _ _ _ _) (grownBy_setCell _ _ _ _)) (grownBy_setCell _ _ _ _)
      refine ⟨hR.kept s1 (by simp; omega) (by simp; omega), ⟨s1.os.trans hG.os, s1.tape.trans hG.tape, s1.output.trans hG.output, Nat.le_trans hG.size s1.size, fun k hk hn => ?_⟩⟩
      exact (s1.block k (Nat.lt_of_lt_of_le hk hG.size) (by simp; omega)).trans (hG.block k hk hn)
    clear h0 hg0 h
    by_cases hxe : xe = 0
    · subst hxe
      by_cases hbv : 1 < bv
      · have e0 : ok = false := by rw [hok]; simp [hbv]
        subst e0
        have i1 : decide ((1 : Int) < bv) = true := decide_eq_true hbv
        clear hok
        go_enter Tryz.func157, Tryz.ntmps157
        go_wp2_with first
          | (go_at_call 93; refine (HT.out _ H0.out).mono ?_; clear HT H0; rintro y w1 ⟨rfl, hR1, hG1⟩; have R1 : Hid (Rd w1 r g tp te l) := hR1; have G1 : Hid (w.grownBy w1 (some r)) := grownBy_trans HG0.out hG1; have b1 := b0.grown hG1 hne; clear hR1 hG1)
          | (go_at_call 126; refine (HBy.out _ R1.out).mono ?_; clear HBy R1; rintro y w2 ⟨rfl, hR2, hG2⟩; have R2 : Hid (Rd w2 r g bp be l) := hR2; have G2 : Hid (w.grownBy w2 (some r)) := grownBy_trans G1.out hG2; have b2 := b1.grown hG2 hne; clear hR2 hG2)
          | (go_at_call 94; refine (HW.out _ R2.out).mono ?_; clear HW R2; rintro y w3 ⟨rfl, hR3, hG3⟩; have R3 : Hid (Rd w3 r g xp 0 l) := hR3; have G3 : Hid (w.grownBy w3 (some r)) := grownBy_trans G2.out hG3; have b3 := b2.grown hG3 hne; obtain ⟨c0, c1, c2⟩ := b3.cell; obtain ⟨f0, f1, f2⟩ := b3.frozen; have re := hR3.c1; clear hR3 hG3)
          | (go_at_call 95; refine (err_any _ r 0 re).mono ?_; rintro y w4 ⟨rfl, hw4⟩; subst hw4)
        obtain ⟨d0, d1, d2⟩ := (b3.all (.string ⟨#[]⟩) (.bool false) (.int .u64 0)).cell
        obtain ⟨hRR, hGG⟩ := HK.out _ R3.out G3.out (.string ⟨#[]⟩) (.bool false) (.int .u64 0)
        refine bodyPost_ret (v := .tuple #[.agg #[.string ⟨#[]⟩, .bool false, .int .u64 0], .bool false]) (by simp [results, Tryz.results157, go_sem, d0, d1, d2]) rfl ⟨rfl, hRR, hGG⟩
      · have e0 : ok = true := by rw [hok]; simp [hbv]
        subst e0
        have i1 : decide ((1 : Int) < bv) = false := decide_eq_false hbv
        clear hok
        go_enter Tryz.func157, Tryz.ntmps157
        go_wp2_with first
          | (go_at_call 93; refine (HT.out _ H0.out).mono ?_; clear HT H0; rintro y w1 ⟨rfl, hR1, hG1⟩; have R1 : Hid (Rd w1 r g tp te l) := hR1; have G1 : Hid (w.grownBy w1 (some r)) := grownBy_trans HG0.out hG1; have b1 := b0.grown hG1 hne; clear hR1 hG1)
          | (go_at_call 126; refine (HBy.out _ R1.out).mono ?_; clear HBy R1; rintro y w2 ⟨rfl, hR2, hG2⟩; have R2 : Hid (Rd w2 r g bp be l) := hR2; have G2 : Hid (w.grownBy w2 (some r)) := grownBy_trans G1.out hG2; have b2 := b1.grown hG2 hne; clear hR2 hG2)
          | (go_at_call 94; refine (HW.out _ R2.out).mono ?_; clear HW R2; rintro y w3 ⟨rfl, hR3, hG3⟩; have R3 : Hid (Rd w3 r g xp 0 l) := hR3; have G3 : Hid (w.grownBy w3 (some r)) := grownBy_trans G2.out hG3; have b3 := b2.grown hG3 hne; obtain ⟨c0, c1, c2⟩ := b3.cell; obtain ⟨f0, f1, f2⟩ := b3.frozen; have re := hR3.c1; clear hR3 hG3)
          | (go_at_call 95; refine (err_any _ r 0 re).mono ?_; rintro y w4 ⟨rfl, hw4⟩; subst hw4)
        obtain ⟨d0, d1, d2⟩ := (b3.all (.string t1) (.bool (bv == 1)) (.int .u64 xv)).cell
        obtain ⟨hRR, hGG⟩ := HK.out _ R3.out G3.out (.string t1) (.bool (bv == 1)) (.int .u64 xv)
        refine bodyPost_ret (v := .tuple #[.agg #[.string t1, .bool (bv == 1), .int .u64 xv], .bool true]) (by simp [results, Tryz.results157, go_sem, d0, d1, d2]) rfl ⟨rfl, hRR, hGG⟩
    · have e0 : ok = false := by rw [hok]; simp [hxe]
      subst e0
      have i1 : (xe != 0) = true := by simp [hxe]
      have i2 : (xe == 0) = false := by simp [hxe]
      clear hok
      go_enter Tryz.func157, Tryz.ntmps157
      go_wp2_with first
        | (go_at_call 93; refine (HT.out _ H0.out).mono ?_; clear HT H0; rintro y w1 ⟨rfl, hR1, hG1⟩; have R1 : Hid (Rd w1 r g tp te l) := hR1; have G1 : Hid (w.grownBy w1 (some r)) := grownBy_trans HG0.out hG1; have b1 := b0.grown hG1 hne; clear hR1 hG1)
        | (go_at_call 126; refine (HBy.out _ R1.out).mono ?_; clear HBy R1; rintro y w2 ⟨rfl, hR2, hG2⟩; have R2 : Hid (Rd w2 r g bp be l) := hR2; have G2 : Hid (w.grownBy w2 (some r)) := grownBy_trans G1.out hG2; have b2 := b1.grown hG2 hne; clear hR2 hG2)
        | (go_at_call 94; refine (HW.out _ R2.out).mono ?_; clear HW R2; rintro y w3 ⟨rfl, hR3, hG3⟩; have R3 : Hid (Rd w3 r g xp xe l) := hR3; have G3 : Hid (w.grownBy w3 (some r)) := grownBy_trans G2.out hG3; have b3 := b2.grown hG3 hne; obtain ⟨c0, c1, c2⟩ := b3.cell; obtain ⟨f0, f1, f2⟩ := b3.frozen; have re := hR3.c1; clear hR3 hG3)
        | (go_at_call 95; refine (err_any _ r xe re).mono ?_; rintro y w4 ⟨rfl, hw4⟩; subst hw4)
      obtain ⟨d0, d1, d2⟩ := (b3.all (.string ⟨#[]⟩) (.bool false) (.int .u64 0)).cell
      obtain ⟨hRR, hGG⟩ := HK.out _ R3.out G3.out (.string ⟨#[]⟩) (.bool false) (.int .u64 0)
      refine bodyPost_ret (v := .tuple #[.agg #[.string ⟨#[]⟩, .bool false, .int .u64 0], .bool false]) (by simp [results, Tryz.results157, go_sem, d0, d1, d2]) rfl ⟨rfl, hRR, hGG⟩
  refine (key _ rfl).mono fun y w' hy => ⟨?_, hy.2⟩
  rw [hy.1]
  by_cases hq : xe ≠ 0 ∨ 1 < bv
  · rw [if_pos hq, decide_eq_true hq]; rfl
  · rw [if_neg hq, decide_eq_false hq]; rfl
end Go.Proofs.YtncagdfbgpdhfaaGreat
