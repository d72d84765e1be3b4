import Derived.Test.YtncagdfbgpdhfaaGreatQ06
import Derived.Test.YtncagdfbgpdhfaaGreatQ02
/- Entries in rows of one's own; a tree's copy. -/
namespace Go.Proofs.YtncagdfbgpdhfaaGreat
open Go.RowKit

attribute [local go_sem] Oper.semAt_some

def entCells : List Ent → List Value
  | [] => []
  | x :: r => .string x.1 :: .bool x.2.1 :: .int .u64 x.2.2 :: entCells r
theorem entCells_len : ∀ l : List Ent, (entCells l).length = l.length * 3
  | [] => rfl
  | x :: r => by simp only [entCells, List.length_cons, entCells_len r]; omega
theorem entCells_one : ∀ (l : List Ent), ∀ u ∈ entCells l, u.oneCell' = true
  | [], u, h => by cases h
  | x :: r, u, h => by
    simp only [entCells, List.mem_cons] at h
    rcases h with rfl | rfl | rfl | h
    · rfl
    · rfl
    · rfl
    · exact entCells_one r u h
theorem entCells_append : ∀ (l m : List Ent), entCells (l ++ m) = entCells l ++ entCells m
  | [], m => rfl
  | x :: r, m => by simp [entCells, entCells_append r m]
theorem entCells_get : ∀ (l : List Ent) (j : Nat) (x : Ent), l[j]? = some x → (entCells l)[j * 3]? = some (.string x.1) ∧ (entCells l)[j * 3 + 1]? = some (.bool x.2.1) ∧ (entCells l)[j * 3 + 2]? = some (.int .u64 x.2.2)
  | [], j, x, h => by simp at h
  | y :: r, 0, x, h => by
    simp at h; subst h
    exact ⟨rfl, rfl, rfl⟩
  | y :: r, j + 1, x, h => by
    have ih := entCells_get r j x (by simpa using h)
    rw [show (j + 1) * 3 = j * 3 + 3 by omega]
    exact ih
theorem ents_news {w : World} {b : Nat} : ∀ (l : List Ent) (off : Nat), (∀ (j : Nat) x, l[j]? = some x → w.cell? ⟨b, off + j * 3, none⟩ = some (.string x.1) ∧ w.cell? ⟨b, off + j * 3 + 1, none⟩ = some (.bool x.2.1) ∧ w.cell? ⟨b, off + j * 3 + 2, none⟩ = some (.int .u64 x.2.2)) →
    ∀ (j : Nat) u, (entCells l)[j]? = some u → w.cell? ⟨b, off + j, none⟩ = some u
  | [], _, _, j, u, h => by simp [entCells] at h
  | x :: r, off, hc, 0, u, h => by
    simp [entCells] at h; subst h
    have := (hc 0 x rfl).1
    simpa using this
  | x :: r, off, hc, 1, u, h => by
    simp [entCells] at h; subst h
    have := (hc 0 x rfl).2.1
    simpa using this
  | x :: r, off, hc, 2, u, h => by
    simp [entCells] at h; subst h
    have := (hc 0 x rfl).2.2
    simpa using this
  | x :: r, off, hc, j + 3, u, h => by
    have := ents_news (w := w) (b := b) r (off + 3) (fun i y hy => by
      have := hc (i + 1) y (by simpa using hy)
      rw [show off + (i + 1) * 3 = off + 3 + i * 3 by omega] at this
      exact this) j u (by simpa [entCells] using h)
    rw [show off + (j + 3) = off + 3 + j by omega]
    exact this
theorem row_shape3 {w : World} {B n : Nat} {v : Value} {xs : List Value} (h : w.ownsRow B 179 3 v n xs) : ∃ ad c, v = .slice ad n c ∧ n ≤ c ∧ (ad = none → n = 0 ∧ c = 0) := by
  rcases h.2 with ⟨rfl, rfl⟩ | ⟨g, cap, cur, rfl, _, _, hc, _⟩
  · exact ⟨none, 0, rfl, Nat.le_refl _, fun _ => ⟨rfl, rfl⟩⟩
  · exact ⟨_, _, rfl, hc, fun h => by cases h⟩
theorem own_ents {w : World} {B n c : Nat} {ad : Option Addr} {l : List Ent} (h : w.ownsRow B 179 3 (.slice ad n c) n (entCells l)) (hl : l.length = n) : Ents w ad n l := by
  refine ⟨hl, fun h0 => ?_⟩
  rcases h.2 with ⟨e, h'⟩ | ⟨g, cap, cur, e, _⟩
  · omega
  · cases e
    refine ⟨g, 0, rfl, fun j x hx => ?_⟩
    obtain ⟨h1, h2, h3⟩ := entCells_get l j x hx
    have c1 := h.cells (g := g) rfl _ _ h1
    have c2 := h.cells (g := g) rfl _ _ h2
    have c3 := h.cells (g := g) rfl _ _ h3
    rw [Addr.add_lit] at c1 c2 c3
    simp only [Nat.zero_add] at c1 c2 c3 ⊢
    exact ⟨c1, c2, c3⟩
theorem row_block3 {W : World} {base n : Nat} {v : Value} {xs : List Value} (h : W.ownsRow base 179 3 v n xs) : ∀ r, v.ownBlock = some r → base ≤ r ∧ r < W.heap.size ∧ ∃ cur, W.heap[r]? = some (.cells cur 179 (0, 0)) := by
  intro r hr
  rcases h.2 with ⟨rfl, _⟩ | ⟨g, cap, cur, rfl, hb, hg, _⟩
  · cases hr
  · cases hr
    exact ⟨hb, (Array.getElem?_eq_some_iff.1 hg).1, cur, hg⟩
theorem below_gr3 {W W' : World} {B n : Nat} {v : Value} {xs : List Value} (h : W.ownsRow B 179 3 v n xs) (hB : B ≤ W.heap.size) (hg : W.grownBy W' v.ownBlock) : Below B W W' :=
  ⟨hg.os, hg.tape, hg.output, hg.size, fun k hk => hg.block k (by omega) (fun e => by have := (row_block3 h k e.symm).1; omega)⟩

/-- entries appended to a row of one's own -/
theorem wpList_app3 (w : World) (B : Nat) (hB : B ≤ w.heap.size) {ops : Array Oper} {rest : List Oper} {o : Oper} {a : Act} {Q : Exit → Act → World → Prop} (hgd : o.guard = none) (s x : Operand)
    (ho : o.op = .call { callee := .builtin .append, args := #[s, x], argTypes := #[123, 123] })
    (v : Value) (n : Nat) (k : List Ent) (hs : a.eval s = v) (hown : w.ownsRow B 179 3 v n (entCells k)) (ad : Option Addr) (m c : Nat) (l : List Ent) (hx : a.eval x = .slice ad m c) (hb : Ents w ad m l) (hnil : ad = none → m = 0 ∧ c = 0) (hm : n + m ≤ 1099511627776)
    (h : ∀ v' w', w'.ownsRow B 179 3 v' (n + m) (entCells (k ++ l)) → w.grownBy w' v.ownBlock → wpList Tryz.prog ops Q rest (a.put o.dst v') w') : wpList Tryz.prog ops Q (o :: rest) a w := by
  obtain ⟨i0, hi, hz0, hz1, hz2⟩ := info_parts infoEntry
  cases ad with
  | none =>
    obtain ⟨rfl, rfl⟩ := hnil rfl
    have hl : l = [] := List.eq_nil_of_length_eq_zero hb.1
    subst hl
    refine wpList_plain hgd fun K hK => ?_
    have hr := run_append_owned_none (P := Tryz.prog) (w := w) B 123 o.type 179 i0 3 Tryz.underlying123 hi v n _ hown
    unfold Oper.wp execOp
    simp only [ho, resolve, invoke, builtin, Sem.run_bind, Sem.run_pure, Result.andThen_ok, List.map_toArray, List.map_cons, List.map_nil, hs, hx, hr]
    exact hK _ _ (h v w (by rw [List.append_nil]; exact hown) ⟨rfl, rfl, rfl, Nat.le_refl _, fun _ _ _ => rfl⟩)
  | some q =>
    refine wpList_append_own w hgd s x 123 ho B 179 i0 _ 3 32 Tryz.underlying123 hi hz0 hz1 hz2 rfl (by decide) v n _ hs hown q m c (entCells l) hx (by rw [entCells_len, hb.1]) ?_ (entCells_one l) (by unfold maxLen; omega) (by omega) hB fun v' w' h1 h2 _ => h v' w' (by rw [entCells_append]; exact h1) h2
    intro j u hj
    have hl := hb.1
    by_cases hm0 : 0 < m
    · obtain ⟨b, off, e, hc⟩ := hb.2 hm0
      cases e
      rw [Addr.add_lit]
      exact ents_news l off hc j u hj
    · have : l = [] := List.eq_nil_of_length_eq_zero (by omega)
      subst this
      simp [entCells] at hj

set_option maxHeartbeats 1000000 in
theorem clone_ents (a : Option Addr) (n c : Nat) (l : List Ent) (w : World) (hb : Ents w a n l) (hnil : a = none → n = 0 ∧ c = 0) (hbig : n ≤ 1099511627776) :
    Calls Tryz.prog 108 #[.slice a n c] w fun e w' => ∃ v, e = .returned v ∧ w'.ownsRow w.heap.size 179 3 v n (entCells l) ∧ Below w.heap.size w w' := by
  have q22 : ∀ (w : World) (a : Option Addr) (n c n' c' : Nat), (binOp .eql 123 (.slice a n c) (.slice none n' c')).run Tryz.prog w = .ok (.bool a.isNone) w := fun w a n c n' c' => Lib.run_eql_slice_nil w _ _ a n c n' c' Tryz.underlying123
  cases a with
  | none =>
    obtain ⟨rfl, rfl⟩ := hnil rfl
    have hl : l = [] := List.eq_nil_of_length_eq_zero hb.1
    subst hl
    go_enter Tryz.func108, Tryz.ntmps108
    go_wp2
    go_ret
    exact ⟨_, rfl, World.ownsRow_nil _ _ _ _, Below.refl _ _⟩
  | some a =>
    have hB0 : Below w.heap.size w (w.alloc (.cells #[] 179)) := (Below.refl _ _).alloc (Nat.le_refl _) _
    have hb0 : Ents (w.alloc (.cells #[] 179)) (some a) n l := hb.below hB0
    have hr0 : (w.alloc (.cells #[] 179)).ownsRow w.heap.size 179 3 (.slice (some ⟨w.heap.size, 0, none⟩) 0 0) 0 (entCells []) := World.ownsRow_made w #[] 0 (Nat.le_refl _) (by unfold maxLen; omega) rfl
    go_enter Tryz.func108, Tryz.ntmps108
    go_wp2_with (at_builtin; refine wpList_app3 _ w.heap.size (by simp) rfl _ _ rfl (.slice (some ⟨w.heap.size, 0, none⟩) 0 0) 0 [] rfl hr0 (some a) n c l rfl hb0 hnil (by omega) ?_; intro v' w1 hown hgrow; obtain ⟨a', c', rfl, hnc, hnn⟩ := row_shape3 hown)
    go_ret
    simp only [Nat.zero_add, List.nil_append] at *
    refine ⟨_, rfl, hown, hB0.grown hgrow (by simp) (by intro k hk; cases hk; exact Nat.le_refl _)⟩
theorem row_lower3 {w : World} {B B' n : Nat} {v : Value} {xs : List Value} (h : w.ownsRow B 179 3 v n xs) (hB : B' ≤ B) : w.ownsRow B' 179 3 v n xs := by
  refine ⟨h.1, ?_⟩
  rcases h.2 with h0 | ⟨g, cap, cur, h1, h2, h3⟩
  · exact .inl h0
  · exact .inr ⟨g, cap, cur, h1, by omega, h3⟩
theorem fresh_tree (a : Option Addr) (n c : Nat) (l : List Ent) (w : World) (hb : Ents w a n l) (hnil : a = none → n = 0 ∧ c = 0) (hn : n ≤ 1099511627776) :
    Calls Tryz.prog 79 #[trV a n c] w fun e w' => ∃ ad cp, e = .returned (trV ad n cp) ∧ w'.ownsRow w.heap.size 179 3 (.slice ad n cp) n (entCells l) ∧ Below w.heap.size w w' := by
  have h0 := no_blob_tree (.agg #[.slice a n c])
  have h1 := as_tree (.agg #[.slice a n c])
  have hB0 : Below w.heap.size w (w.alloc (.cells #[.slice a n c] 125)) := (Below.refl _ w).alloc (Nat.le_refl _) _
  have hcl : Calls Tryz.prog 108 #[.slice a n c] (w.alloc (.cells #[.slice a n c] 125)) fun e w' => ∃ ad cp, e = .returned (.slice ad n cp) ∧ Hid (w'.ownsRow (w.heap.size + 1) 179 3 (.slice ad n cp) n (entCells l) ∧ Below (w.heap.size + 1) (w.alloc (.cells #[.slice a n c] 125)) w') ∧ Boxed w' w.heap.size 125 (.slice a n c) := by
    refine (clone_ents a n c l _ (hb.below hB0) hnil (by omega)).mono fun e w' ⟨v, he, ho, hB⟩ => ?_
    have hbx : Boxed w' w.heap.size 125 (.slice a n c) := (hB.block w.heap.size (by simp)).trans (World.alloc_heap_new _ _)
    rw [World.size_alloc] at ho hB
    obtain ⟨ad, cp, rfl, _⟩ := row_shape3 ho
    exact ⟨ad, cp, he, ⟨ho, hB⟩, hbx⟩
  go_enter Tryz.func79, Tryz.ntmps79
  go_wp2_with (go_at_call 108; refine hcl.mono ?_; clear hcl; rintro e w1 ⟨ad, cp, rfl, HO, hbx⟩; have cb := hbx.cell; have fb := hbx.frozen; have c2 := (hbx.set (.slice ad n cp)).cell)
  go_ret
  obtain ⟨ho, hB⟩ := HO.out
  refine ⟨ad, cp, rfl, ?_, (hB0.trans (hB.mono (by omega))).setCell (p := ⟨w.heap.size, 0, none⟩) (Nat.le_refl _) _⟩
  refine row_lower3 (ho.kept (row := some w.heap.size) (grownBy_setCell' w1 w.heap.size _) ?_) (by omega)
  exact .inr fun e => by have := (row_block3 ho w.heap.size e).1; omega
theorem Copy_tree (a : Option Addr) (n c : Nat) (l : List Ent) (w : World) (hb : Ents w a n l) (hnil : a = none → n = 0 ∧ c = 0) (hn : n ≤ 1099511627776) :
    Calls Tryz.prog 58 #[trV a n c] w fun e w' => ∃ ad cp, e = .returned (trV ad n cp) ∧ w'.ownsRow w.heap.size 179 3 (.slice ad n cp) n (entCells l) ∧ Below w.heap.size w w' := by
  go_enter Tryz.func58, Tryz.ntmps58
  go_wp2_with (go_at_call 79; refine (fresh_tree a n c l _ hb hnil hn).mono ?_; rintro e w1 ⟨ad, cp, rfl, hO, hB⟩)
  go_ret
  exact ⟨ad, cp, rfl, hO, hB⟩
end Go.Proofs.YtncagdfbgpdhfaaGreat

/- An entry, as it is read. -/
namespace Go.Proofs.YtncagdfbgpdhfaaGreat
open Go.RowKit

attribute [local go_sem] Oper.semAt_some

/-- one entry, as it is read -/
def entR (l : List UInt8) (p : Nat) (e : Int) : Option Ent × Nat × Int :=
  let t := textR l p e 32
  let b := byteR l t.2.1 t.2.2
  let x := wordR l b.2.1 b.2.2
  (if x.2.2 ≠ 0 ∨ 1 < b.1 then none else some (t.1, b.1 == 1, x.1), x.2.1, x.2.2)
def entV : Option Ent → Value
  | none => .agg #[.string ⟨#[]⟩, .bool false, .int .u64 0]
  | some x => .agg #[.string x.1, .bool x.2.1, .int .u64 x.2.2]
theorem Box3.all {W : World} {g : Nat} {v0 v1 v2 : Value} (h : Box3 W g v0 v1 v2) (u0 u1 u2 : Value) : Box3 (((W.setCell ⟨g, 0, none⟩ u0).setCell ⟨g, 1, none⟩ u1).setCell ⟨g, 2, none⟩ u2) g u0 u1 u2 := by
  have h' : W.heap[g]? = _ := h
  have hl := h.lt
  unfold Box3
  simp [World.setCell, Array.getElem?_modify, h']
theorem Box3.frozen {W : World} {g : Nat} {u0 u1 u2 : Value} (h : Box3 W g u0 u1 u2) : W.frozen? ⟨g, 0, none⟩ = false ∧ W.frozen? ⟨g, 1, none⟩ = false ∧ W.frozen? ⟨g, 2, none⟩ = false := by
  unfold Box3 at h
  simp [World.frozen?, h]
theorem Box3.grown {W W' : World} {g r : Nat} {u0 u1 u2 : Value} (h : Box3 W g u0 u1 u2) (hg : W.grownBy W' (some r)) (hr : g ≠ r) : Box3 W' g u0 u1 u2 := (hg.block g h.lt (fun e => hr (Option.some.inj e))).trans h

set_option maxRecDepth 20000 in
set_option maxHeartbeats 2000000 in
theorem readEntry_any (w : World) (r g p : Nat) (e : Int) (l : List UInt8) (h : Rd w r g p e l) (hr : r < w.heap.size) (hg : g < w.heap.size) :
    Calls Tryz.prog 157 #[.pointer (some ⟨r, 0, none⟩)] w fun x w' => x = .returned (.tuple #[entV (entR l p e).1, .bool (entR l p e).1.isSome]) ∧ Rd w' r g (entR l p e).2.1 (entR l p e).2.2 l ∧ w.grownBy w' (some r) := by
  have hg0 : w.grownBy (w.alloc (.cells #[.string ⟨#[]⟩, .bool false, .int .u64 0] 179)) (some r) := ⟨rfl, rfl, rfl, by simp, fun k hk _ => Below.heap_alloc _ _ _ hk⟩
  have h0 : Rd (w.alloc (.cells #[.string ⟨#[]⟩, .bool false, .int .u64 0] 179)) r g p e l := h.kept (row := none) ⟨rfl, rfl, rfl, by simp, fun k hk _ => Below.heap_alloc _ _ _ hk⟩ (by simp) (by simp)
  have b0 := Box3.new w (.string ⟨#[]⟩) (.bool false) (.int .u64 0)
  have hne : w.heap.size ≠ r := by omega
  have hbf := byteR_fits l (textR l p e 32).2.1 (textR l p e 32).2.2
  obtain ⟨t, ht⟩ : ∃ t, t = textR l p e 32 := ⟨_, rfl⟩
  rw [← ht] at hbf
  obtain ⟨b, hb⟩ : ∃ b, b = byteR l t.2.1 t.2.2 := ⟨_, rfl⟩
  rw [← hb] at hbf
  obtain ⟨x, hx⟩ : ∃ x, x = wordR l b.2.1 b.2.2 := ⟨_, rfl⟩
  have hE : entR l p e = (if x.2.2 ≠ 0 ∨ 1 < b.1 then none else some (t.1, b.1 == 1, x.1), x.2.1, x.2.2) := by rw [hx, hb, ht]; rfl
  rw [hE]
  have HT : Hid (∀ W, Rd W r g p e l → Calls Tryz.prog 93 #[.pointer (some ⟨r, 0, none⟩), .int .i64 32] W fun y w' => y = .returned (.string t.1) ∧ Rd w' r g t.2.1 t.2.2 l ∧ W.grownBy w' (some r)) := fun W hW => by rw [ht]; exact text_st W r g p e 32 l hW (by omega)
  have HBy : Hid (∀ W, Rd W r g t.2.1 t.2.2 l → Calls Tryz.prog 126 #[.pointer (some ⟨r, 0, none⟩)] W fun y w' => y = .returned (.int .u8 b.1) ∧ Rd w' r g b.2.1 b.2.2 l ∧ W.grownBy w' (some r)) := fun W hW => by rw [hb]; exact byte_st W r g _ _ l hW
  have HW : Hid (∀ W, Rd W r g b.2.1 b.2.2 l → Calls Tryz.prog 94 #[.pointer (some ⟨r, 0, none⟩)] W fun y w' => y = .returned (.int .u64 x.1) ∧ Rd w' r g x.2.1 x.2.2 l ∧ W.grownBy w' (some r)) := fun W hW => by rw [hx]; exact word_st W r g _ _ l hW
  clear ht hb hx hE
  obtain ⟨t1, tp, te⟩ := t
  obtain ⟨bv, bp, be⟩ := b
  obtain ⟨xv, xp, xe⟩ := x
  simp only at HT HBy HW hbf ⊢
  have key : ∀ ok : Bool, ok = (!(decide (xe ≠ 0 ∨ 1 < bv))) → Calls Tryz.prog 157 #[.pointer (some ⟨r, 0, none⟩)] w fun x w' => x = .returned (.tuple #[if ok = true then .agg #[.string t1, .bool (bv == 1), .int .u64 xv] else .agg #[.string ⟨#[]⟩, .bool false, .int .u64 0], .bool ok]) ∧ Rd w' r g xp xe l ∧ w.grownBy w' (some r) := by
    intro ok hok
    have H0 : Hid (Rd (w.alloc (.cells #[.string ⟨#[]⟩, .bool false, .int .u64 0] 179)) r g p e l) := h0
    have HG0 : Hid (w.grownBy (w.alloc (.cells #[.string ⟨#[]⟩, .bool false, .int .u64 0] 179)) (some r)) := hg0
    have HK : Hid (∀ W, Rd W r g xp xe l → w.grownBy W (some r) → ∀ u0 u1 u2, Rd (((W.setCell ⟨w.heap.size, 0, none⟩ u0).setCell ⟨w.heap.size, 1, none⟩ u1).setCell ⟨w.heap.size, 2, none⟩ u2) r g xp xe l ∧ w.grownBy (((W.setCell ⟨w.heap.size, 0, none⟩ u0).setCell ⟨w.heap.size, 1, none⟩ u1).setCell ⟨w.heap.size, 2, none⟩ u2) (some r)) := fun W hR hG u0 u1 u2 => by
      have s1 : W.grownBy (((W.setCell ⟨w.heap.size, 0, none⟩ u0).setCell ⟨w.heap.size, 1, none⟩ u1).setCell ⟨w.heap.size, 2, none⟩ u2) (some w.heap.size) := grownBy_trans (grownBy_trans (grownBy_setCell _ _ _ _) (grownBy_setCell _ _ _ _)) (grownBy_setCell _ _ _ _)
      refine ⟨hR.kept s1 (by simp; omega) (by simp; omega), ⟨s1.os.trans hG.os, s1.tape.trans hG.tape, s1.output.trans hG.output, Nat.le_trans hG.size s1.size, fun k hk hn => ?_⟩⟩
      exact (s1.block k (Nat.lt_of_lt_of_le hk hG.size) (by simp; omega)).trans (hG.block k hk hn)
    clear h0 hg0 h
    by_cases hxe : xe = 0
    · subst hxe
      by_cases hbv : 1 < bv
      · have e0 : ok = false := by rw [hok]; simp [hbv]
        subst e0
        have i1 : decide ((1 : Int) < bv) = true := decide_eq_true hbv
        clear hok
        go_enter Tryz.func157, Tryz.ntmps157
        go_wp2_with first
          | (go_at_call 93; refine (HT.out _ H0.out).mono ?_; clear HT H0; rintro y w1 ⟨rfl, hR1, hG1⟩; have R1 : Hid (Rd w1 r g tp te l) := hR1; have G1 : Hid (w.grownBy w1 (some r)) := grownBy_trans HG0.out hG1; have b1 := b0.grown hG1 hne; clear hR1 hG1)
          | (go_at_call 126; refine (HBy.out _ R1.out).mono ?_; clear HBy R1; rintro y w2 ⟨rfl, hR2, hG2⟩; have R2 : Hid (Rd w2 r g bp be l) := hR2; have G2 : Hid (w.grownBy w2 (some r)) := grownBy_trans G1.out hG2; have b2 := b1.grown hG2 hne; clear hR2 hG2)
          | (go_at_call 94; refine (HW.out _ R2.out).mono ?_; clear HW R2; rintro y w3 ⟨rfl, hR3, hG3⟩; have R3 : Hid (Rd w3 r g xp 0 l) := hR3; have G3 : Hid (w.grownBy w3 (some r)) := grownBy_trans G2.out hG3; have b3 := b2.grown hG3 hne; obtain ⟨c0, c1, c2⟩ := b3.cell; obtain ⟨f0, f1, f2⟩ := b3.frozen; have re := hR3.c1; clear hR3 hG3)
          | (go_at_call 95; refine (err_any _ r 0 re).mono ?_; rintro y w4 ⟨rfl, hw4⟩; subst hw4)
        obtain ⟨d0, d1, d2⟩ := (b3.all (.string ⟨#[]⟩) (.bool false) (.int .u64 0)).cell
        obtain ⟨hRR, hGG⟩ := HK.out _ R3.out G3.out (.string ⟨#[]⟩) (.bool false) (.int .u64 0)
        refine bodyPost_ret (v := .tuple #[.agg #[.string ⟨#[]⟩, .bool false, .int .u64 0], .bool false]) (by simp [results, Tryz.results157, go_sem, d0, d1, d2]) rfl ⟨rfl, hRR, hGG⟩
      · have e0 : ok = true := by rw [hok]; simp [hbv]
        subst e0
        have i1 : decide ((1 : Int) < bv) = false := decide_eq_false hbv
        clear hok
        go_enter Tryz.func157, Tryz.ntmps157
        go_wp2_with first
          | (go_at_call 93; refine (HT.out _ H0.out).mono ?_; clear HT H0; rintro y w1 ⟨rfl, hR1, hG1⟩; have R1 : Hid (Rd w1 r g tp te l) := hR1; have G1 : Hid (w.grownBy w1 (some r)) := grownBy_trans HG0.out hG1; have b1 := b0.grown hG1 hne; clear hR1 hG1)
          | (go_at_call 126; refine (HBy.out _ R1.out).mono ?_; clear HBy R1; rintro y w2 ⟨rfl, hR2, hG2⟩; have R2 : Hid (Rd w2 r g bp be l) := hR2; have G2 : Hid (w.grownBy w2 (some r)) := grownBy_trans G1.out hG2; have b2 := b1.grown hG2 hne; clear hR2 hG2)
          | (go_at_call 94; refine (HW.out _ R2.out).mono ?_; clear HW R2; rintro y w3 ⟨rfl, hR3, hG3⟩; have R3 : Hid (Rd w3 r g xp 0 l) := hR3; have G3 : Hid (w.grownBy w3 (some r)) := grownBy_trans G2.out hG3; have b3 := b2.grown hG3 hne; obtain ⟨c0, c1, c2⟩ := b3.cell; obtain ⟨f0, f1, f2⟩ := b3.frozen; have re := hR3.c1; clear hR3 hG3)
          | (go_at_call 95; refine (err_any _ r 0 re).mono ?_; rintro y w4 ⟨rfl, hw4⟩; subst hw4)
        obtain ⟨d0, d1, d2⟩ := (b3.all (.string t1) (.bool (bv == 1)) (.int .u64 xv)).cell
        obtain ⟨hRR, hGG⟩ := HK.out _ R3.out G3.out (.string t1) (.bool (bv == 1)) (.int .u64 xv)
        refine bodyPost_ret (v := .tuple #[.agg #[.string t1, .bool (bv == 1), .int .u64 xv], .bool true]) (by simp [results, Tryz.results157, go_sem, d0, d1, d2]) rfl ⟨rfl, hRR, hGG⟩
    · have e0 : ok = false := by rw [hok]; simp [hxe]
      subst e0
      have i1 : (xe != 0) = true := by simp [hxe]
      have i2 : (xe == 0) = false := by simp [hxe]
      clear hok
      go_enter Tryz.func157, Tryz.ntmps157
      go_wp2_with first
        | (go_at_call 93; refine (HT.out _ H0.out).mono ?_; clear HT H0; rintro y w1 ⟨rfl, hR1, hG1⟩; have R1 : Hid (Rd w1 r g tp te l) := hR1; have G1 : Hid (w.grownBy w1 (some r)) := grownBy_trans HG0.out hG1; have b1 := b0.grown hG1 hne; clear hR1 hG1)
        | (go_at_call 126; refine (HBy.out _ R1.out).mono ?_; clear HBy R1; rintro y w2 ⟨rfl, hR2, hG2⟩; have R2 : Hid (Rd w2 r g bp be l) := hR2; have G2 : Hid (w.grownBy w2 (some r)) := grownBy_trans G1.out hG2; have b2 := b1.grown hG2 hne; clear hR2 hG2)
        | (go_at_call 94; refine (HW.out _ R2.out).mono ?_; clear HW R2; rintro y w3 ⟨rfl, hR3, hG3⟩; have R3 : Hid (Rd w3 r g xp xe l) := hR3; have G3 : Hid (w.grownBy w3 (some r)) := grownBy_trans G2.out hG3; have b3 := b2.grown hG3 hne; obtain ⟨c0, c1, c2⟩ := b3.cell; obtain ⟨f0, f1, f2⟩ := b3.frozen; have re := hR3.c1; clear hR3 hG3)
        | (go_at_call 95; refine (err_any _ r xe re).mono ?_; rintro y w4 ⟨rfl, hw4⟩; subst hw4)
      obtain ⟨d0, d1, d2⟩ := (b3.all (.string ⟨#[]⟩) (.bool false) (.int .u64 0)).cell
      obtain ⟨hRR, hGG⟩ := HK.out _ R3.out G3.out (.string ⟨#[]⟩) (.bool false) (.int .u64 0)
      refine bodyPost_ret (v := .tuple #[.agg #[.string ⟨#[]⟩, .bool false, .int .u64 0], .bool false]) (by simp [results, Tryz.results157, go_sem, d0, d1, d2]) rfl ⟨rfl, hRR, hGG⟩
  refine (key _ rfl).mono fun y w' hy => ⟨?_, hy.2⟩
  rw [hy.1]
  by_cases hq : xe ≠ 0 ∨ 1 < bv
  · rw [if_pos hq, decide_eq_true hq]; rfl
  · rw [if_neg hq, decide_eq_false hq]; rfl
end Go.Proofs.YtncagdfbgpdhfaaGreat

/- A tree, as it is read. -/
namespace Go.Proofs.YtncagdfbgpdhfaaGreat
open Go.RowKit

attribute [local go_sem] Oper.semAt_some

theorem byteR_ok {l : List UInt8} {p : Nat} {e : Int} (h : (byteR l p e).2.2 = 0) : e = 0 ∧ (byteR l p e).2.1 = p + 1 ∧ p < l.length := by
  unfold byteR at h ⊢
  by_cases he : e ≠ 0
  · rw [if_pos he] at h; exact absurd h he
  · rw [if_neg he] at h ⊢
    by_cases hp : p < l.length
    · rw [if_pos hp]; exact ⟨by omega, rfl, hp⟩
    · rw [if_neg hp] at h; simp at h
theorem wordR_ok {l : List UInt8} {p : Nat} {e : Int} (h : (wordR l p e).2.2 = 0) : e = 0 ∧ (wordR l p e).2.1 = p + 8 ∧ p + 8 ≤ l.length := by
  unfold wordR at h ⊢
  by_cases he : e ≠ 0
  · rw [if_pos he] at h; exact absurd h he
  · rw [if_neg he] at h ⊢
    by_cases hp : l.length < p + 8
    · rw [if_pos hp] at h; simp at h
    · rw [if_neg hp]; exact ⟨by omega, rfl, by omega⟩
theorem textR_ok {l : List UInt8} {p : Nat} {e m : Int} (h : (textR l p e m).2.2 = 0) : e = 0 ∧ p ≤ (textR l p e m).2.1 := by
  unfold textR at h ⊢
  by_cases he : e ≠ 0
  · rw [if_pos he] at h; exact absurd h he
  · rw [if_neg he] at h ⊢
    by_cases hp : (txt (l.drop p) m).2.2 = 0
    · rw [if_pos hp]; exact ⟨by omega, by simp⟩
    · rw [if_neg hp] at h; exact absurd h hp
theorem entR_some {l : List UInt8} {p : Nat} {e : Int} {x : Ent} (h : (entR l p e).1 = some x) : e = 0 ∧ p + 9 ≤ (entR l p e).2.1 ∧ (entR l p e).2.2 = 0 := by
  unfold entR at h ⊢
  simp only at h ⊢
  by_cases hq : (wordR l (byteR l (textR l p e 32).2.1 (textR l p e 32).2.2).2.1 (byteR l (textR l p e 32).2.1 (textR l p e 32).2.2).2.2).2.2 ≠ 0 ∨ 1 < (byteR l (textR l p e 32).2.1 (textR l p e 32).2.2).1
  · rw [if_pos hq] at h; cases h
  · have h1 : (wordR l (byteR l (textR l p e 32).2.1 (textR l p e 32).2.2).2.1 (byteR l (textR l p e 32).2.1 (textR l p e 32).2.2).2.2).2.2 = 0 := by
      by_cases h1 : (wordR l (byteR l (textR l p e 32).2.1 (textR l p e 32).2.2).2.1 (byteR l (textR l p e 32).2.1 (textR l p e 32).2.2).2.2).2.2 = 0
      · exact h1
      · exact absurd (.inl h1) hq
    obtain ⟨a1, a2, _⟩ := wordR_ok h1
    obtain ⟨b1, b2, _⟩ := byteR_ok a1
    obtain ⟨c1, c2⟩ := textR_ok b1
    exact ⟨c1, by omega, h1⟩
/-- n entries, as they are read, behind those that are read -/
def entsR : Nat → List UInt8 → Nat → Int → List Ent → Option (List Ent) × Nat × Int
  | 0, _, p, e, acc => (some acc, p, e)
  | n + 1, l, p, e, acc => match (entR l p e).1 with
    | none => (none, (entR l p e).2.1, (entR l p e).2.2)
    | some x => entsR n l (entR l p e).2.1 (entR l p e).2.2 (acc ++ [x])
def treeR (l : List UInt8) (p : Nat) (e : Int) : Option (List Ent) × Nat × Int := entsR (uintR l p e).1.toNat l (uintR l p e).2.1 (uintR l p e).2.2 []
theorem ents_one (w : World) (x : Ent) : Ents (w.alloc (.cells #[.string x.1, .bool x.2.1, .int .u64 x.2.2] 179)) (some ⟨w.heap.size, 0, none⟩) 1 [x] := by
  refine ⟨rfl, fun _ => ⟨_, _, rfl, fun j y hy => ?_⟩⟩
  match j, hy with
  | 0, hy =>
    simp at hy; subst hy
    have := (Box3.new w (.string x.1) (.bool x.2.1) (.int .u64 x.2.2)).cell
    simp only [Nat.zero_mul, Nat.add_zero]
    exact this
theorem own_grown {W W' : World} {B r n : Nat} {t : TypeId} {z : Nat} {v : Value} {xs : List Value} (h : W.ownsRow B t z v n xs) (hg : W.grownBy W' (some r)) (hr : r < B) : W'.ownsRow B t z v n xs :=
  h.kept hg (.inr fun e => by
    rcases h.2 with ⟨rfl, _⟩ | ⟨g, cap, cur, rfl, hb, _⟩
    · cases e
    · have : g = r := Option.some.inj e
      omega)
theorem boxed_grown {W W' : World} {B r : Nat} {t : TypeId} {v : Value} (h : Boxed W B t v) (hg : W.grownBy W' (some r)) (hr : r ≠ B) : Boxed W' B t v := (hg.block B h.lt (fun e => hr (Option.some.inj e).symm)).trans h
/-- what stands while a tree is read -/
structure TR (w : World) (r g : Nat) (l : List UInt8) (p : Nat) (e : Int) (acc : List Ent) (ad : Option Addr) (n cp : Nat) (W : World) : Prop where
  rd : Rd W r g p e l
  gr : w.grownBy W (some r)
  box : Boxed W w.heap.size 125 (.slice ad n cp)
  row : W.ownsRow (w.heap.size + 1) 179 3 (.slice ad n cp) n (entCells acc)
  len : acc.length = n
  le : n ≤ p
  low : w.heap.size + 1 ≤ W.heap.size
theorem TR.next {w W W1 : World} {r g : Nat} {l : List UInt8} {p p' : Nat} {e e' : Int} {acc : List Ent} {ad : Option Addr} {n cp : Nat} (h : TR w r g l p e acc ad n cp W) (hr : r < w.heap.size) (hR : Rd W1 r g p' e' l) (hg : W.grownBy W1 (some r)) (hp : p ≤ p') : TR w r g l p' e' acc ad n cp W1 :=
  ⟨hR, grownBy_trans h.gr hg, boxed_grown h.box hg (by omega), own_grown h.row hg (by omega), h.len, Nat.le_trans h.le hp, Nat.le_trans h.low hg.size⟩
theorem TR.alloc {w W : World} {r g : Nat} {l : List UInt8} {p : Nat} {e : Int} {acc : List Ent} {ad : Option Addr} {n cp : Nat} (h : TR w r g l p e acc ad n cp W) (hr : r < w.heap.size) (o : Obj) : TR w r g l p e acc ad n cp (W.alloc o) := by
  have hg : W.grownBy (W.alloc o) none := ⟨rfl, rfl, rfl, by simp, fun k hk _ => Below.heap_alloc _ _ _ hk⟩
  exact h.next hr (h.rd.kept hg (by simp) (by simp)) (grownBy_wide hg) (Nat.le_refl _)
theorem TR.boxed {w W W1 : World} {r g : Nat} {l : List UInt8} {p : Nat} {e : Int} {acc : List Ent} {ad : Option Addr} {n cp : Nat} (h : TR w r g l p e acc ad n cp W) (hg : W.grownBy W1 (Value.slice ad n cp).ownBlock) : Boxed W1 w.heap.size 125 (.slice ad n cp) :=
  (hg.block _ h.box.lt (fun e => by
    rcases h.row.2 with ⟨e', _⟩ | ⟨g', cap, cur, e', hb, _⟩
    · rw [e'] at e; cases e
    · rw [e'] at e
      have : w.heap.size = g' := Option.some.inj e
      omega)).trans h.box
theorem TR.push {w W W1 : World} {r g : Nat} {l : List UInt8} {p : Nat} {e : Int} {acc : List Ent} {ad : Option Addr} {n cp : Nat} {x : Ent} {ad' : Option Addr} {cp' : Nat} (h : TR w r g l p e acc ad n cp W) (hr : r < w.heap.size) (hgw : g < w.heap.size) (hp : n + 1 ≤ p)
    (ho : W1.ownsRow (w.heap.size + 1) 179 3 (.slice ad' (n + 1) cp') (n + 1) (entCells (acc ++ [x]))) (hg : W.grownBy W1 (Value.slice ad n cp).ownBlock) :
    TR w r g l p e (acc ++ [x]) ad' (n + 1) cp' (W1.setCell ⟨w.heap.size, 0, none⟩ (.slice ad' (n + 1) cp')) := by
  have hob : ∀ k, (Value.slice ad n cp).ownBlock = some k → w.heap.size + 1 ≤ k := fun k hk => by
    rcases h.row.2 with ⟨e, _⟩ | ⟨g', cap, cur, e, hb, _⟩
    · rw [e] at hk; cases hk
    · rw [e] at hk; cases hk; exact hb
  have hB1 : Below (w.heap.size + 1) W W1 := ⟨hg.os, hg.tape, hg.output, hg.size, fun k hk => hg.block k (by have := h.low; omega) (fun e => by have := hob k e.symm; omega)⟩
  have hS : W1.grownBy (W1.setCell ⟨w.heap.size, 0, none⟩ (.slice ad' (n + 1) cp')) (some w.heap.size) := grownBy_setCell _ _ _ _
  have hbx : Boxed W1 w.heap.size 125 (.slice ad n cp) := (hB1.block _ (by omega)).trans h.box
  have hR1 : Rd W1 r g p e l := h.rd.kept (row := (Value.slice ad n cp).ownBlock) hg (fun e => by have := hob r e; omega) (fun e => by have := hob g e; omega)
  refine ⟨hR1.kept hS (by simp; omega) (by simp; omega), ?_, ?_, ?_, by simp [h.len], by omega, ?_⟩
  · refine ⟨hS.os.trans (hg.os.trans h.gr.os), hS.tape.trans (hg.tape.trans h.gr.tape), hS.output.trans (hg.output.trans h.gr.output), Nat.le_trans h.gr.size (Nat.le_trans hg.size hS.size), fun k hk hn => ?_⟩
    rw [hS.block k (by have := h.gr.size; have := hg.size; omega) (by simp; omega), hB1.block k (by omega)]
    exact h.gr.block k hk hn
  · have h' : W1.heap[w.heap.size]? = _ := hbx
    have hl := hbx.lt
    unfold Boxed
    simp [World.setCell, Array.getElem?_modify, h']
  · exact ho.kept hS (.inr fun e => by
      rcases ho.2 with ⟨e', _⟩ | ⟨g', cap, cur, e', hb, _⟩
      · rw [e'] at e; cases e
      · rw [e'] at e
        have : g' = w.heap.size := Option.some.inj e
        omega)
  · have := h.low; have := hg.size; have := hS.size; omega

/-- what a call that reads a tree answers -/
def TreeOut (w : World) : Option (List Ent) → Ending → World → Prop
  | none, x, _ => x = .returned .nilIface
  | some ents, x, w' => ∃ ad cp, x = .returned (trV ad ents.length cp) ∧ w'.ownsRow w.heap.size 179 3 (.slice ad ents.length cp) ents.length (entCells ents)

set_option maxRecDepth 20000 in
set_option maxHeartbeats 4000000 in
theorem readTree_any (w : World) (r g p : Nat) (e : Int) (l : List UInt8) (h : Rd w r g p e l) (hr : r < w.heap.size) (hg : g < w.heap.size) (hl : l.length ≤ 549755813888) :
    Calls Tryz.prog 128 #[.pointer (some ⟨r, 0, none⟩)] w fun x w' => Rd w' r g (treeR l p e).2.1 (treeR l p e).2.2 l ∧ w.grownBy w' (some r) ∧
      TreeOut w (treeR l p e).1 x w' := by
  have h0 : Rd (w.alloc (.cells #[.slice none 0 0] 125)) r g p e l := h.kept (row := none) ⟨rfl, rfl, rfl, by simp, fun k hk _ => Below.heap_alloc _ _ _ hk⟩ (by simp) (by simp)
  have hT0 : TR w r g l p e [] none 0 0 (w.alloc (.cells #[.slice none 0 0] 125)) := ⟨h0, ⟨rfl, rfl, rfl, by simp, fun k hk _ => Below.heap_alloc _ _ _ hk⟩, Boxed.new _ _ _, World.ownsRow_nil _ _ _ _, rfl, Nat.zero_le _, by simp⟩
  have T0 : Hid (TR w r g l p e [] none 0 0 (w.alloc (.cells #[.slice none 0 0] 125))) := hT0
  obtain ⟨RES, hRES⟩ : ∃ RES, RES = treeR l p e := ⟨_, rfl⟩
  rw [← hRES]
  have huf := uintR_fits l p e
  have hup : p ≤ (uintR l p e).2.1 := by
    unfold uintR
    split
    · exact Nat.le_refl _
    · split
      · simp
      · exact Nat.le_refl _
  have HU : Hid (∀ W, Rd W r g p e l → Calls Tryz.prog 156 #[.pointer (some ⟨r, 0, none⟩)] W fun x w' => x = .returned (.int .u64 (uintR l p e).1) ∧ Rd w' r g (uintR l p e).2.1 (uintR l p e).2.2 l ∧ W.grownBy w' (some r)) := fun W hW => uint_st W r g p e l hW
  unfold treeR at hRES
  generalize uintR l p e = U at huf hup HU hRES
  obtain ⟨u, up, ue⟩ := U
  simp only at huf hup HU hRES
  obtain ⟨c, rfl⟩ := Int.eq_ofNat_of_zero_le huf.1
  have HR : Hid (RES = entsR c l up ue []) := hRES
  have HE : Hid (∀ W q f, Rd W r g q f l → r < W.heap.size → g < W.heap.size → Calls Tryz.prog 157 #[.pointer (some ⟨r, 0, none⟩)] W fun x w' => x = .returned (.tuple #[entV (entR l q f).1, .bool (entR l q f).1.isSome]) ∧ Rd w' r g (entR l q f).2.1 (entR l q f).2.2 l ∧ W.grownBy w' (some r)) := fun W q f hW a b => readEntry_any W r g q f l hW a b
  clear h0 hT0 hRES h
  go_enter Tryz.func128, Tryz.ntmps128
  go_wp2_with (go_at_call 156; refine (HU.out _ T0.out.rd).mono ?_; clear HU; rintro y w1 ⟨rfl, hR1, hG1⟩; have T1 : Hid (TR w r g l up ue [] none 0 0 w1) := T0.out.next hr hR1 hG1 hup; clear T0 hR1 hG1)
  go_loopw [4] (fun i wr => ∃ (k q : Nat) (f : Int) (acc : List Ent) (ad : Option Addr) (n cp : Nat), k ≤ 18446744073709551615 ∧ i = .int .u64 (k : Int) ∧ Hid (TR w r g l q f acc ad n cp wr ∧ RES = entsR k l q f acc)) (fun i _ => (intOf i).toNat)
  case atStart => exact ⟨c, up, ue, [], none, 0, 0, by omega, rfl, T1.out, HR.out⟩
  case round =>
    clear T1 HR huf hup
    obtain ⟨k, q, f, acc, ad, n, cp, hk, rfl, H⟩ := hrel
    have hbx := H.out.1.box.cell
    have hn1 := H.out.1.le
    have hn2 := H.out.1.rd.hp
    cases k with
    | zero =>
      have HF := H.out.2
      unfold entsR at HF
      go_wp2
      go_ret
      rw [HF]
      refine ⟨H.out.1.rd, H.out.1.gr, ?_⟩
      have hlen := H.out.1.len
      subst hlen
      exact ⟨ad, cp, rfl, by
        rcases H.out.1.row with ⟨h1, h2⟩
        refine ⟨h1, ?_⟩
        rcases h2 with h2 | ⟨g', cap, cur, e', hb, h3⟩
        · exact .inl h2
        · exact .inr ⟨g', cap, cur, e', by omega, h3⟩⟩
    | succ k =>
      have i1 : (0 : Int) < ((k + 1 : Nat) : Int) := by omega
      have i2 : ((k + 1 : Nat) : Int) - 1 = (k : Int) := by omega
      have hr1 : r < wr.heap.size := Nat.lt_of_lt_of_le hr H.out.1.gr.size
      have hg1 : g < wr.heap.size := Nat.lt_of_lt_of_le hg H.out.1.gr.size
      have hcall := HE.out wr q f H.out.1.rd hr1 hg1
      have HF := H.out.2
      unfold entsR at HF
      cases hx : (entR l q f).1 with
      | none =>
        rw [hx] at HF hcall
        simp only [entV, Option.isSome_none] at hcall
        have HFF : Hid (RES = (none, (entR l q f).2.1, (entR l q f).2.2)) := HF
        have HT : Hid (TR w r g l q f acc ad n cp wr) := H.out.1
        generalize (entR l q f).2.1 = q' at *
        generalize (entR l q f).2.2 = f' at *
        clear hx HE H HF
        go_wp2_with (go_at_call 157; refine hcall.mono ?_; clear hcall; rintro y w2 ⟨rfl, hR2, hG2⟩; have R2 : Hid (∀ o, Rd (w2.alloc o) r g q' f' l ∧ w.grownBy (w2.alloc o) (some r)) := fun o => ⟨hR2.kept (row := none) ⟨rfl, rfl, rfl, by simp, fun k hk _ => Below.heap_alloc _ _ _ hk⟩ (by simp) (by simp), grownBy_trans (grownBy_trans HT.out.gr hG2) ⟨rfl, rfl, rfl, by simp, fun k hk _ => Below.heap_alloc _ _ _ hk⟩⟩; clear hR2 hG2)
        go_ret
        rw [HFF.out]
        exact ⟨(R2.out _).1, (R2.out _).2, rfl⟩
      | some x =>
        obtain ⟨_, hx2, hx3⟩ := entR_some hx
        rw [hx] at HF hcall
        simp only [entV, Option.isSome_some] at hcall
        simp only at HF
        have HT : Hid (TR w r g l q f acc ad n cp wr) := H.out.1
        have HFF : Hid (RES = entsR k l (entR l q f).2.1 (entR l q f).2.2 (acc ++ [x])) := HF
        generalize (entR l q f).2.1 = q' at *
        generalize (entR l q f).2.2 = f' at *
        obtain ⟨nm, fo, id⟩ := x
        simp only at hcall
        clear hx HE H HF
        go_wp2_with first
          | (go_at_call 157; refine hcall.mono ?_; clear hcall; rintro y w2 ⟨rfl, hR2, hG2⟩; have T2 : Hid (TR w r g l q' f' acc ad n cp (w2.alloc (.cells #[.string nm, .bool fo, .int .u64 id] 179))) := (HT.out.next hr hR2 hG2 (by omega)).alloc hr _; have T3 : Hid (TR w r g l q' f' acc ad n cp ((w2.alloc (.cells #[.string nm, .bool fo, .int .u64 id] 179)).alloc (.cells #[.string nm, .bool fo, .int .u64 id] 179))) := T2.out.alloc hr _; have c2 := T2.out.box.cell; have E3 : Hid (Ents ((w2.alloc (.cells #[.string nm, .bool fo, .int .u64 id] 179)).alloc (.cells #[.string nm, .bool fo, .int .u64 id] 179)) (some ⟨w2.heap.size + 1, 0, none⟩) 1 [(nm, fo, id)]) := (by have := ents_one (w2.alloc (.cells #[.string nm, .bool fo, .int .u64 id] 179)) (nm, fo, id); rw [World.size_alloc] at this; exact this); clear HT hR2 hG2 hbx T2)
          | (at_builtin; refine wpList_app3 _ (w.heap.size + 1) T3.out.low rfl _ _ rfl (.slice ad n cp) n acc rfl T3.out.row (some ⟨w2.heap.size + 1, 0, none⟩) 1 1 [(nm, fo, id)] rfl E3.out (fun h => by cases h) (by omega) ?_; intro v4 w4 ho4 hg4; obtain ⟨ad4, c4, hv4, _⟩ := row_shape3 ho4; subst hv4; have bx4 := T3.out.boxed hg4; have cb4 := bx4.cell; have fb4 := bx4.frozen; have T4 : Hid (TR w r g l q' f' (acc ++ [(nm, fo, id)]) ad4 (n + 1) c4 (w4.setCell ⟨w.heap.size, 0, none⟩ (.slice ad4 (n + 1) c4))) := T3.out.push hr hg (by omega) ho4 hg4; clear T3 E3 ho4 hg4 bx4 c2)
        go_roundw
        case rel => exact ⟨k, q', f', acc ++ [(nm, fo, id)], ad4, n + 1, c4, by omega, by simp, T4.out, HFF.out⟩
        case measure => simp [intOf]
end Go.Proofs.YtncagdfbgpdhfaaGreat
