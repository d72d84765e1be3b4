/- Entries in rows of one's own; a tree's copy. -/
import Derived.Test.YtdibdcbihleflaaORefTree2
namespace Go.Proofs.Ytdibdcbihleflaa
open Go.RowKit

attribute [local go_sem] Oper.semAt_some

def entCells : List Ent → List Value
  | [] => []
  | x :: r => .string x.1 :: .bool x.2.1 :: .int .u64 x.2.2 :: entCells r
theorem entCells_len : ∀ l : List Ent, (entCells l).length = l.length * 3
  | [] => rfl
  | x :: r => by simp only [entCells, List.length_cons, entCells_len r]; omega
theorem entCells_one : ∀ (l : List Ent), ∀ u ∈ entCells l, u.oneCell' = true
  | [], u, h => by cases h
  | x :: r, u, h => by
    simp only [entCells, List.mem_cons] at h
    rcases h with rfl | rfl | rfl | h
    · rfl
    · rfl
    · rfl
    · exact entCells_one r u h
theorem entCells_append : ∀ (l m : List Ent), entCells (l ++ m) = entCells l ++ entCells m
  | [], m => rfl
  | x :: r, m => by simp [entCells, entCells_append r m]
theorem entCells_get : ∀ (l : List Ent) (j : Nat) (x : Ent), l[j]? = some x → (entCells l)[j * 3]? = some (.string x.1) ∧ (entCells l)[j * 3 + 1]? = some (.bool x.2.1) ∧ (entCells l)[j * 3 + 2]? = some (.int .u64 x.2.2)
  | [], j, x, h => by simp at h
  | y :: r, 0, x, h => by
    simp at h; subst h
    exact ⟨rfl, rfl, rfl⟩
  | y :: r, j + 1, x, h => by
    have ih := entCells_get r j x (by simpa using h)
    rw [show (j + 1) * 3 = j * 3 + 3 by omega]
    exact ih
theorem ents_news {w : World} {b : Nat} : ∀ (l : List Ent) (off : Nat), (∀ (j : Nat) x, l[j]? = some x → w.cell? ⟨b, off + j * 3, none⟩ = some (.string x.1) ∧ w.cell? ⟨b, off + j * 3 + 1, none⟩ = some (.bool x.2.1) ∧ w.cell? ⟨b, off + j * 3 + 2, none⟩ = some (.int .u64 x.2.2)) →
    ∀ (j : Nat) u, (entCells l)[j]? = some u → w.cell? ⟨b, off + j, none⟩ = some u
  | [], _, _, j, u, h => by simp [entCells] at h
  | x :: r, off, hc, 0, u, h => by
    simp [entCells] at h; subst h
    have := (hc 0 x rfl).1
    simpa using this
  | x :: r, off, hc, 1, u, h => by
    simp [entCells] at h; subst h
    have := (hc 0 x rfl).2.1
    simpa using this
  | x :: r, off, hc, 2, u, h => by
    simp [entCells] at h; subst h
    have := (hc 0 x rfl).2.2
    simpa using this
  | x :: r, off, hc, j + 3, u, h => by
    have := ents_news (w := w) (b := b) r (off + 3) (fun i y hy => by
      have := hc (i + 1) y (by simpa using hy)
      rw [show off + (i + 1) * 3 = off + 3 + i * 3 by omega] at this
      exact this) j u (by simpa [entCells] using h)
    rw [show off + (j + 3) = off + 3 + j by omega]
    exact this
theorem row_shape3 {w : World} {B n : Nat} {v : Value} {xs : List Value} (h : w.ownsRow B 50 3 v n xs) : ∃ ad c, v = .slice ad n c ∧ n ≤ c ∧ (ad = none → n = 0 ∧ c = 0) := by
  rcases h.2 with ⟨rfl, rfl⟩ | ⟨g, cap, cur, rfl, _, _, hc, _⟩
  · exact ⟨none, 0, rfl, Nat.le_refl _, fun _ => ⟨rfl, rfl⟩⟩
  · exact ⟨_, _, rfl, hc, fun h => by cases h⟩
theorem own_ents {w : World} {B n c : Nat} {ad : Option Addr} {l : List Ent} (h : w.ownsRow B 50 3 (.slice ad n c) n (entCells l)) (hl : l.length = n) : Ents w ad n l := by
  refine ⟨hl, fun h0 => ?_⟩
  rcases h.2 with ⟨e, h'⟩ | ⟨g, cap, cur, e, _⟩
  · omega
  · cases e
    refine ⟨g, 0, rfl, fun j x hx => ?_⟩
    obtain ⟨h1, h2, h3⟩ := entCells_get l j x hx
    have c1 := h.cells (g := g) rfl _ _ h1
    have c2 := h.cells (g := g) rfl _ _ h2
    have c3 := h.cells (g := g) rfl _ _ h3
    rw [Addr.add_lit] at c1 c2 c3
    simp only [Nat.zero_add] at c1 c2 c3 ⊢
    exact ⟨c1, c2, c3⟩
theorem row_block3 {W : World} {base n : Nat} {v : Value} {xs : List Value} (h : W.ownsRow base 50 3 v n xs) : ∀ r, v.ownBlock = some r → base ≤ r ∧ r < W.heap.size ∧ ∃ cur, W.heap[r]? = some (.cells cur 50 (0, 0)) := by
  intro r hr
  rcases h.2 with ⟨rfl, _⟩ | ⟨g, cap, cur, rfl, hb, hg, _⟩
  · cases hr
  · cases hr
    exact ⟨hb, (Array.getElem?_eq_some_iff.1 hg).1, cur, hg⟩
theorem below_gr3 {W W' : World} {B n : Nat} {v : Value} {xs : List Value} (h : W.ownsRow B 50 3 v n xs) (hB : B ≤ W.heap.size) (hg : W.grownBy W' v.ownBlock) : Below B W W' :=
  ⟨hg.os, hg.tape, hg.output, hg.size, fun k hk => hg.block k (by omega) (fun e => by have := (row_block3 h k e.symm).1; omega)⟩

/-- entries appended to a row of one's own -/
theorem wpList_app3 (w : World) (B : Nat) (hB : B ≤ w.heap.size) {ops : Array Oper} {rest : List Oper} {o : Oper} {a : Act} {Q : Exit → Act → World → Prop} (hgd : o.guard = none) (s x : Operand)
    (ho : o.op = .call { callee := .builtin .append, args := #[s, x], argTypes := #[33, 33] })
    (v : Value) (n : Nat) (k : List Ent) (hs : a.eval s = v) (hown : w.ownsRow B 50 3 v n (entCells k)) (ad : Option Addr) (m c : Nat) (l : List Ent) (hx : a.eval x = .slice ad m c) (hb : Ents w ad m l) (hnil : ad = none → m = 0 ∧ c = 0) (hm : n + m ≤ 1099511627776)
    (h : ∀ v' w', w'.ownsRow B 50 3 v' (n + m) (entCells (k ++ l)) → w.grownBy w' v.ownBlock → wpList Try.prog ops Q rest (a.put o.dst v') w') : wpList Try.prog ops Q (o :: rest) a w := by
  obtain ⟨i0, hi, hz0, hz1, hz2⟩ := info_parts infoEntry
  cases ad with
  | none =>
    obtain ⟨rfl, rfl⟩ := hnil rfl
    have hl : l = [] := List.eq_nil_of_length_eq_zero hb.1
    subst hl
    refine wpList_plain hgd fun K hK => ?_
    have hr := run_append_owned_none (P := Try.prog) (w := w) B 33 o.type 50 i0 3 Try.underlying33 hi v n _ hown
    unfold Oper.wp execOp
    simp only [ho, resolve, invoke, builtin, Sem.run_bind, Sem.run_pure, Result.andThen_ok, List.map_toArray, List.map_cons, List.map_nil, hs, hx, hr]
    exact hK _ _ (h v w (by rw [List.append_nil]; exact hown) ⟨rfl, rfl, rfl, Nat.le_refl _, fun _ _ _ => rfl⟩)
  | some q =>
    refine wpList_append_own w hgd s x 33 ho B 50 i0 _ 3 32 Try.underlying33 hi hz0 hz1 hz2 rfl (by decide) v n _ hs hown q m c (entCells l) hx (by rw [entCells_len, hb.1]) ?_ (entCells_one l) (by unfold maxLen; omega) (by omega) hB fun v' w' h1 h2 _ => h v' w' (by rw [entCells_append]; exact h1) h2
    intro j u hj
    have hl := hb.1
    by_cases hm0 : 0 < m
    · obtain ⟨b, off, e, hc⟩ := hb.2 hm0
      cases e
      rw [Addr.add_lit]
      exact ents_news l off hc j u hj
    · have : l = [] := List.eq_nil_of_length_eq_zero (by omega)
      subst this
      simp [entCells] at hj

set_option maxHeartbeats 2000000 in
theorem entries_like (w : World) (a a' : Option Addr) (n c d : Nat) (l : List Ent) (h : Ents w a n l) (h' : Ents w a' n l) (hn : n ≤ 9223372036854775807) :
    Calls Try.prog 18 #[.slice a n c, .slice a' n d] w fun e w' => e = .returned (.bool true) ∧ Below w.heap.size w w' := by
  go_enter Try.func18, Try.ntmps18
  go_wp2
  go_loopw [13] (fun i wr => ∃ k : Nat, k ≤ n ∧ i = .int .i64 k ∧ Hid (Below w.heap.size w wr)) (fun i _ => n - (intOf i).toNat)
  case atStart => exact ⟨0, Nat.zero_le _, rfl, Below.refl _ _⟩
  case round =>
    obtain ⟨k, hk, rfl, H⟩ := hrel
    by_cases hlt : k < n
    · obtain ⟨⟨x0, x1, x2⟩, hx⟩ : ∃ x, l[k]? = some x := ⟨_, List.getElem?_eq_getElem (by rw [h.1]; exact hlt)⟩
      obtain ⟨b1, o1, rfl, hc1⟩ := h.2 (by omega)
      obtain ⟨b2, o2, rfl, hc2⟩ := h'.2 (by omega)
      obtain ⟨q1, q2, q3⟩ := hc1 k _ hx
      obtain ⟨r1, r2, r3⟩ := hc2 k _ hx
      have p1 : wr.cell? ⟨b1, o1 + k * 3, none⟩ = some (.string x0) := (H.out.cell (p := ⟨b1, o1 + k * 3, none⟩) (World.block_lt_of_cell? w _ q1)).trans q1
      have p2 : wr.cell? ⟨b1, o1 + k * 3 + 1, none⟩ = some (.bool x1) := (H.out.cell (p := ⟨b1, o1 + k * 3 + 1, none⟩) (World.block_lt_of_cell? w _ q2)).trans q2
      have p3 : wr.cell? ⟨b1, o1 + k * 3 + 2, none⟩ = some (.int .u64 x2) := (H.out.cell (p := ⟨b1, o1 + k * 3 + 2, none⟩) (World.block_lt_of_cell? w _ q3)).trans q3
      have s1 : wr.cell? ⟨b2, o2 + k * 3, none⟩ = some (.string x0) := (H.out.cell (p := ⟨b2, o2 + k * 3, none⟩) (World.block_lt_of_cell? w _ r1)).trans r1
      have s2 : wr.cell? ⟨b2, o2 + k * 3 + 1, none⟩ = some (.bool x1) := (H.out.cell (p := ⟨b2, o2 + k * 3 + 1, none⟩) (World.block_lt_of_cell? w _ r2)).trans r2
      have s3 : wr.cell? ⟨b2, o2 + k * 3 + 2, none⟩ = some (.int .u64 x2) := (H.out.cell (p := ⟨b2, o2 + k * 3 + 2, none⟩) (World.block_lt_of_cell? w _ r3)).trans r3
      have i1 : (k : Int) < (n : Int) := by omega
      have i2 : ¬ n ≤ k := by omega
      clear hc1 h hx q1 q2 q3 hc2 h' r1 r2 r3
      go_wp2_with fail
      go_quiet (fail)
      go_wp2_with fail
      go_roundw
      case rel => exact ⟨k + 1, by omega, by simp, below_drewN H.out _⟩
      case measure => simp [intOf]; omega
    · obtain rfl : k = n := by omega
      go_wp2
      go_ret
      exact ⟨rfl, H.out⟩

set_option maxHeartbeats 1000000 in
theorem clone_ents (a : Option Addr) (n c : Nat) (l : List Ent) (w : World) (hb : Ents w a n l) (hnil : a = none → n = 0 ∧ c = 0) (hbig : n ≤ 1099511627776) :
    Calls Try.prog 62 #[.slice a n c] w fun e w' => ∃ v, e = .returned v ∧ w'.ownsRow w.heap.size 50 3 v n (entCells l) ∧ Below w.heap.size w w' := by
  have q22 : ∀ (w : World) (a : Option Addr) (n c n' c' : Nat), (binOp .eql 33 (.slice a n c) (.slice none n' c')).run Try.prog w = .ok (.bool a.isNone) w := fun w a n c n' c' => Lib.run_eql_slice_nil w _ _ a n c n' c' Try.underlying33
  cases a with
  | none =>
    obtain ⟨rfl, rfl⟩ := hnil rfl
    have hl : l = [] := List.eq_nil_of_length_eq_zero hb.1
    subst hl
    go_enter Try.func62, Try.ntmps62
    go_wp2
    go_ret
    exact ⟨_, rfl, World.ownsRow_nil _ _ _ _, Below.refl _ _⟩
  | some a =>
    have hB0 : Below w.heap.size w (w.alloc (.cells #[] 50)) := (Below.refl _ _).alloc (Nat.le_refl _) _
    have hb0 : Ents (w.alloc (.cells #[] 50)) (some a) n l := hb.below hB0
    have hr0 : (w.alloc (.cells #[] 50)).ownsRow w.heap.size 50 3 (.slice (some ⟨w.heap.size, 0, none⟩) 0 0) 0 (entCells []) := World.ownsRow_made w #[] 0 (Nat.le_refl _) (by unfold maxLen; omega) rfl
    go_enter Try.func62, Try.ntmps62
    go_wp2_with (at_builtin; refine wpList_app3 _ w.heap.size (by simp) rfl _ _ rfl (.slice (some ⟨w.heap.size, 0, none⟩) 0 0) 0 [] rfl hr0 (some a) n c l rfl hb0 hnil (by omega) ?_; intro v' w1 hown hgrow; obtain ⟨a', c', rfl, hnc, hnn⟩ := row_shape3 hown)
    go_ret
    simp only [Nat.zero_add, List.nil_append] at *
    refine ⟨_, rfl, hown, hB0.grown hgrow (by simp) (by intro k hk; cases hk; exact Nat.le_refl _)⟩
theorem row_lower3 {w : World} {B B' n : Nat} {v : Value} {xs : List Value} (h : w.ownsRow B 50 3 v n xs) (hB : B' ≤ B) : w.ownsRow B' 50 3 v n xs := by
  refine ⟨h.1, ?_⟩
  rcases h.2 with h0 | ⟨g, cap, cur, h1, h2, h3⟩
  · exact .inl h0
  · exact .inr ⟨g, cap, cur, h1, by omega, h3⟩
theorem fresh_tree (a : Option Addr) (n c : Nat) (l : List Ent) (w : World) (hb : Ents w a n l) (hnil : a = none → n = 0 ∧ c = 0) (hn : n ≤ 1099511627776) :
    Calls Try.prog 41 #[trV a n c] w fun e w' => ∃ ad cp, e = .returned (trV ad n cp) ∧ w'.ownsRow w.heap.size 50 3 (.slice ad n cp) n (entCells l) ∧ Below w.heap.size w w' := by
  have h0 := no_blob_tree (.agg #[.slice a n c])
  have h1 := as_tree (.agg #[.slice a n c])
  have hB0 : Below w.heap.size w (w.alloc (.cells #[.slice a n c] 35)) := (Below.refl _ w).alloc (Nat.le_refl _) _
  have hcl : Calls Try.prog 62 #[.slice a n c] (w.alloc (.cells #[.slice a n c] 35)) fun e w' => ∃ ad cp, e = .returned (.slice ad n cp) ∧ Hid (w'.ownsRow (w.heap.size + 1) 50 3 (.slice ad n cp) n (entCells l) ∧ Below (w.heap.size + 1) (w.alloc (.cells #[.slice a n c] 35)) w') ∧ Boxed w' w.heap.size 35 (.slice a n c) := by
    refine (clone_ents a n c l _ (hb.below hB0) hnil (by omega)).mono fun e w' ⟨v, he, ho, hB⟩ => ?_
    have hbx : Boxed w' w.heap.size 35 (.slice a n c) := (hB.block w.heap.size (by simp)).trans (World.alloc_heap_new _ _)
    rw [World.size_alloc] at ho hB
    obtain ⟨ad, cp, rfl, _⟩ := row_shape3 ho
    exact ⟨ad, cp, he, ⟨ho, hB⟩, hbx⟩
  go_enter Try.func41, Try.ntmps41
  go_wp2_with (go_at_call 62; refine hcl.mono ?_; clear hcl; rintro e w1 ⟨ad, cp, rfl, HO, hbx⟩; have cb := hbx.cell; have fb := hbx.frozen; have c2 := (hbx.set (.slice ad n cp)).cell)
  go_ret
  obtain ⟨ho, hB⟩ := HO.out
  refine ⟨ad, cp, rfl, ?_, (hB0.trans (hB.mono (by omega))).setCell (p := ⟨w.heap.size, 0, none⟩) (Nat.le_refl _) _⟩
  refine row_lower3 (ho.kept (row := some w.heap.size) (grownBy_setCell' w1 w.heap.size _) ?_) (by omega)
  exact .inr fun e => by have := (row_block3 ho w.heap.size e).1; omega
theorem Copy_tree (a : Option Addr) (n c : Nat) (l : List Ent) (w : World) (hb : Ents w a n l) (hnil : a = none → n = 0 ∧ c = 0) (hn : n ≤ 1099511627776) :
    Calls Try.prog 16 #[trV a n c] w fun e w' => ∃ ad cp, e = .returned (trV ad n cp) ∧ w'.ownsRow w.heap.size 50 3 (.slice ad n cp) n (entCells l) ∧ Below w.heap.size w w' := by
  go_enter Try.func16, Try.ntmps16
  go_wp2_with (go_at_call 41; refine (fresh_tree a n c l _ hb hnil hn).mono ?_; rintro e w1 ⟨ad, cp, rfl, hO, hB⟩)
  go_ret
  exact ⟨ad, cp, rfl, hO, hB⟩
end Go.Proofs.Ytdibdcbihleflaa
