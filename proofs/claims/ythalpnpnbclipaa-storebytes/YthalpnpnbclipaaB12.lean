import Derived.Test.YthalpnpnbclipaaB11
/- What the layer answers of a tree: encode, id, sameness, links. -/
namespace Go.Proofs.Ythalpnpnbclipaa
open Go.RowKit

theorem spot_short (nm : ByteArray) (h : (spot (bs nm)).1 = 0) : nm.size ≤ 32 := by
  have hl : (bs nm).length = nm.size := bs_len nm
  unfold spot at h
  split at h
  · cases h
  · split at h
    · cases h
    · omega
/-- the fields of entries that came in -/
structure Fields (l : List Ent) : Prop where
  name : Short l
  id : ∀ (j : Nat) x, l[j]? = some x → 0 ≤ x.2.2 ∧ x.2.2 < 18446744073709551616
theorem fits_of {l : List Ent} (hf : Fields l) (h : treeErrs l = 0) : l.length ≤ 256 ∧ Fits l := by
  unfold treeErrs at h
  split at h
  · omega
  · rename_i h1
    exact ⟨by omega, fun j x hx => spot_short _ (treeErr_ok l _ h j x hx), hf.id⟩
theorem Encode_tree (a : Option Addr) (n c : Nat) (l : List Ent) (w : World) (h : Ents w a n l) (hf : Fields l) (hn : n ≤ 9223372036854775807) (h0 : treeErrs l = 0) :
    Calls Try.prog 19 #[trV a n c] w fun e w' => ∃ v, e = .returned (.tuple #[v, .int .i64 0]) ∧ OwnB w.heap.size (treeB l) v w' ∧ Below w.heap.size w w' := by
  have c1 := check_tree a n c l w h hf.name hn
  rw [h0] at c1
  obtain ⟨hl, hF⟩ := fits_of hf h0
  have hll := h.1
  go_enter Try.func19, Try.ntmps19
  go_wp2_with first
    | (go_at_call 35; refine c1.mono ?_; clear c1; rintro e w1 ⟨rfl, hB1⟩)
    | (go_at_call 36; refine (encode_tree a n c l _ (h.below hB1) hF (by omega)).mono ?_; rintro e w2 ⟨ad, m, cp, rfl, hm, ho, hB2⟩; have HO : Hid (OwnB w1.heap.size (treeB l) (.slice ad m cp) w2) := ho; clear ho hm)
  go_ret2
  exact ⟨_, rfl, ⟨row_lower HO.out.row hB1.size⟩, hB1.trans (hB2.mono hB1.size)⟩
theorem Encode_tree_bad (a : Option Addr) (n c : Nat) (l : List Ent) (w : World) (h : Ents w a n l) (hf : Fields l) (hn : n ≤ 9223372036854775807) (h0 : treeErrs l ≠ 0) :
    Calls Try.prog 19 #[trV a n c] w fun e w' => e = .returned (.tuple #[.slice none 0 0, .int .i64 (treeErrs l)]) ∧ Below w.heap.size w w' := by
  have c1 := check_tree a n c l w h hf.name hn
  have h0' : (treeErrs l == 0) = false := beq_eq_false_iff_ne.2 h0
  generalize treeErrs l = E at *
  go_enter Try.func19, Try.ntmps19
  go_wp2_with (go_at_call 35; refine c1.mono ?_; clear c1; rintro e w1 ⟨rfl, hB1⟩)
  go_ret2
  exact ⟨rfl, hB1⟩
theorem Same_tree_bad (a : Option Addr) (n c : Nat) (l : List Ent) (x : Value) (w : World) (h : Ents w a n l) (hf : Fields l) (hn : n ≤ 9223372036854775807) (h0 : treeErrs l ≠ 0) :
    Calls Try.prog 21 #[trV a n c, x] w fun e w' => e = .returned (.bool false) ∧ Below w.heap.size w w' := by
  have c1 := check_tree a n c l w h hf.name hn
  have h0' : (treeErrs l == 0) = false := beq_eq_false_iff_ne.2 h0
  generalize treeErrs l = E at *
  go_enter Try.func21, Try.ntmps21
  go_wp2_with (go_at_call 35; refine c1.mono ?_; clear c1; rintro e w1 ⟨rfl, hB1⟩)
  go_ret
  exact ⟨rfl, hB1⟩
theorem Same_tree (a : Option Addr) (n c : Nat) (l : List Ent) (w : World) (h : Ents w a n l) (hf : Fields l) (hn : n ≤ 9223372036854775807) (h0 : treeErrs l = 0) :
    Calls Try.prog 21 #[trV a n c, trV a n c] w fun e w' => e = .returned (.bool true) ∧ Below w.heap.size w w' := by
  have c1 := fun w h => check_tree a n c l w h hf.name hn
  rw [h0] at c1
  obtain ⟨hl, hF⟩ := fits_of hf h0
  have hll := h.1
  have he := fun w h => encode_tree a n c l w h hF (by omega)
  generalize treeB l = T at *
  go_enter Try.func21, Try.ntmps21
  go_wp2_with first
    | (go_at_call 35; refine (c1 w h).mono ?_; rintro e w1 ⟨rfl, hB1⟩)
    | (go_at_call 35; refine (c1 _ (h.below hB1)).mono ?_; clear c1; rintro e w2 ⟨rfl, hB2⟩; have hB : Below w.heap.size w w2 := hB1.trans (hB2.mono hB1.size); have hb2 := h.below hB; clear hB1 hB2)
    | (go_at_call 36; refine (he w2 hb2).mono ?_; rintro e w3 ⟨ad, m, cp, rfl, hm, ho, hB3⟩; have hy3 := ho.bytes hm; have hb3 := hb2.below hB3; clear hb2 ho hm)
    | (go_at_call 36; refine (he _ hb3).mono ?_; clear he; rintro e w4 ⟨ad4, m4, cp4, rfl, hm4, ho, hB4⟩; have hy4 := ho.bytes hm4; have hy3' := bytes_below hy3 hB4; clear hb3 hy3 ho hm4)
    | (go_at_call 37; refine (equal_yes _ ad ad4 m m4 cp cp4 T hy3' hy4).mono ?_; rintro e w5 ⟨rfl, h5⟩; subst h5)
  go_ret
  exact ⟨rfl, hB.trans ((hB3.trans (hB4.mono hB3.size)).mono hB.size)⟩
end Go.Proofs.Ythalpnpnbclipaa

/- A tree's links, and what it answers in all. -/
namespace Go.Proofs.Ythalpnpnbclipaa
open Go.RowKit

attribute [local go_sem] Oper.semAt_some

theorem infoId : (Try.prog.info? 32).map (fun i => (i.zero, i.size, i.bytes)) = some (some (.int .u64 0), 1, 8) := by kernel_rfl
theorem infoEntry : (Try.prog.info? 114).map (fun i => (i.zero, i.size, i.bytes)) = some (some (.agg #[.string ⟨#[]⟩, .bool false, .int .u64 0]), 3, 32) := by kernel_rfl
def idsOf (l : List Ent) : List Int := l.map fun x => x.2.2
theorem cells_one (W : World) (t : TypeId) (a : Value) : ∀ (j : Nat) u, [a][j]? = some u → (W.alloc (.cells #[a] t)).cell? (Addr.add ⟨W.heap.size, 0, none⟩ j) = some u := by
  intro j u hj
  match j, hj with
  | 0, hj => simp at hj; subst hj; simp [Addr.add]
theorem idsOf_take (l : List Ent) (k : Nat) (x : Ent) (h : l[k]? = some x) : idsOf (l.take (k + 1)) = idsOf (l.take k) ++ [x.2.2] := by
  unfold idsOf
  rw [List.take_add_one, h]
  simp

end Go.Proofs.Ythalpnpnbclipaa

/- The document's bytes of a tree. -/
namespace Go.Proofs.Ythalpnpnbclipaa
open Go.RowKit

attribute [local go_sem] Oper.semAt_some

/-- bytes put together in a row of the call's own -/
structure RO (w : World) (l : List UInt8) (v : Value) (W : World) : Prop where
  own : OwnB w.heap.size l v W
  bel : Below w.heap.size w W
def Keeps' (W W' : World) : Prop := ∀ (K : Nat) (cs : Array Value) (t : TypeId), W.heap[K]? = some (.cells cs t (0, 0)) → t ≠ 5 → W'.heap[K]? = some (.cells cs t (0, 0))
theorem RO.below {w W W' : World} {l : List UInt8} {v : Value} (h : RO w l v W) (hb : Below W.heap.size W W') : RO w l v W' :=
  ⟨⟨h.own.row.kept (row := none) ⟨hb.os, hb.tape, hb.output, hb.size, fun k hk _ => hb.block k hk⟩ (by cases v.ownBlock <;> simp)⟩, h.bel.trans (hb.mono h.bel.size)⟩
theorem RO.alloc {w W : World} {l : List UInt8} {v : Value} (h : RO w l v W) (o : Obj) : RO w l v (W.alloc o) := h.below ((Below.refl _ _).alloc (Nat.le_refl _) _)
theorem wpList_ro (w W : World) {ops : Array Oper} {rest : List Oper} {o : Oper} {a : Act} {Q : Exit → Act → World → Prop} (hgd : o.guard = none) (s x : Operand)
    (ho : o.op = .call { callee := .builtin .append, args := #[s, x], argTypes := #[30, 30] })
    (v : Value) (l : List UInt8) (hs : a.eval s = v) (h : RO w l v W) (ad : Option Addr) (m c : Nat) (k : List UInt8) (hx : a.eval x = .slice ad m c) (hb : Bytes W ad m k) (hnil : ad = none → m = 0 ∧ c = 0) (hm : l.length + m ≤ 140737488355328)
    (hc : ∀ v' W', RO w (l ++ k) v' W' → Keeps' W W' → wpList Try.prog ops Q rest (a.put o.dst v') W') : wpList Try.prog ops Q (o :: rest) a W := by
  refine wpList_app W w.heap.size h.bel.size hgd s x ho v l.length _ hs h.own.row ad m c k hx hb hnil hm fun v' W' h2 h3 _ => hc v' W' ⟨⟨?_⟩, h.bel.trans (below_gr h.own.row h.bel.size h3)⟩ fun K cs t hK ht => ?_
  · rw [List.length_append, hb.1, cellsOf_append]
    exact h2
  · refine (h3.block K (Array.getElem?_eq_some_iff.1 hK).1 (fun e => ?_)).trans hK
    obtain ⟨_, _, cur, hcur⟩ := row_block h.own.row K e.symm
    rw [hK] at hcur
    cases hcur
    exact ht rfl
theorem Keeps'.box3 {W W' : World} {g : Nat} {u0 u1 u2 : Value} (h : Keeps' W W') (hb : Box3 W g u0 u1 u2) : Box3 W' g u0 u1 u2 := h g _ _ hb (by decide)

end Go.Proofs.Ythalpnpnbclipaa

/- Entries in rows of one's own; a tree's copy. -/
namespace Go.Proofs.Ythalpnpnbclipaa
open Go.RowKit

attribute [local go_sem] Oper.semAt_some

def entCells : List Ent → List Value
  | [] => []
  | x :: r => .string x.1 :: .bool x.2.1 :: .int .u64 x.2.2 :: entCells r
theorem entCells_len : ∀ l : List Ent, (entCells l).length = l.length * 3
  | [] => rfl
  | x :: r => by simp only [entCells, List.length_cons, entCells_len r]; omega
theorem entCells_one : ∀ (l : List Ent), ∀ u ∈ entCells l, u.oneCell' = true
  | [], u, h => by cases h
  | x :: r, u, h => by
    simp only [entCells, List.mem_cons] at h
    rcases h with rfl | rfl | rfl | h
    · rfl
    · rfl
    · rfl
    · exact entCells_one r u h
theorem entCells_append : ∀ (l m : List Ent), entCells (l ++ m) = entCells l ++ entCells m
  | [], m => rfl
  | x :: r, m => by simp [entCells, entCells_append r m]
theorem entCells_get : ∀ (l : List Ent) (j : Nat) (x : Ent), l[j]? = some x → (entCells l)[j * 3]? = some (.string x.1) ∧ (entCells l)[j * 3 + 1]? = some (.bool x.2.1) ∧ (entCells l)[j * 3 + 2]? = some (.int .u64 x.2.2)
  | [], j, x, h => by simp at h
  | y :: r, 0, x, h => by
    simp at h; subst h
    exact ⟨rfl, rfl, rfl⟩
  | y :: r, j + 1, x, h => by
    have ih := entCells_get r j x (by simpa using h)
    rw [show (j + 1) * 3 = j * 3 + 3 by omega]
    exact ih
theorem ents_news {w : World} {b : Nat} : ∀ (l : List Ent) (off : Nat), (∀ (j : Nat) x, l[j]? = some x → w.cell? ⟨b, off + j * 3, none⟩ = some (.string x.1) ∧ w.cell? ⟨b, off + j * 3 + 1, none⟩ = some (.bool x.2.1) ∧ w.cell? ⟨b, off + j * 3 + 2, none⟩ = some (.int .u64 x.2.2)) →
    ∀ (j : Nat) u, (entCells l)[j]? = some u → w.cell? ⟨b, off + j, none⟩ = some u
  | [], _, _, j, u, h => by simp [entCells] at h
  | x :: r, off, hc, 0, u, h => by
    simp [entCells] at h; subst h
    have := (hc 0 x rfl).1
    simpa using this
  | x :: r, off, hc, 1, u, h => by
    simp [entCells] at h; subst h
    have := (hc 0 x rfl).2.1
    simpa using this
  | x :: r, off, hc, 2, u, h => by
    simp [entCells] at h; subst h
    have := (hc 0 x rfl).2.2
    simpa using this
  | x :: r, off, hc, j + 3, u, h => by
    have := ents_news (w := w) (b := b) r (off + 3) (fun i y hy => by
      have := hc (i + 1) y (by simpa using hy)
      rw [show off + (i + 1) * 3 = off + 3 + i * 3 by omega] at this
      exact this) j u (by simpa [entCells] using h)
    rw [show off + (j + 3) = off + 3 + j by omega]
    exact this
theorem row_shape3 {w : World} {B n : Nat} {v : Value} {xs : List Value} (h : w.ownsRow B 114 3 v n xs) : ∃ ad c, v = .slice ad n c ∧ n ≤ c ∧ (ad = none → n = 0 ∧ c = 0) := by
  rcases h.2 with ⟨rfl, rfl⟩ | ⟨g, cap, cur, rfl, _, _, hc, _⟩
  · exact ⟨none, 0, rfl, Nat.le_refl _, fun _ => ⟨rfl, rfl⟩⟩
  · exact ⟨_, _, rfl, hc, fun h => by cases h⟩
theorem own_ents {w : World} {B n c : Nat} {ad : Option Addr} {l : List Ent} (h : w.ownsRow B 114 3 (.slice ad n c) n (entCells l)) (hl : l.length = n) : Ents w ad n l := by
  refine ⟨hl, fun h0 => ?_⟩
  rcases h.2 with ⟨e, h'⟩ | ⟨g, cap, cur, e, _⟩
  · omega
  · cases e
    refine ⟨g, 0, rfl, fun j x hx => ?_⟩
    obtain ⟨h1, h2, h3⟩ := entCells_get l j x hx
    have c1 := h.cells (g := g) rfl _ _ h1
    have c2 := h.cells (g := g) rfl _ _ h2
    have c3 := h.cells (g := g) rfl _ _ h3
    rw [Addr.add_lit] at c1 c2 c3
    simp only [Nat.zero_add] at c1 c2 c3 ⊢
    exact ⟨c1, c2, c3⟩
theorem row_block3 {W : World} {base n : Nat} {v : Value} {xs : List Value} (h : W.ownsRow base 114 3 v n xs) : ∀ r, v.ownBlock = some r → base ≤ r ∧ r < W.heap.size ∧ ∃ cur, W.heap[r]? = some (.cells cur 114 (0, 0)) := by
  intro r hr
  rcases h.2 with ⟨rfl, _⟩ | ⟨g, cap, cur, rfl, hb, hg, _⟩
  · cases hr
  · cases hr
    exact ⟨hb, (Array.getElem?_eq_some_iff.1 hg).1, cur, hg⟩
theorem below_gr3 {W W' : World} {B n : Nat} {v : Value} {xs : List Value} (h : W.ownsRow B 114 3 v n xs) (hB : B ≤ W.heap.size) (hg : W.grownBy W' v.ownBlock) : Below B W W' :=
  ⟨hg.os, hg.tape, hg.output, hg.size, fun k hk => hg.block k (by omega) (fun e => by have := (row_block3 h k e.symm).1; omega)⟩

/-- entries appended to a row of one's own -/
theorem wpList_app3 (w : World) (B : Nat) (hB : B ≤ w.heap.size) {ops : Array Oper} {rest : List Oper} {o : Oper} {a : Act} {Q : Exit → Act → World → Prop} (hgd : o.guard = none) (s x : Operand)
    (ho : o.op = .call { callee := .builtin .append, args := #[s, x], argTypes := #[53, 53] })
    (v : Value) (n : Nat) (k : List Ent) (hs : a.eval s = v) (hown : w.ownsRow B 114 3 v n (entCells k)) (ad : Option Addr) (m c : Nat) (l : List Ent) (hx : a.eval x = .slice ad m c) (hb : Ents w ad m l) (hnil : ad = none → m = 0 ∧ c = 0) (hm : n + m ≤ 1099511627776)
    (h : ∀ v' w', w'.ownsRow B 114 3 v' (n + m) (entCells (k ++ l)) → w.grownBy w' v.ownBlock → wpList Try.prog ops Q rest (a.put o.dst v') w') : wpList Try.prog ops Q (o :: rest) a w := by
  obtain ⟨i0, hi, hz0, hz1, hz2⟩ := info_parts infoEntry
  cases ad with
  | none =>
    obtain ⟨rfl, rfl⟩ := hnil rfl
    have hl : l = [] := List.eq_nil_of_length_eq_zero hb.1
    subst hl
    refine wpList_plain hgd fun K hK => ?_
    have hr := run_append_owned_none (P := Try.prog) (w := w) B 53 o.type 114 i0 3 Try.underlying53 hi v n _ hown
    unfold Oper.wp execOp
    simp only [ho, resolve, invoke, builtin, Sem.run_bind, Sem.run_pure, Result.andThen_ok, List.map_toArray, List.map_cons, List.map_nil, hs, hx, hr]
    exact hK _ _ (h v w (by rw [List.append_nil]; exact hown) ⟨rfl, rfl, rfl, Nat.le_refl _, fun _ _ _ => rfl⟩)
  | some q =>
    refine wpList_append_own w hgd s x 53 ho B 114 i0 _ 3 32 Try.underlying53 hi hz0 hz1 hz2 rfl (by decide) v n _ hs hown q m c (entCells l) hx (by rw [entCells_len, hb.1]) ?_ (entCells_one l) (by unfold maxLen; omega) (by omega) hB fun v' w' h1 h2 _ => h v' w' (by rw [entCells_append]; exact h1) h2
    intro j u hj
    have hl := hb.1
    by_cases hm0 : 0 < m
    · obtain ⟨b, off, e, hc⟩ := hb.2 hm0
      cases e
      rw [Addr.add_lit]
      exact ents_news l off hc j u hj
    · have : l = [] := List.eq_nil_of_length_eq_zero (by omega)
      subst this
      simp [entCells] at hj

set_option maxHeartbeats 1000000 in
theorem clone_ents (a : Option Addr) (n c : Nat) (l : List Ent) (w : World) (hb : Ents w a n l) (hnil : a = none → n = 0 ∧ c = 0) (hbig : n ≤ 1099511627776) :
    Calls Try.prog 59 #[.slice a n c] w fun e w' => ∃ v, e = .returned v ∧ w'.ownsRow w.heap.size 114 3 v n (entCells l) ∧ Below w.heap.size w w' := by
  have q22 : ∀ (w : World) (a : Option Addr) (n c n' c' : Nat), (binOp .eql 53 (.slice a n c) (.slice none n' c')).run Try.prog w = .ok (.bool a.isNone) w := fun w a n c n' c' => Lib.run_eql_slice_nil w _ _ a n c n' c' Try.underlying53
  cases a with
  | none =>
    obtain ⟨rfl, rfl⟩ := hnil rfl
    have hl : l = [] := List.eq_nil_of_length_eq_zero hb.1
    subst hl
    go_enter Try.func59, Try.ntmps59
    go_wp2
    go_ret
    exact ⟨_, rfl, World.ownsRow_nil _ _ _ _, Below.refl _ _⟩
  | some a =>
    have hB0 : Below w.heap.size w (w.alloc (.cells #[] 114)) := (Below.refl _ _).alloc (Nat.le_refl _) _
    have hb0 : Ents (w.alloc (.cells #[] 114)) (some a) n l := hb.below hB0
    have hr0 : (w.alloc (.cells #[] 114)).ownsRow w.heap.size 114 3 (.slice (some ⟨w.heap.size, 0, none⟩) 0 0) 0 (entCells []) := World.ownsRow_made w #[] 0 (Nat.le_refl _) (by unfold maxLen; omega) rfl
    go_enter Try.func59, Try.ntmps59
    go_wp2_with (at_builtin; refine wpList_app3 _ w.heap.size (by simp) rfl _ _ rfl (.slice (some ⟨w.heap.size, 0, none⟩) 0 0) 0 [] rfl hr0 (some a) n c l rfl hb0 hnil (by omega) ?_; intro v' w1 hown hgrow; obtain ⟨a', c', rfl, hnc, hnn⟩ := row_shape3 hown)
    go_ret
    simp only [Nat.zero_add, List.nil_append] at *
    refine ⟨_, rfl, hown, hB0.grown hgrow (by simp) (by intro k hk; cases hk; exact Nat.le_refl _)⟩
theorem row_lower3 {w : World} {B B' n : Nat} {v : Value} {xs : List Value} (h : w.ownsRow B 114 3 v n xs) (hB : B' ≤ B) : w.ownsRow B' 114 3 v n xs := by
  refine ⟨h.1, ?_⟩
  rcases h.2 with h0 | ⟨g, cap, cur, h1, h2, h3⟩
  · exact .inl h0
  · exact .inr ⟨g, cap, cur, h1, by omega, h3⟩
theorem fresh_tree (a : Option Addr) (n c : Nat) (l : List Ent) (w : World) (hb : Ents w a n l) (hnil : a = none → n = 0 ∧ c = 0) (hn : n ≤ 1099511627776) :
    Calls Try.prog 39 #[trV a n c] w fun e w' => ∃ ad cp, e = .returned (trV ad n cp) ∧ w'.ownsRow w.heap.size 114 3 (.slice ad n cp) n (entCells l) ∧ Below w.heap.size w w' := by
  have h0 := no_blob_tree (.agg #[.slice a n c])
  have h1 := as_tree (.agg #[.slice a n c])
  have hB0 : Below w.heap.size w (w.alloc (.cells #[.slice a n c] 55)) := (Below.refl _ w).alloc (Nat.le_refl _) _
  have hcl : Calls Try.prog 59 #[.slice a n c] (w.alloc (.cells #[.slice a n c] 55)) fun e w' => ∃ ad cp, e = .returned (.slice ad n cp) ∧ Hid (w'.ownsRow (w.heap.size + 1) 114 3 (.slice ad n cp) n (entCells l) ∧ Below (w.heap.size + 1) (w.alloc (.cells #[.slice a n c] 55)) w') ∧ Boxed w' w.heap.size 55 (.slice a n c) := by
    refine (clone_ents a n c l _ (hb.below hB0) hnil (by omega)).mono fun e w' ⟨v, he, ho, hB⟩ => ?_
    have hbx : Boxed w' w.heap.size 55 (.slice a n c) := (hB.block w.heap.size (by simp)).trans (World.alloc_heap_new _ _)
    rw [World.size_alloc] at ho hB
    obtain ⟨ad, cp, rfl, _⟩ := row_shape3 ho
    exact ⟨ad, cp, he, ⟨ho, hB⟩, hbx⟩
  go_enter Try.func39, Try.ntmps39
  go_wp2_with (go_at_call 59; refine hcl.mono ?_; clear hcl; rintro e w1 ⟨ad, cp, rfl, HO, hbx⟩; have cb := hbx.cell; have fb := hbx.frozen; have c2 := (hbx.set (.slice ad n cp)).cell)
  go_ret
  obtain ⟨ho, hB⟩ := HO.out
  refine ⟨ad, cp, rfl, ?_, (hB0.trans (hB.mono (by omega))).setCell (p := ⟨w.heap.size, 0, none⟩) (Nat.le_refl _) _⟩
  refine row_lower3 (ho.kept (row := some w.heap.size) (grownBy_setCell' w1 w.heap.size _) ?_) (by omega)
  exact .inr fun e => by have := (row_block3 ho w.heap.size e).1; omega
theorem Copy_tree (a : Option Addr) (n c : Nat) (l : List Ent) (w : World) (hb : Ents w a n l) (hnil : a = none → n = 0 ∧ c = 0) (hn : n ≤ 1099511627776) :
    Calls Try.prog 24 #[trV a n c] w fun e w' => ∃ ad cp, e = .returned (trV ad n cp) ∧ w'.ownsRow w.heap.size 114 3 (.slice ad n cp) n (entCells l) ∧ Below w.heap.size w w' := by
  go_enter Try.func24, Try.ntmps24
  go_wp2_with (go_at_call 39; refine (fresh_tree a n c l _ hb hnil hn).mono ?_; rintro e w1 ⟨ad, cp, rfl, hO, hB⟩)
  go_ret
  exact ⟨ad, cp, rfl, hO, hB⟩
end Go.Proofs.Ythalpnpnbclipaa
