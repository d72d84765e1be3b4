import Derived.Test.YtiafhbpklddlnaaGreatDoorD38
import Derived.Test.YtiafhbpklddlnaaGreatDoorD35
/- The program's Under, on refs that are there. -/
namespace Go.Proofs.YtiafhbpklddlnaaGreatDoor
open Go.RowKit Go.Shelf Go.Maps

attribute [local go_sem] Oper.semAt_some

/-- the refs that lie within a path -/
def underR (p : ByteArray) (L : List Ch) : List Ch := L.filter fun x => inP (bs x.1) (bs p)
/-- the list that is under way, in box c + 1, and the path, in box c -/
def UI (c : Nat) (p : ByteArray) (pre : List Ch) (f : Nat → Prop) (W : World) : Prop := Boxed W c 9 (.string p) ∧ ∃ f1, LstI (c + 1) (underR p pre) f1 W ∧ ∀ k, f k ↔ (k = c ∨ f1 k)
theorem ui_apart (c : Nat) (p : ByteArray) : Apart (UI c p) := by
  refine ⟨fun s f X Y ⟨h0, f1, h1, h2⟩ ht => ⟨(ht.block c h0.lt (fun h => h ((h2 c).2 (.inl rfl)))).trans h0, f1, (lstI_apart (c + 1)).1 _ f1 X Y h1 ⟨ht.os, ht.tape, ht.output, ht.size, fun k hk hn => ht.block k hk (fun h => hn (fun h' => h ((h2 k).2 (.inr h'))))⟩, h2⟩, fun s f X ⟨h0, f1, h1, h2⟩ k hk => ?_⟩
  rcases (h2 k).1 hk with rfl | e
  · exact h0.lt
  · exact (lstI_apart (c + 1)).2 _ f1 X h1 k e

set_option maxRecDepth 100000 in
set_option maxHeartbeats 4000000 in
theorem under_any (w : World) (r d j b : Nat) (M : DataW Value) (rs : List (List UInt8)) (g : List UInt8 → Int) (n sz : Nat) (cut : Bool) (FJ F : Nat → Prop) (h : RfAt w r d j b M rs g n sz cut FJ F) (hn : n ≤ 1000000) (L : List Ch) (hL : AllR g n L) (hs : ∀ x ∈ L, x.1.size ≤ 1000) (p : ByteArray) (hp : p.size ≤ 1000) :
    Calls Tryz.prog 68 #[.pointer (some ⟨r, 0, none⟩), .string p] w fun e w' => ∃ ad cp, e = .returned (.slice ad (underR p L).length cp) ∧ w'.ownsRow w.heap.size 38 2 (.slice ad (underR p L).length cp) (underR p L).length (chCells (underR p L)) ∧ Below w.heap.size w w' := by
  refine (callsIn_wide (n := 5)).1 ?_
  refine callsIn_of_wp_marks Tryz.func68 rfl trivial ?_ rfl
  simp only [Tryz.ntmps68, List.size_toArray, List.length_cons, List.length_nil, Nat.reduceAdd, Nat.reduceSub, Array.replicate_succ, Array.replicate_zero, List.push_toArray, List.append_toArray, List.nil_append, List.cons_append]
  have hmx : Tryz.prog.follows .mixedOrders = true := by kernel_rfl
  refine wpIn_wide.2 ?_
  go_wp2_with (go_at_call 39; refine (all_any _ _).mono ?_; rintro e w8 ⟨rfl, h8⟩; subst h8)
  obtain ⟨wz, hwz⟩ : ∃ wz, wz = ((w.alloc (.cells #[.string p] 9)).alloc (.cells #[.slice none 0 0] 30)).alloc (.cells #[.pointer (some ⟨r, 0, none⟩)] 26) := ⟨_, rfl⟩
  have hzs : wz.heap.size = w.heap.size + 3 := by rw [hwz]; simp
  have bP : Boxed wz w.heap.size 9 (.string p) := by
    have := ((Boxed.new w 9 (.string p)).alloc (.cells #[.slice none 0 0] 30)).alloc (.cells #[.pointer (some ⟨r, 0, none⟩)] 26)
    rw [hwz]; exact this
  have bU : Boxed wz (w.heap.size + 1) 30 (.slice none 0 0) := by
    have := (Boxed.new (w.alloc (.cells #[.string p] 9)) 30 (.slice none 0 0)).alloc (.cells #[.pointer (some ⟨r, 0, none⟩)] 26)
    rw [World.size_alloc] at this
    rw [hwz]; exact this
  have bB : Boxed wz (w.heap.size + 2) 26 (.pointer (some ⟨r, 0, none⟩)) := by
    have := Boxed.new ((w.alloc (.cells #[.string p] 9)).alloc (.cells #[.slice none 0 0] 30)) 26 (.pointer (some ⟨r, 0, none⟩))
    rw [World.size_alloc, World.size_alloc] at this
    rw [hwz]; exact this
  have Bz : Below w.heap.size w wz := by rw [hwz]; exact (((Below.refl _ w).alloc (Nat.le_refl _) _).alloc (by simp) _).alloc (by simp only [World.size_alloc]; omega) _
  rw [← hwz]
  clear hwz
  have hll := hL.len
  obtain ⟨i0, hi, hz0, hz1, hz2⟩ := info_parts infoRef
  refine (wpIn_wide (n := 5)).1 ?_
  refine range_owns (α := Ch) (w := wz) rfl (by omega) (gf := 63) (lb := #[.pointer (some ⟨w.heap.size + 2, 0, none⟩)]) rfl trivial (enters_of Tryz.func63 (by kernel_rfl) rfl)
    (all_tells wz r d j b M rs g n sz cut FJ F (h.below Bz) (w.heap.size + 2) bB.cell hn L hL 4 (by omega)) (fun _ => rfl) (fun k hk => hk.elim)
    (UI w.heap.size p) (fun _ _ _ _ => False) (ui_apart _ _) (fun _ => ⟨fun _ _ _ _ h _ => h, fun _ _ _ h => h.elim⟩) (fun _ _ _ _ _ h _ => h) (fun k => k = w.heap.size ∨ k = w.heap.size + 1) (fun _ _ h => h) ⟨bP, fun k => k = w.heap.size + 1, ⟨_, bU, World.ownsRow_nil _ _ _ _, fun k => by simp [Value.ownBlock]⟩, fun k => Iff.rfl⟩ ?act ?assign ?body ?done ?stop
  case assign =>
    intro l x W K hK
    gi_wp2
    exact hK
  case body =>
    rintro l pre x f W hW ⟨hbp, f1, ⟨v, hbx, hrow, hf1⟩, hf⟩ hpx
    have hpl : pre.length < L.length := (List.getElem?_eq_some_iff.1 hpx).1
    have hul : (underR p pre).length ≤ pre.length := List.length_filter_le _ _
    have hxs := hs x (List.mem_of_getElem? hpx)
    have cP := hbp.cell
    have H : Hid (Boxed W w.heap.size 9 (.string p) ∧ Boxed W (w.heap.size + 1) 30 v ∧ W.ownsRow (w.heap.size + 2) 38 2 v (underR p pre).length (chCells (underR p pre)) ∧ (∀ k, f1 k ↔ (k = w.heap.size + 1 ∨ v.ownBlock = some k)) ∧ ∀ k, f k ↔ (k = w.heap.size ∨ f1 k)) := ⟨hbp, hbx, hrow, hf1, hf⟩
    clear hf hf1 bU bB bP Bz hpx hL hbp hbx hrow hs
    have hin := fun W => In_any x.1 p W (by omega) (by omega)
    have HU : Hid (underR p (pre ++ [x]) = underR p pre ++ (if inP (bs x.1) (bs p) = true then [x] else [])) := by
      show _ = _
      unfold underR
      rw [List.filter_append]
      congr 1
      by_cases e : inP (bs x.1) (bs p) = true <;> simp [e]
    obtain ⟨nm, iv⟩ := x
    simp only at hin hxs HU
    have hcs : w.heap.size + 2 ≤ W.heap.size := by omega
    cases hb : inP (bs nm) (bs p) with
    | false =>
      rw [hb] at hin HU
      simp only [Bool.false_eq_true, if_false, List.append_nil] at HU
      gi_wp2_with (refine ⟨trivial, ?_⟩; gi_at_call 67; refine (callsIn_wide.2 (hin W)).mono ?_; clear hin; rintro e W1 ⟨rfl, hB1⟩; have HB1 : Hid (Below W.heap.size W W1) := hB1; clear hB1)
      obtain ⟨h1, h2, h3, h4, h5⟩ := H.out
      refine ⟨f, fun k hk => .inl hk, Turn.of_below f HB1.out, (HB1.out.block _ h1.lt).trans h1, f1, ⟨v, (HB1.out.block _ h2.lt).trans h2, ?_, h4⟩, h5⟩
      rw [HU.out]
      exact row_movedC h3 (fun g hg => HB1.out.block g (row_blockC h3 g hg).2)
    | true =>
      rw [hb] at hin HU
      simp only [if_true] at HU
      gi_wp2_with first
        | (refine ⟨trivial, ?_⟩; gi_at_call 67; refine (callsIn_wide.2 (hin W)).mono ?_; clear hin; rintro e W1 ⟨rfl, hB1⟩; have bx1 : Boxed W1 (w.heap.size + 1) 30 v := (hB1.block _ H.out.2.1.lt).trans H.out.2.1; have cC1 := bx1.cell; have hrow1 : W1.ownsRow (w.heap.size + 2) 38 2 v (underR p pre).length (chCells (underR p pre)) := row_movedC H.out.2.2.1 (fun g hg => hB1.block g (row_blockC H.out.2.2.1 g hg).2); have hcs1 : w.heap.size + 2 ≤ W1.heap.size := Nat.le_trans hcs hB1.size; have HB1 : Hid (Below W.heap.size W W1 ∧ Boxed W1 (w.heap.size + 1) 30 v ∧ W1.ownsRow (w.heap.size + 2) 38 2 v (underR p pre).length (chCells (underR p pre))) := ⟨hB1, bx1, hrow1⟩; clear hB1 bx1)
        | (gi_at_builtin; refine wpListIn_append_own_at _ rfl _ _ 30 rfl (w.heap.size + 2) 38 i0 _ 2 24 Tryz.underlying30 hi hz0 hz1 hz2 rfl (by decide) _ _ _ rfl (hrow1.alloc _) ⟨W1.heap.size, 0, none⟩ 1 1 (chCells [(nm, iv)]) rfl rfl (cells_two_new W1 (nm, iv)) (chCells_one _) (by unfold maxLen; omega) (by omega) (by simp; omega) ?_; intro v' w1 hown' hgrow _ hat; obtain ⟨ad', cp', rfl, _⟩ := row_shapeC hown'; have hst := lst_push (c := w.heap.size + 1) (x := (nm, iv)) HB1.out.2.1 HB1.out.2.2 H.out.2.2.2.1 hown' hgrow hat; have bx := lst_box (c := w.heap.size + 1) HB1.out.2.1 HB1.out.2.2 hgrow; have cx := bx.cell; have fx := bx.frozen; have HST : Hid _ := hst; clear hst hown' hgrow hat)
      obtain ⟨f', hf', hT', hL'⟩ := HST.out
      obtain ⟨h1, h2, h3, h4, h5⟩ := H.out
      have hs1 := HB1.out.1.size
      refine ⟨fun k => k = w.heap.size ∨ f' k, fun k hk => ?_, (Turn.of_below f HB1.out.1).trans hT' (fun k _ e => (h5 k).2 (.inr e)), ?_, f', by rw [HU.out]; exact hL', fun _ => Iff.rfl⟩
      · rcases hk with e | e
        · exact .inl ((h5 k).2 (.inl e))
        · rcases hf' k e with e | e
          · exact .inl ((h5 k).2 (.inr e))
          · exact .inr (by omega)
      · have h6 : Boxed W1 w.heap.size 9 (.string p) := (HB1.out.1.block _ h1.lt).trans h1
        refine (hT'.block _ h6.lt (fun e => ?_)).trans h6
        rcases (h4 _).1 e with e | e
        · omega
        · have := (row_blockC h3 _ e).1
          omega
  case done =>
    rintro D xs f W hD rfl ⟨hbp, f1, ⟨v, hbx, hrow, hf1⟩, hf⟩ hff hnD hT hK
    have cC := hbx.cell
    obtain ⟨ad, cp, rfl, _⟩ := row_shapeC hrow
    have H : Hid (W.heap[D]? = some (.deferred (some [])) ∧ wz.heap.size ≤ D ∧ W.ownsRow (w.heap.size + 2) 38 2 (.slice ad (underR p xs).length cp) (underR p xs).length (chCells (underR p xs)) ∧ Below w.heap.size w W) := ⟨hK, hD, hrow, Bz.trans (hT.below (by omega) (fun k hk => by omega))⟩
    clear hbx hrow hf hff hnD hT hK hD bU bB Bz hll hL hbp hf1 bP hs
    gi_wp2
    go_wp2_with fail
    obtain ⟨hK, hD, hrow, hb⟩ := H.out
    have hE := rturn_put (.deferred none) (Turn.of_below (fun _ => False) hb) (D := D) (by omega)
    refine rfin_m (v := .slice ad (underR p xs).length cp) hK (by simp [results, Tryz.results68, go_sem]) ⟨ad, cp, rfl, ?_, hE.below (Nat.le_refl _) (fun _ h => h.elim)⟩
    refine row_movedC (row_baseC hrow (by omega)) (fun g e => World.putObj_heap_other (fun e' => ?_))
    subst e'
    rcases hrow.2 with ⟨e1, _⟩ | ⟨g', cap, cur, e1, _, hg', _⟩
    · obtain rfl : ad = none := (Value.slice.inj e1).1
      cases e
    · cases e1; cases e; rw [hK] at hg'; cases hg'
  case stop =>
    rintro D c pre f W hD hX
    exact hX.elim
end Go.Proofs.YtiafhbpklddlnaaGreatDoor

/- Plain: the document's refs, a list of names rising: a change, and what it makes of the list. -/
namespace Go.Proofs.YtiafhbpklddlnaaGreatDoor
open Go.RowKit Go.Shelf Go.Maps

/-- names rise -/
def RiseR (L : List Ch) : Prop := L.Pairwise (fun x y => bs x.1 < bs y.1)
/-- the list has just the names that lead somewhere -/
def MemR (g : List UInt8 → Int) (L : List Ch) : Prop := ∀ x : Ch, x ∈ L ↔ (g (bs x.1) = x.2 ∧ x.2 ≠ 0)
theorem arr_bs (s : ByteArray) : (⟨(bs s).toArray⟩ : ByteArray) = s := by
  cases s; simp [bs]
theorem lt_of_le_ne {a b : List UInt8} (h : a ≤ b) (hn : a ≠ b) : a < b := by
  rcases List.le_iff_lt_or_eq.1 h with h | h
  · exact h
  · exact absurd h hn
theorem AllR.rise {g : List UInt8 → Int} {n : Nat} {L : List Ch} (h : AllR g n L) : RiseR L := by
  obtain ⟨ks, hn, hm, _, rfl⟩ := h
  unfold RiseR
  rw [List.pairwise_map]
  have h1 : (ks.mergeSort leB).Pairwise (fun a b => leB a b = true) := List.pairwise_mergeSort (fun a b c h1 h2 => by
    simp only [leB, decide_eq_true_eq] at h1 h2 ⊢
    exact List.le_trans h1 h2) (fun a b => by
    simp only [leB, Bool.or_eq_true, decide_eq_true_eq]
    exact List.le_total a b) ks
  have h2 : (ks.mergeSort leB).Nodup := (List.mergeSort_perm ks leB).nodup_iff.2 hn
  refine (h1.and h2).imp fun {a b} hab => ?_
  simp only [bs_arr]
  exact lt_of_le_ne (by simpa [leB] using hab.1) hab.2
theorem AllR.memr {g : List UInt8 → Int} {n : Nat} {L : List Ch} (h : AllR g n L) : MemR g L := by
  intro x
  refine ⟨fun hx => h.mem hx, fun hx => ?_⟩
  obtain ⟨ks, hn, hm, _, rfl⟩ := h
  refine List.mem_map.2 ⟨bs x.1, (List.mergeSort_perm ks leB).mem_iff.2 ((hm _).2 (by rw [hx.1]; exact hx.2)), ?_⟩
  rw [arr_bs, hx.1]
theorem allR_of {g : List UInt8 → Int} {L : List Ch} (hr : RiseR L) (hm : MemR g L) : AllR g L.length L := by
  have hs : (L.map fun x => bs x.1).Pairwise (fun a b => a < b) := List.pairwise_map.2 hr
  have hnd : (L.map fun x => bs x.1).Nodup := hs.imp fun {a b} h e => by subst e; exact List.lt_irrefl a h
  refine ⟨L.map fun x => bs x.1, hnd, fun k => ?_, by simp, ?_⟩
  · rw [List.mem_map]
    constructor
    · rintro ⟨x, hx, rfl⟩
      have := (hm x).1 hx
      rw [this.1]; exact this.2
    · intro hk
      exact ⟨(⟨k.toArray⟩, g k), (hm _).2 ⟨by rw [bs_arr], hk⟩, bs_arr k⟩
  · have h1 : (L.map fun x => bs x.1).mergeSort leB = L.map fun x => bs x.1 := List.mergeSort_of_pairwise (hs.imp fun {a b} h => by simpa [leB] using List.le_of_lt h)
    rw [h1, List.map_map]
    symm
    refine (List.map_congr_left fun x hx => ?_).trans (List.map_id L)
    simp only [Function.comp, id]
    rw [arr_bs, ((hm x).1 hx).1]

/-- the list with a change, as the document makes it -/
def withFrom (c : Ch) : Bool → List Ch → List Ch
  | laid, [] => if laid then [] else [c]
  | laid, x :: r => (if laid = false ∧ bs c.1 < bs x.1 then [c] else []) ++ ((if bs x.1 = bs c.1 then [] else [x]) ++ withFrom c (laid || decide (bs c.1 < bs x.1)) r)
def withR (L : List Ch) (c : Ch) : List Ch := withFrom c (c.2 == 0) L
theorem withFrom_true (c : Ch) : ∀ L : List Ch, withFrom c true L = L.filter (fun x => decide (bs x.1 ≠ bs c.1))
  | [] => rfl
  | x :: r => by
    unfold withFrom
    simp only [Bool.true_eq_false, false_and, if_false, List.nil_append, Bool.true_or, withFrom_true c r, List.filter_cons]
    by_cases e : bs x.1 = bs c.1 <;> simp [e]
theorem withFrom_false (c : Ch) : ∀ L : List Ch, RiseR L → RiseR (withFrom c false L) ∧ ∀ x, x ∈ withFrom c false L ↔ (x = c ∨ (x ∈ L ∧ bs x.1 ≠ bs c.1))
  | [], _ => by simp [withFrom, RiseR]
  | y :: r, h => by
    obtain ⟨hy, hr⟩ := List.pairwise_cons.1 h
    obtain ⟨i1, i2⟩ := withFrom_false c r hr
    unfold withFrom
    by_cases hlt : bs c.1 < bs y.1
    · have hne : bs y.1 ≠ bs c.1 := fun e => by rw [e] at hlt; exact List.lt_irrefl _ hlt
      simp only [hlt, and_self, if_true, if_neg hne, decide_true, Bool.false_or, withFrom_true]
      have hrc : ∀ x ∈ r, bs x.1 ≠ bs c.1 := fun x hx e => by
        have := List.lt_trans hlt (hy x hx)
        rw [e] at this
        exact List.lt_irrefl _ this
      have hf : r.filter (fun x => decide (bs x.1 ≠ bs c.1)) = r := List.filter_eq_self.2 fun x hx => by simpa using hrc x hx
      rw [hf]
      constructor
      · refine List.pairwise_cons.2 ⟨fun x hx => ?_, h⟩
        rcases List.mem_cons.1 hx with rfl | hx
        · exact hlt
        · exact List.lt_trans hlt (hy x hx)
      · intro x
        simp only [List.cons_append, List.nil_append, List.mem_cons]
        constructor
        · rintro (e | e | e)
          · exact .inl e
          · exact .inr ⟨.inl e, by rw [e]; exact hne⟩
          · exact .inr ⟨.inr e, hrc x e⟩
        · rintro (e | ⟨e | e, _⟩)
          · exact .inl e
          · exact .inr (.inl e)
          · exact .inr (.inr e)
    · simp only [hlt, and_false, if_false, List.nil_append, decide_false, Bool.false_or]
      by_cases e : bs y.1 = bs c.1
      · rw [if_pos e, List.nil_append]
        refine ⟨i1, fun x => (i2 x).trans ?_⟩
        constructor
        · rintro (h | ⟨h, h'⟩)
          · exact .inl h
          · exact .inr ⟨List.mem_cons_of_mem _ h, h'⟩
        · rintro (h | ⟨h, h'⟩)
          · exact .inl h
          · rcases List.mem_cons.1 h with rfl | h
            · exact absurd e h'
            · exact .inr ⟨h, h'⟩
      · rw [if_neg e]
        have hyc : bs y.1 < bs c.1 := lt_of_le_ne (List.not_lt.1 hlt) e
        constructor
        · refine List.pairwise_cons.2 ⟨fun x hx => ?_, i1⟩
          rcases (i2 x).1 hx with rfl | ⟨h, _⟩
          · exact hyc
          · exact hy x h
        · intro x
          show x ∈ y :: withFrom c false r ↔ _
          rw [List.mem_cons, i2]
          constructor
          · rintro (rfl | h | ⟨h, h'⟩)
            · exact .inr ⟨List.mem_cons_self .., e⟩
            · exact .inl h
            · exact .inr ⟨List.mem_cons_of_mem _ h, h'⟩
          · rintro (h | ⟨h, h'⟩)
            · exact .inr (.inl h)
            · rcases List.mem_cons.1 h with rfl | h
              · exact .inl rfl
              · exact .inr (.inr ⟨h, h'⟩)
theorem withR_all {g : List UInt8 → Int} {n : Nat} {L : List Ch} (h : AllR g n L) (c : Ch) : AllR (setR g (bs c.1) c.2) (withR L c).length (withR L c) := by
  have hr := h.rise
  have hm := h.memr
  have key : RiseR (withR L c) ∧ ∀ x, x ∈ withR L c ↔ ((x = c ∧ c.2 ≠ 0) ∨ (x ∈ L ∧ bs x.1 ≠ bs c.1)) := by
    unfold withR
    by_cases h0 : c.2 = 0
    · rw [h0, show ((0 : Int) == 0) = true from rfl, withFrom_true]
      refine ⟨List.Pairwise.sublist List.filter_sublist hr, fun x => ?_⟩
      rw [List.mem_filter]
      simp
    · have : (c.2 == 0) = false := beq_eq_false_iff_ne.2 h0
      rw [this]
      obtain ⟨h1, h2⟩ := withFrom_false c L hr
      refine ⟨h1, fun x => (h2 x).trans ?_⟩
      simp [h0]
  refine allR_of key.1 fun x => ?_
  rw [key.2, hm]
  simp only [setR]
  by_cases e : bs x.1 = bs c.1
  · rw [if_pos e]
    constructor
    · rintro (⟨rfl, h⟩ | ⟨_, h⟩)
      · exact ⟨rfl, h⟩
      · exact absurd e h
    · rintro ⟨h1, h2⟩
      refine .inl ⟨?_, by rw [h1]; exact h2⟩
      obtain ⟨x1, x2⟩ := x
      obtain ⟨c1, c2⟩ := c
      simp only at e h1 ⊢
      rw [← arr_bs x1, e, arr_bs, h1]
  · rw [if_neg e]
    constructor
    · rintro (⟨rfl, _⟩ | ⟨h, _⟩)
      · exact absurd rfl e
      · exact h
    · exact fun h => .inr ⟨h, e⟩
/-- the first thing wrong with changes, their number not looked at -/
def errFrom (g : List UInt8 → Int) : (List UInt8 → Bool) → List Ch → Int
  | _, [] => 0
  | A, x :: r => if chgErr g A x.1 x.2 ≠ 0 then chgErr g A x.1 x.2 else errFrom g (addA A (bs x.1)) r
def cntFrom (g : List UInt8 → Int) : Int → List Ch → Int
  | c, [] => c
  | c, x :: r => cntFrom g (c + growR g x.1 x.2) r
theorem chkFrom_err (g : List UInt8 → Int) : ∀ (l : List Ch) (A : List UInt8 → Bool) (c : Int), errFrom g A l ≠ 0 → chkFrom g A c l = errFrom g A l
  | [], A, c, h => absurd rfl h
  | x :: r, A, c, h => by
    unfold errFrom at h
    unfold chkFrom errFrom
    by_cases e : chgErr g A x.1 x.2 = 0
    · rw [if_neg (not_not_intro e)] at h ⊢
      rw [if_neg (not_not_intro e)]
      exact chkFrom_err g r _ _ h
    · rw [if_pos e, if_pos e]
theorem chkFrom_cnt (g : List UInt8 → Int) : ∀ (l : List Ch) (A : List UInt8 → Bool) (c : Int), errFrom g A l = 0 → chkFrom g A c l = if 64 < cntFrom g c l then 3 else 0
  | [], A, c, _ => rfl
  | x :: r, A, c, h => by
    unfold errFrom at h
    unfold chkFrom cntFrom
    by_cases e : chgErr g A x.1 x.2 = 0
    · rw [if_neg (not_not_intro e)] at h ⊢
      exact chkFrom_cnt g r _ _ h
    · rw [if_pos e] at h; exact absurd h e
theorem cnt_news (g : List UInt8 → Int) : ∀ (l : List Ch) (A : List UInt8 → Bool) (c : Int) (q : (List UInt8 → Int) × Nat), errFrom g A l = 0 → CntR q.1 q.2 → (∀ k, A k = false → q.1 k = g k) → (q.2 : Int) = c → ((applyR q (newsR g l)).2 : Int) = cntFrom g c l
  | [], A, c, q, _, _, _, hq => hq
  | x :: r, A, c, q, h, hc, hA, hq => by
    unfold errFrom at h
    by_cases e : chgErr g A x.1 x.2 = 0
    · rw [if_neg (by simpa using e)] at h
      obtain ⟨h1, h2, h3, h4⟩ := chgErr_zero e
      have hg := hA _ h3
      by_cases hx : g (bs x.1) = x.2
      · have h5 := chgErr_id e hx
        have e1 : newsR g (x :: r) = newsR g r := by simp [newsR, hx]
        have e2 : growR g x.1 x.2 = 0 := by unfold growR; rw [if_neg h5, if_neg (by rw [hx]; exact h5)]
        rw [e1]
        unfold cntFrom
        rw [e2, Int.add_zero]
        exact cnt_news g r _ c q h hc (fun k hk => by
          simp only [addA, Bool.or_eq_false_iff] at hk
          exact hA k hk.2) hq
      · have e1 : newsR g (x :: r) = x :: newsR g r := by simp [newsR, hx]
        rw [e1]
        unfold cntFrom
        have := cnt_news g r (addA A (bs x.1)) (c + growR g x.1 x.2) (stepR q x) h (hc.step x) (fun k hk' => by
          simp only [addA, Bool.or_eq_false_iff, beq_eq_false_iff_ne] at hk'
          simp only [stepR, setR, if_neg hk'.1]
          exact hA k hk'.2) (by
          simp only [stepR, growR, hg]
          by_cases h0 : x.2 = 0
          · have := hc.pos (k := bs x.1) (by rw [hg]; exact h4 h0)
            rw [if_pos h0, if_pos h0, if_neg (h4 h0)]
            omega
          · rw [if_neg h0, if_neg h0]
            by_cases hz : g (bs x.1) = 0
            · rw [if_pos hz, if_pos hz]; omega
            · rw [if_neg hz, if_neg hz]; omega)
        simpa [applyR] using this
    · rw [if_pos e] at h; exact absurd h e
theorem AllR.cntr {g : List UInt8 → Int} {n : Nat} {L : List Ch} (h : AllR g n L) : CntR g n := by
  obtain ⟨ks, h1, h2, h3, _⟩ := h
  exact ⟨ks, h1, h2, h3⟩
theorem cnt_one {g : List UInt8 → Int} {n m : Nat} (h : CntR g n) (h' : CntR g m) : n = m := by
  obtain ⟨ks, n1, m1, rfl⟩ := h
  obtain ⟨js, n2, m2, rfl⟩ := h'
  exact ((List.perm_ext_iff_of_nodup n1 n2).2 fun x => by rw [m1, m2]).length_eq
theorem fold_all : ∀ (l : List Ch) (q : (List UInt8 → Int) × Nat) (L : List Ch), AllR q.1 q.2 L → AllR (applyR q l).1 (applyR q l).2 (l.foldl withR L)
  | [], q, L, h => h
  | x :: r, q, L, h => by
    have h1 := withR_all h x
    have h2 : CntR (stepR q x).1 (stepR q x).2 := h.cntr.step x
    have h3 : (withR L x).length = (stepR q x).2 := cnt_one h1.cntr h2
    rw [h3] at h1
    exact fold_all r (stepR q x) (withR L x) h1
/-- what the document says of a Set of changes is what the program says -/
theorem set_err {g : List UInt8 → Int} {n : Nat} {l : List Ch} (h : errFrom g (fun _ => false) l ≠ 0) : chkR g n l = errFrom g (fun _ => false) l := chkFrom_err g l _ _ h
theorem set_cnt {g : List UInt8 → Int} {n : Nat} {L : List Ch} (h : AllR g n L) {l : List Ch} (e : errFrom g (fun _ => false) l = 0) : chkR g n l = if 64 < ((newsR g l).foldl withR L).length then 3 else 0 := by
  unfold chkR
  rw [chkFrom_cnt g l _ _ e]
  have h1 := cnt_news g l _ (n : Int) (g, n) e h.cntr (fun _ _ => rfl) rfl
  have h2 := (fold_all (newsR g l) (g, n) L h).len
  rw [h2]
  by_cases e2 : 64 < (applyR (g, n) (newsR g l)).2
  · rw [if_pos e2, if_pos (by omega)]
  · rw [if_neg e2, if_neg (by omega)]
end Go.Proofs.YtiafhbpklddlnaaGreatDoor
