import Derived.Test.YtncagdfbgpdhfaaGreatP41
import Derived.Test.YtncagdfbgpdhfaaGreatP34
import Derived.Test.YtncagdfbgpdhfaaGreatP29
/- The walk of spread: marks are laid on the ancestors. -/
namespace Go.Proofs.YtncagdfbgpdhfaaGreat
open Go.RowKit Go.Shelf Go.Maps

attribute [local go_sem] Oper.semAt_some

/-- what stands while marks are laid -/
def SpI (os : List Ob) (z mb km : Nat) (m : Int → Nat) (w7 : World) (pre : List (Nat × Int)) (W : World) : Prop :=
  MkAt W mb (spr (psO os) z (pre.map (·.2)) m) (km + 8 * pre.length) ∧ Turn (fun k => k = mb) w7 W
theorem spI_own (os : List Ob) (z mb km : Nat) (m : Int → Nat) (w7 : World) (hmb : mb < w7.heap.size) : OwnFrom w7.heap.size (SpI os z mb km m w7) := by
  rintro pre X Y row ⟨h1, hT⟩ hg hr
  refine ⟨h1.kept (hg.block mb h1.lt (fun e => by have := (hr mb e.symm).1; omega)), ⟨hg.os.trans hT.os, hg.tape.trans hT.tape, hg.output.trans hT.output, Nat.le_trans hT.size hg.size, fun k hk hn => (hg.block k (Nat.lt_of_lt_of_le hk hT.size) (fun e => by have := (hr k e.symm).1; omega)).trans (hT.block k hk hn)⟩⟩

theorem spread_end {w7 W : World} {mb D B3 B4 : Nat} (v0 v1 : Value) (hTW : Turn (fun k => k = mb) w7 W) (hK : W.heap[D]? = some (.deferred (some []))) (hD : w7.heap.size ≤ D) (bH : BoxH W B3 (.slice none 0 0) (.map none)) (bE : Boxed W B4 32 (.int .i64 0)) (h34 : B3 ≠ B4) (h3 : B3 ≠ D) (h4 : B4 ≠ D) :
    (((W.setCell ⟨B3, 0, none⟩ v0).setCell ⟨B3, 1, none⟩ v1).setCell ⟨B4, 0, none⟩ (.int .i64 0)).heap[D]? = some (.deferred (some [])) ∧
    Turn (fun k => k = mb ∨ k = B3 ∨ k = B4) w7 ((((W.setCell ⟨B3, 0, none⟩ v0).setCell ⟨B3, 1, none⟩ v1).setCell ⟨B4, 0, none⟩ (.int .i64 0)).putObj D (.deferred none)) ∧
    ((((W.setCell ⟨B3, 0, none⟩ v0).setCell ⟨B3, 1, none⟩ v1).setCell ⟨B4, 0, none⟩ (.int .i64 0)).putObj D (.deferred none)).cell? ⟨B3, 0, none⟩ = some v0 ∧
    ((((W.setCell ⟨B3, 0, none⟩ v0).setCell ⟨B3, 1, none⟩ v1).setCell ⟨B4, 0, none⟩ (.int .i64 0)).putObj D (.deferred none)).cell? ⟨B3, 1, none⟩ = some v1 ∧
    ((((W.setCell ⟨B3, 0, none⟩ v0).setCell ⟨B3, 1, none⟩ v1).setCell ⟨B4, 0, none⟩ (.int .i64 0)).putObj D (.deferred none)).cell? ⟨B4, 0, none⟩ = some (.int .i64 0) := by
  have bH2 := (bH.all v0 v1).other h34 (i := 0) (.int .i64 0)
  have bE1 : Boxed ((W.setCell ⟨B3, 0, none⟩ v0).setCell ⟨B3, 1, none⟩ v1) B4 32 (.int .i64 0) := (Below.heap_setCell _ _ _ _ (Ne.symm h34)).trans ((Below.heap_setCell _ _ _ _ (Ne.symm h34)).trans bE)
  have bE2 := bE1.set (.int .i64 0)
  have hT2 := (((hTW.wide (Gp := fun k => k = mb ∨ k = B3 ∨ k = B4) (fun k e => .inl e)).trans (turn_setCell W B3 0 v0) (fun _ _ e => .inr (.inl e))).trans (turn_setCell _ B3 1 v1) (fun _ _ e => .inr (.inl e))).trans (turn_setCell _ B4 0 (.int .i64 0)) (fun _ _ e => .inr (.inr e))
  have hK2 : (((W.setCell ⟨B3, 0, none⟩ v0).setCell ⟨B3, 1, none⟩ v1).setCell ⟨B4, 0, none⟩ (.int .i64 0)).heap[D]? = some (.deferred (some [])) := by
    rw [Below.heap_setCell _ _ _ _ (Ne.symm h4), Below.heap_setCell _ _ _ _ (Ne.symm h3), Below.heap_setCell _ _ _ _ (Ne.symm h3)]; exact hK
  generalize ((W.setCell ⟨B3, 0, none⟩ v0).setCell ⟨B3, 1, none⟩ v1).setCell ⟨B4, 0, none⟩ (.int .i64 0) = Wf at *
  obtain ⟨k1, k2⟩ := BoxH.cell (show BoxH (Wf.putObj D (.deferred none)) B3 _ _ from (World.putObj_heap_other h3).trans bH2)
  exact ⟨hK2, turn_put _ hT2 hD, k1, k2, Boxed.cell (show Boxed (Wf.putObj D (.deferred none)) B4 _ _ from (World.putObj_heap_other h4).trans bE2)⟩
theorem spread_mark {W : World} {mb D B3 B4 : Nat} {v0 v1 v2 : Value} (o : Obj) (_u : Unit) (h3 : mb ≠ B3) (h4 : mb ≠ B4) (hD : mb ≠ D) : ((((W.setCell ⟨B3, 0, none⟩ v0).setCell ⟨B3, 1, none⟩ v1).setCell ⟨B4, 0, none⟩ v2).putObj D o).heap[mb]? = W.heap[mb]? := by
  rw [World.putObj_heap_other hD, Below.heap_setCell _ _ _ _ h4, Below.heap_setCell _ _ _ _ h3, Below.heap_setCell _ _ _ _ h3]

set_option maxRecDepth 100000 in
set_option maxHeartbeats 8000000 in
theorem spread_ok (w : World) (s d : Nat) (os : List Ob) (sz : Nat) (cut : Bool) (F : Nat → Prop) (hS : IsSt w s d os sz cut F) (hos : os.length ≤ 65536) (mb km : Nat) (m : Int → Nat) (hM : MkAt w mb m km) (hF : ¬ F mb) (hm8 : ∀ x, m x < 8) (hkm : km ≤ 1000000000) (z : Nat) (hz : z < 8)
    (a : Option Addr) (n c : Nat) (l : List Int) (hl : Ids w a n l) (hr : ∀ x ∈ l, 0 ≤ x ∧ x ≤ 18446744073709551615) (hnc : n ≤ c) (hn : n ≤ 1000000000) (g : GS) (hR : ordG os l GS.none = .ok g) :
    Calls Tryz.prog 59 #[.pointer (some ⟨s, 0, none⟩), .map (some mb), .int .u64 (z : Int), .slice a n c] w fun e w' => ∃ oa oc, e = .returned (.tuple #[.agg #[.slice oa g.ord.length oc, .map (some mb)], .int .i64 0]) ∧ Ids w' oa g.ord.length g.ord ∧ (∀ x, oa = some x → w.heap.size ≤ x.block) ∧ g.ord.length ≤ oc ∧ MkAt w' mb (spr (psO os) z g.ord.reverse m) (km + 8 * g.ord.length) ∧ Turn (fun k => k = mb) w w' := by
  have hmx : Tryz.prog.follows .mixedOrders = true := by kernel_rfl
  obtain ⟨w5, hw5⟩ : ∃ w5, w5 = ((((w.alloc (.cells #[.pointer (some ⟨s, 0, none⟩)] 35)).alloc (.cells #[.map (some mb)] 88)).alloc (.cells #[.int .u64 (z : Int)] 93)).alloc (.cells #[.slice none 0 0, .map none] 90)).alloc (.cells #[.int .i64 0] 32) := ⟨_, rfl⟩
  have hs5 : w5.heap.size = w.heap.size + 5 := by rw [hw5]; simp
  have hB5 : Below w.heap.size w w5 := by rw [hw5]; exact (((((Below.refl _ w).alloc (Nat.le_refl _) _).alloc (by simp) _).alloc (by simp; omega) _).alloc (by simp; omega) _).alloc (by simp; omega) _
  have bS5 : Boxed w5 w.heap.size 35 (.pointer (some ⟨s, 0, none⟩)) := by rw [hw5]; exact ((((Boxed.new w 35 _).alloc _).alloc _).alloc _).alloc _
  have bM5 : Boxed w5 (w.heap.size + 1) 88 (.map (some mb)) := by
    have := Boxed.new (w.alloc (.cells #[.pointer (some ⟨s, 0, none⟩)] 35)) 88 (.map (some mb))
    simp only [World.size_alloc] at this
    rw [hw5]; exact ((this.alloc _).alloc _).alloc _
  have bZ5 : Boxed w5 (w.heap.size + 2) 93 (.int .u64 (z : Int)) := by
    have := Boxed.new ((w.alloc (.cells #[.pointer (some ⟨s, 0, none⟩)] 35)).alloc (.cells #[.map (some mb)] 88)) 93 (.int .u64 (z : Int))
    simp only [World.size_alloc] at this
    rw [hw5]; exact (this.alloc _).alloc _
  have bH5 : BoxH w5 (w.heap.size + 3) (.slice none 0 0) (.map none) := by
    have := BoxH.new (((w.alloc (.cells #[.pointer (some ⟨s, 0, none⟩)] 35)).alloc (.cells #[.map (some mb)] 88)).alloc (.cells #[.int .u64 (z : Int)] 93)) (.slice none 0 0) (.map none)
    simp only [World.size_alloc] at this
    rw [hw5]; exact (Below.heap_alloc _ _ _ this.lt).trans this
  have bE5 : Boxed w5 (w.heap.size + 4) 32 (.int .i64 0) := by
    have := Boxed.new ((((w.alloc (.cells #[.pointer (some ⟨s, 0, none⟩)] 35)).alloc (.cells #[.map (some mb)] 88)).alloc (.cells #[.int .u64 (z : Int)] 93)).alloc (.cells #[.slice none 0 0, .map none] 90)) 32 (.int .i64 0)
    simp only [World.size_alloc] at this
    rw [hw5]; exact this
  have hord := order_any w5 s d os sz cut F (hS.below hB5) hos a n c l (hl.kept hB5) hr hnc hn
  rw [hR] at hord
  have HMb : Hid (mb < w.heap.size) := hM.lt
  have HOr : Hid (g.ord.length ≤ 65536) := Nat.le_trans (ord_len hR) hos
  refine (callsIn_wide (n := 5)).1 ?_
  refine callsIn_of_wp_marks Tryz.func59 rfl trivial ?_ rfl
  simp only [Tryz.ntmps59, List.size_toArray, List.length_cons, List.length_nil, Nat.reduceAdd, Nat.reduceSub, Array.replicate_succ, Array.replicate_zero, List.push_toArray, List.append_toArray, List.nil_append, List.cons_append]
  refine wpIn_wide.2 ?_
  go_wp2_with fail
  rw [← hw5]
  refine hord.mono ?_
  clear hord hw5
  rintro e w6 ⟨hB6, oa, oc, rfl, hrow⟩
  obtain ⟨_, _, ee, hI6⟩ := own_ids hrow
  cases ee
  obtain ⟨_, _, ee, hoc, hon⟩ := row_shapeN hrow
  cases ee
  have hob : ∀ x, oa = some x → w5.heap.size ≤ x.block ∧ x.block < w6.heap.size := fun x hx => hrow.lt x.block (by rw [hx]; rfl)
  have HO : Hid (Ids w6 oa g.ord.length g.ord ∧ (∀ x, oa = some x → w5.heap.size ≤ x.block ∧ x.block < w6.heap.size) ∧ g.ord.length ≤ oc) := ⟨hI6, hob, hoc⟩
  have H6 : Hid (Below w5.heap.size w5 w6) := hB6
  clear hrow hI6 hoc hon hob hB6
  generalize hNO : g.ord.length = no at *
  have HNO : Hid (g.ord.length = no) := hNO
  clear hNO
  go_wp2_with (go_at_call 80; refine (backward_any _ _ _ _).mono ?_; rintro e w' ⟨rfl, rfl⟩)
  obtain ⟨w7, hw7⟩ : ∃ w7, w7 = w6.alloc (.cells #[.slice oa no oc] 28) := ⟨_, rfl⟩
  rw [← hw7]
  have hB57 : Below w5.heap.size w5 w7 := by rw [hw7]; exact H6.out.alloc H6.out.size _
  have hB67 : Below w6.heap.size w6 w7 := by rw [hw7]; exact (Below.refl _ _).alloc (Nat.le_refl _) _
  have hs7 : w7.heap.size = w6.heap.size + 1 := by rw [hw7]; simp
  have bX7 : Boxed w7 w6.heap.size 28 (.slice oa no oc) := by rw [hw7]; exact Boxed.new _ _ _
  have hB7 : Below w.heap.size w w7 := hB5.trans (hB57.mono hB5.size)
  have HL7 : Hid (w.heap.size + 5 ≤ w7.heap.size ∧ w6.heap.size + 1 = w7.heap.size) := ⟨by have := hB57.size; omega, hs7.symm⟩
  have HB7 : Hid (Boxed w7 w.heap.size 35 (.pointer (some ⟨s, 0, none⟩)) ∧ Boxed w7 (w.heap.size + 1) 88 (.map (some mb)) ∧ Boxed w7 (w.heap.size + 2) 93 (.int .u64 (z : Int)) ∧ BoxH w7 (w.heap.size + 3) (.slice none 0 0) (.map none) ∧ Boxed w7 (w.heap.size + 4) 32 (.int .i64 0)) := ⟨(hB57.block _ bS5.lt).trans bS5, (hB57.block _ bM5.lt).trans bM5, (hB57.block _ bZ5.lt).trans bZ5, (hB57.block _ bH5.lt).trans bH5, (hB57.block _ bE5.lt).trans bE5⟩
  have HS7 : Hid (IsSt w7 s d os sz cut F ∧ ¬ F mb) := ⟨hS.below hB7, hF⟩
  have HM7 : Hid (MkAt w7 mb m km) := hM.kept (hB7.block mb hM.lt)
  have HI7 : Hid (Ids w7 oa no g.ord) := HO.out.1.kept hB67
  have HKb : Hid (∀ k, bkKeep w6.heap.size oa k → k < w7.heap.size ∧ k ≠ mb) := fun k hk => by
    have h1 := HMb.out
    have h2 := H6.out.size
    rcases hk with rfl | ⟨b, off, h3, rfl⟩
    · omega
    · have := HO.out.2.1 _ h3
      simp only at this
      omega
  have HG : Hid (ordG os l GS.none = .ok g ∧ no ≤ 65536 ∧ ∀ x, m x < 8) := ⟨hR, HOr.out, hm8⟩
  have HW7 : Hid (Below w.heap.size w w7 ∧ ∀ x, oa = some x → w.heap.size + 5 ≤ x.block) := ⟨hB7, fun x hx => by have := (HO.out.2.1 x hx).1; omega⟩
  have HKm : Hid (km + 8 * no + 8 ≤ 2000000000 ∧ no ≤ oc) := ⟨by have := HOr.out; omega, HO.out.2.2⟩
  have hn7 : no ≤ 1000000000 := by have := HOr.out; omega
  clear hw7 hB57 hB67 hs7 hB7 bS5 bM5 bZ5 bH5 bE5 hS hM hF hm8 hkm hl hr hnc hn hR hs5 hB5 hos HO H6 HOr
  refine (wpIn_wide (n := 5)).1 ?_
  refine range_both (w := w7) rfl (by omega) (gf := 109) (lb := #[.pointer (some ⟨w6.heap.size, 0, none⟩)]) rfl trivial (enters_of Tryz.func109 (by kernel_rfl) rfl)
    (backward_tells w7 w6.heap.size oa no oc g.ord bX7.cell HI7.out hn7 4 (by omega)) (fun _ => rfl) (fun k hk => (HKb.out k hk).1)
    (SpI os z mb km m w7) (fun _ _ _ => False) (spI_own os z mb km m w7 (by have := HMb.out; have := HL7.out; omega)) (fun _ _ _ _ _ h => h.elim) (fun _ _ _ _ _ _ h _ _ => h) ⟨HM7.out, Turn.refl _ _⟩ ?act ?assign ?body ?done ?stop
  case assign =>
    intro lp x W K hK
    unfold bkEncs
    gi_wp2
    exact hK
  case stop =>
    rintro D c' pre W hD hF' hK
    exact hF'.elim
  case body =>
    rintro lp pre ⟨xi, id⟩ W hlp ⟨hMk, hTW⟩ ⟨hx1, hx2⟩
    simp only at hx1 hx2 ⊢
    have hmem : id ∈ g.ord := by
      have := List.mem_of_getElem? hx1
      simpa using this
    obtain ⟨io, hio⟩ := List.getElem?_of_mem hmem
    obtain ⟨ps, hps, _⟩ := (ord_inv HG.out.1).topo io id hio
    obtain ⟨hi0, hi1⟩ := ord_rng HG.out.1 id hmem
    have hcom := gcom_yes W s d os sz cut F (HS7.out.1.turn hTW (fun k hk e => HS7.out.2 (e ▸ hk))) id hi0 hi1 ps hps
    have hne : ∀ k, w.heap.size ≤ k → ¬ k = mb := fun k hk e => by have := HMb.out; omega
    have bSW := (hTW.block _ HB7.out.1.lt (hne _ (Nat.le_refl _))).trans HB7.out.1
    have bMW := (hTW.block _ HB7.out.2.1.lt (hne _ (by omega))).trans HB7.out.2.1
    have bZW := (hTW.block _ HB7.out.2.2.1.lt (hne _ (by omega))).trans HB7.out.2.2.1
    have cS : W.cell? ⟨w.heap.size, 0, none⟩ = some (.pointer (some ⟨s, 0, none⟩)) := Boxed.cell bSW
    have HBx : Hid (∀ W', Below W.heap.size W W' → W'.cell? ⟨w.heap.size + 1, 0, none⟩ = some (.map (some mb)) ∧ W'.cell? ⟨w.heap.size + 2, 0, none⟩ = some (.int .u64 (z : Int))) := fun W' hB => ⟨Boxed.cell ((hB.block _ (Boxed.lt bMW)).trans bMW), Boxed.cell ((hB.block _ (Boxed.lt bZW)).trans bZW)⟩
    obtain ⟨f, hf⟩ : ∃ f, spr (psO os) z (pre.map (·.2)) m = f := ⟨_, rfl⟩
    have HF8 : Hid (∀ x, f x < 8) := by rw [← hf]; exact spr_lt _ _ _ _ HG.out.2.2
    rw [hf] at hMk
    have hpl : pre.length < no := by
      have := (List.getElem?_eq_some_iff.1 hx1).1
      rw [List.length_reverse, HNO.out] at this
      exact this
    have HPl : Hid (pre.length < no ∧ km + 8 * no + 8 ≤ 2000000000) := ⟨hpl, HKm.out.1⟩
    have HPs0 : Hid (psO os id = ps ∧ spr (psO os) z (pre.map (·.2)) m = f) := ⟨by unfold psO; rw [hps]; rfl, hf⟩
    have HTW : Hid (Turn (fun k => k = mb) w7 W) := hTW
    have HMk : Hid (MkAt W mb f (km + 8 * pre.length)) := hMk
    have HKm2 : Hid (km + 8 * no + 8 ≤ 2000000000) := HKm.out.1
    clear hx1 hx2 hmem hio hps hMk hTW hf bSW bMW bZW hlp
    obtain ⟨fv, hfv⟩ : ∃ fv, f id = fv := ⟨_, rfl⟩
    have hf8 : fv < 8 := by rw [← hfv]; exact HF8.out id
    have hand := bits_and fv z (by omega) (by omega)
    have HFv : Hid (f id = fv) := hfv
    clear hfv
    by_cases hs : fv &&& z = z
    · have hor : bits .or .u64 (fv : Int) 4 = ((fv ||| 4 : Nat) : Int) := bits_or fv 4 (by omega) (by decide)
      have hsb : (((fv &&& z : Nat) : Int) == (z : Int)) = true := by rw [hs]; simp
      have HPs : Hid (psO os id = ps ∧ spr (psO os) z (pre.map (·.2)) m = f ∧ bitsB z (f id) = fv ||| 4) := ⟨HPs0.out.1, HPs0.out.2, by rw [HFv.out]; unfold bitsB; rw [if_pos hs]⟩
      have HB8 : Hid (fv ||| 4 < 8) := or_lt8 hf8 (by decide)
      clear hs HPs0
      generalize fv ||| 4 = bv at *
      gi_wp2_with (refine ⟨trivial, ?_⟩; gi_at_call 81; refine (CallsIn.inRound lp (callsIn_wide.2 hcom)).mono ?_; clear hcom; rintro e W1 ⟨⟨mm, hmi, hmp, rfl, hMb⟩, hB1⟩; obtain ⟨cM, cZ⟩ := HBx.out _ (hB1.alloc hB1.size (.cells #[.int .u64 mm.t, .slice mm.pa mm.pn mm.pc, .string mm.au, .int .i64 mm.d, .string mm.tx] 78)); have hmk1 := HMk.out.kept (hB1.block mb HMk.out.lt); have hlk := hmk1.look id hi0 hi1 (W1.alloc (.cells #[.int .u64 mm.t, .slice mm.pa mm.pn mm.pc, .string mm.au, .int .i64 mm.d, .string mm.tx] 78)) (Below.heap_alloc _ _ _ hmk1.lt); rw [HFv.out] at hlk; have HW2 : Hid (MkAt (W1.alloc (.cells #[.int .u64 mm.t, .slice mm.pa mm.pn mm.pc, .string mm.au, .int .i64 mm.d, .string mm.tx] 78)) mb f (km + 8 * pre.length) ∧ (W1.alloc (.cells #[.int .u64 mm.t, .slice mm.pa mm.pn mm.pc, .string mm.au, .int .i64 mm.d, .string mm.tx] 78)).cell? ⟨w.heap.size + 1, 0, none⟩ = some (.map (some mb)) ∧ Turn (fun k => k = mb) W (W1.alloc (.cells #[.int .u64 mm.t, .slice mm.pa mm.pn mm.pc, .string mm.au, .int .i64 mm.d, .string mm.tx] 78))) := ⟨hmk1.kept (Below.heap_alloc _ _ _ hmk1.lt), cM, Turn.of_below _ (hB1.alloc hB1.size _)⟩; have hI1 := hMb.par.get; have HPn : Hid (ps.length = mm.pn ∧ mm.pn ≤ 8 ∧ (∀ W', Turn (fun k => k = mb) (W1.alloc (.cells #[.int .u64 mm.t, .slice mm.pa mm.pn mm.pc, .string mm.au, .int .i64 mm.d, .string mm.tx] 78)) W' → Ids W' mm.pa mm.pn ps) ∧ ∀ p ∈ ps, 0 ≤ p ∧ p ≤ 18446744073709551615) := ⟨(by rw [← hmp]; exact hI1.1), hMb.len.2, (fun W' hT' => (by rw [← hmp]; exact hMb.par W' (fun k hk => (hT'.block k (by simp; omega) (fun e => by have h1 := HMb.out; have h2 := HL7.out.1; have h3 := HTW.out.size; omega)).trans (Below.heap_alloc _ _ _ hk.2)))), (by rw [← hmp]; exact hMb.pars)⟩; clear hmk1 hMb hI1 hmi hmp hB1)
      generalize W1.alloc (.cells #[.int .u64 mm.t, .slice mm.pa mm.pn mm.pc, .string mm.au, .int .i64 mm.d, .string mm.tx] 78) = W2 at *
      clear hlk cM cZ hand hsb
      generalize mm.pn = pn at *
      generalize mm.pa = pa at *
      have hpn : pn ≤ 8 := HPn.out.2.1
      gi_loopw [56] (fun i wr => ∃ k : Nat, k ≤ pn ∧ i = .int .i64 k ∧ Hid (MkAt wr mb (orP (ps.take k) bv f) (km + 8 * pre.length + k) ∧ Turn (fun x => x = mb) W2 wr)) (fun i _ => pn - (intOf i).toNat)
      case atStart => exact ⟨0, Nat.zero_le _, rfl, HW2.out.1, Turn.refl _ _⟩
      case round =>
        obtain ⟨k, hk, rfl, H⟩ := hrel
        by_cases hlt : k < pn
        · obtain ⟨p, hp⟩ : ∃ p, ps[k]? = some p := ⟨_, List.getElem?_eq_getElem (by rw [HPn.out.1]; exact hlt)⟩
          obtain ⟨b1, o1, hae, hc1⟩ := (HPn.out.2.2.1 wr H.out.2).2 (by omega)
          subst hae
          have q0 := hc1 k p hp
          have cM := H.out.2.cell HW2.out.2.1 (show ¬ w.heap.size + 1 = mb by have := HMb.out; omega)
          obtain ⟨hp0, hp1⟩ := HPn.out.2.2.2 p (List.mem_of_getElem? hp)
          have hf8 := orP_lt (ps.take k) bv f HF8.out HB8.out p
          have hlk := H.out.1.look p hp0 hp1 wr rfl
          obtain ⟨fp, hfp⟩ : ∃ fp, orP (ps.take k) bv f p = fp := ⟨_, rfl⟩
          rw [hfp] at hlk hf8
          have hor := bits_or fp bv (by omega) (by have := HB8.out; omega)
          obtain ⟨w3, hupd, hmk3, hg3⟩ := H.out.1.put p hp0 hp1 (by have := HPl.out; unfold maxLen; omega) (fp ||| bv)
          have HN : Hid (MkAt w3 mb (orP (ps.take (k + 1)) bv f) (km + 8 * pre.length + (k + 1)) ∧ Turn (fun x => x = mb) W2 w3) := by
            obtain ⟨hkl, hke⟩ := List.getElem?_eq_some_iff.1 hp
            refine ⟨?_, H.out.2.trans (turn_grown hg3) (fun _ _ e => e)⟩
            rw [List.take_succ_eq_append_getElem hkl, orP_snoc, hke, hfp]
            exact hmk3
          have i5 : (k : Int) < (pn : Int) := by omega
          have i6 : ¬ pn ≤ k := by omega
          clear hmk3 hg3 hfp hc1 hp
          generalize fp ||| bv = nv at *
          gi_wp2
          go_roundw
          case rel => exact ⟨k + 1, by omega, by go_num, HN.out⟩
          case measure => simp [intOf]; omega
        · obtain rfl : pn = k := by omega
          have i5 : ¬ (pn : Int) < (pn : Int) := by omega
          have HE : Hid (MkAt wr mb (orP ps bv f) (km + 8 * pre.length + pn) ∧ Turn (fun x => x = mb) W wr) := by
            have h1 := H.out.1
            rw [List.take_of_length_le (by rw [HPn.out.1]; exact Nat.le_refl _)] at h1
            exact ⟨h1, HW2.out.2.2.trans H.out.2 (fun _ _ e => e)⟩
          clear hk hlt
          gi_wp2
          obtain ⟨hE1, hE2⟩ := HE.out
          refine ⟨keepsFrom_turn hE2 (fun q o' hq hB ho => by have := HMb.out; have := HL7.out; omega), ⟨hE2.size, fun q hq => hE2.block q ?_ ?_⟩, ?_, HTW.out.trans hE2 (fun _ _ e => e)⟩
          · exact Nat.lt_of_lt_of_le (HKb.out q hq).1 HTW.out.size
          · exact fun e => (HKb.out q hq).2 e
          · show MkAt wr mb (spr (psO os) z ((pre ++ [(xi, id)]).map (·.2)) m) (km + 8 * (pre ++ [(xi, id)]).length)
            rw [List.map_append]
            show MkAt wr mb (spr (psO os) z (pre.map (·.2) ++ [id]) m) _
            rw [spr_snoc, HPs.out.1, HPs.out.2.1, HPs.out.2.2]
            obtain ⟨M, g1, g2, g3⟩ := hE1
            exact ⟨M, g1, by rw [List.length_append, List.length_singleton]; have := HPn.out.2.1; omega, g3⟩
    · have hsb : (((fv &&& z : Nat) : Int) == (z : Int)) = false := beq_false_of_ne (by omega)
      have HPs : Hid (psO os id = ps ∧ spr (psO os) z (pre.map (·.2)) m = f ∧ bitsB z (f id) = fv) := ⟨HPs0.out.1, HPs0.out.2, by rw [HFv.out]; unfold bitsB; rw [if_neg hs]⟩
      have HB8 : Hid (fv < 8) := hf8
      clear hs HPs0
      gi_wp2_with (refine ⟨trivial, ?_⟩; gi_at_call 81; refine (CallsIn.inRound lp (callsIn_wide.2 hcom)).mono ?_; clear hcom; rintro e W1 ⟨⟨mm, hmi, hmp, rfl, hMb⟩, hB1⟩; obtain ⟨cM, cZ⟩ := HBx.out _ (hB1.alloc hB1.size (.cells #[.int .u64 mm.t, .slice mm.pa mm.pn mm.pc, .string mm.au, .int .i64 mm.d, .string mm.tx] 78)); have hmk1 := HMk.out.kept (hB1.block mb HMk.out.lt); have hlk := hmk1.look id hi0 hi1 (W1.alloc (.cells #[.int .u64 mm.t, .slice mm.pa mm.pn mm.pc, .string mm.au, .int .i64 mm.d, .string mm.tx] 78)) (Below.heap_alloc _ _ _ hmk1.lt); rw [HFv.out] at hlk; have HW2 : Hid (MkAt (W1.alloc (.cells #[.int .u64 mm.t, .slice mm.pa mm.pn mm.pc, .string mm.au, .int .i64 mm.d, .string mm.tx] 78)) mb f (km + 8 * pre.length) ∧ (W1.alloc (.cells #[.int .u64 mm.t, .slice mm.pa mm.pn mm.pc, .string mm.au, .int .i64 mm.d, .string mm.tx] 78)).cell? ⟨w.heap.size + 1, 0, none⟩ = some (.map (some mb)) ∧ Turn (fun k => k = mb) W (W1.alloc (.cells #[.int .u64 mm.t, .slice mm.pa mm.pn mm.pc, .string mm.au, .int .i64 mm.d, .string mm.tx] 78))) := ⟨hmk1.kept (Below.heap_alloc _ _ _ hmk1.lt), cM, Turn.of_below _ (hB1.alloc hB1.size _)⟩; have hI1 := hMb.par.get; have HPn : Hid (ps.length = mm.pn ∧ mm.pn ≤ 8 ∧ (∀ W', Turn (fun k => k = mb) (W1.alloc (.cells #[.int .u64 mm.t, .slice mm.pa mm.pn mm.pc, .string mm.au, .int .i64 mm.d, .string mm.tx] 78)) W' → Ids W' mm.pa mm.pn ps) ∧ ∀ p ∈ ps, 0 ≤ p ∧ p ≤ 18446744073709551615) := ⟨(by rw [← hmp]; exact hI1.1), hMb.len.2, (fun W' hT' => (by rw [← hmp]; exact hMb.par W' (fun k hk => (hT'.block k (by simp; omega) (fun e => by have h1 := HMb.out; have h2 := HL7.out.1; have h3 := HTW.out.size; omega)).trans (Below.heap_alloc _ _ _ hk.2)))), (by rw [← hmp]; exact hMb.pars)⟩; clear hmk1 hMb hI1 hmi hmp hB1)
      generalize W1.alloc (.cells #[.int .u64 mm.t, .slice mm.pa mm.pn mm.pc, .string mm.au, .int .i64 mm.d, .string mm.tx] 78) = W2 at *
      clear hlk cM cZ hand hsb
      generalize mm.pn = pn at *
      generalize mm.pa = pa at *
      have hpn : pn ≤ 8 := HPn.out.2.1
      gi_loopw [56] (fun i wr => ∃ k : Nat, k ≤ pn ∧ i = .int .i64 k ∧ Hid (MkAt wr mb (orP (ps.take k) fv f) (km + 8 * pre.length + k) ∧ Turn (fun x => x = mb) W2 wr)) (fun i _ => pn - (intOf i).toNat)
      case atStart => exact ⟨0, Nat.zero_le _, rfl, HW2.out.1, Turn.refl _ _⟩
      case round =>
        obtain ⟨k, hk, rfl, H⟩ := hrel
        by_cases hlt : k < pn
        · obtain ⟨p, hp⟩ : ∃ p, ps[k]? = some p := ⟨_, List.getElem?_eq_getElem (by rw [HPn.out.1]; exact hlt)⟩
          obtain ⟨b1, o1, hae, hc1⟩ := (HPn.out.2.2.1 wr H.out.2).2 (by omega)
          subst hae
          have q0 := hc1 k p hp
          have cM := H.out.2.cell HW2.out.2.1 (show ¬ w.heap.size + 1 = mb by have := HMb.out; omega)
          obtain ⟨hp0, hp1⟩ := HPn.out.2.2.2 p (List.mem_of_getElem? hp)
          have hf8 := orP_lt (ps.take k) fv f HF8.out HB8.out p
          have hlk := H.out.1.look p hp0 hp1 wr rfl
          obtain ⟨fp, hfp⟩ : ∃ fp, orP (ps.take k) fv f p = fp := ⟨_, rfl⟩
          rw [hfp] at hlk hf8
          have hor := bits_or fp fv (by omega) (by have := HB8.out; omega)
          obtain ⟨w3, hupd, hmk3, hg3⟩ := H.out.1.put p hp0 hp1 (by have := HPl.out; unfold maxLen; omega) (fp ||| fv)
          have HN : Hid (MkAt w3 mb (orP (ps.take (k + 1)) fv f) (km + 8 * pre.length + (k + 1)) ∧ Turn (fun x => x = mb) W2 w3) := by
            obtain ⟨hkl, hke⟩ := List.getElem?_eq_some_iff.1 hp
            refine ⟨?_, H.out.2.trans (turn_grown hg3) (fun _ _ e => e)⟩
            rw [List.take_succ_eq_append_getElem hkl, orP_snoc, hke, hfp]
            exact hmk3
          have i5 : (k : Int) < (pn : Int) := by omega
          have i6 : ¬ pn ≤ k := by omega
          clear hmk3 hg3 hfp hc1 hp
          generalize fp ||| fv = nv at *
          gi_wp2
          go_roundw
          case rel => exact ⟨k + 1, by omega, by go_num, HN.out⟩
          case measure => simp [intOf]; omega
        · obtain rfl : pn = k := by omega
          have i5 : ¬ (pn : Int) < (pn : Int) := by omega
          have HE : Hid (MkAt wr mb (orP ps fv f) (km + 8 * pre.length + pn) ∧ Turn (fun x => x = mb) W wr) := by
            have h1 := H.out.1
            rw [List.take_of_length_le (by rw [HPn.out.1]; exact Nat.le_refl _)] at h1
            exact ⟨h1, HW2.out.2.2.trans H.out.2 (fun _ _ e => e)⟩
          clear hk hlt
          gi_wp2
          obtain ⟨hE1, hE2⟩ := HE.out
          refine ⟨keepsFrom_turn hE2 (fun q o' hq hB ho => by have := HMb.out; have := HL7.out; omega), ⟨hE2.size, fun q hq => hE2.block q ?_ ?_⟩, ?_, HTW.out.trans hE2 (fun _ _ e => e)⟩
          · exact Nat.lt_of_lt_of_le (HKb.out q hq).1 HTW.out.size
          · exact fun e => (HKb.out q hq).2 e
          · show MkAt wr mb (spr (psO os) z ((pre ++ [(xi, id)]).map (·.2)) m) (km + 8 * (pre ++ [(xi, id)]).length)
            rw [List.map_append]
            show MkAt wr mb (spr (psO os) z (pre.map (·.2) ++ [id]) m) _
            rw [spr_snoc, HPs.out.1, HPs.out.2.1, HPs.out.2.2]
            obtain ⟨M, g1, g2, g3⟩ := hE1
            exact ⟨M, g1, by rw [List.length_append, List.length_singleton]; have := HPn.out.2.1; omega, g3⟩
  case done =>
    rintro D xs W hD hS ⟨hMk, hTW⟩ hK
    have hS' : xs.map (·.2) = g.ord.reverse := hS
    have hxl : xs.length = no := by
      have := congrArg List.length hS'
      rw [List.length_map, List.length_reverse, HNO.out] at this
      exact this
    rw [hS', hxl] at hMk
    have hne : ∀ k, w.heap.size ≤ k → ¬ k = mb := fun k hk e => by have := HMb.out; omega
    have bMW := (hTW.block _ HB7.out.2.1.lt (hne _ (by omega))).trans HB7.out.2.1
    have bHW : BoxH W (w.heap.size + 3) (.slice none 0 0) (.map none) := (hTW.block _ HB7.out.2.2.2.1.lt (hne _ (by omega))).trans HB7.out.2.2.2.1
    have bEW : Boxed W (w.heap.size + 4) 32 (.int .i64 0) := (hTW.block _ HB7.out.2.2.2.2.lt (hne _ (by omega))).trans HB7.out.2.2.2.2
    have cM : W.cell? ⟨w.heap.size + 1, 0, none⟩ = some (.map (some mb)) := Boxed.cell bMW
    obtain ⟨h0, h1⟩ := bHW.cell
    obtain ⟨f0, f1⟩ := bHW.frozen
    have cE := bEW.cell
    have fE := bEW.frozen
    have H : Hid (MkAt W mb (spr (psO os) z g.ord.reverse m) (km + 8 * no) ∧ Turn (fun k => k = mb) w7 W ∧ W.heap[D]? = some (.deferred (some [])) ∧ w7.heap.size ≤ D ∧ BoxH W (w.heap.size + 3) (.slice none 0 0) (.map none) ∧ Boxed W (w.heap.size + 4) 32 (.int .i64 0)) := ⟨hMk, hTW, hK, hD, bHW, bEW⟩
    clear hMk hTW hK hD hS hS' hxl bMW bHW bEW
    go_wp2_with fail
    obtain ⟨hMk, hTW, hK, hD, bHW, bEW⟩ := H.out
    have hDl : w.heap.size + 5 ≤ D := Nat.le_trans HL7.out.1 hD
    obtain ⟨hK2, hTF, k1, k2, k3⟩ := spread_end (w7 := w7) (mb := mb) (W := W) (D := D) (B3 := w.heap.size + 1 + 1 + 1) (B4 := w.heap.size + 1 + 1 + 1 + 1) (.slice oa no oc) (.map (some mb)) hTW hK hD bHW bEW (by omega) (by omega) (by omega)
    have hmbl := HMb.out
    refine sfin_m (v := .tuple #[.agg #[.slice oa no oc, .map (some mb)], .int .i64 0]) hK2 (by simp [results, Tryz.results59, go_sem, k1, k2, k3]) ⟨oa, oc, by rw [HNO.out], ?_, fun x hx => Nat.le_trans (by omega) (HW7.out.2 x hx), by rw [HNO.out]; exact HKm.out.2, ?_, ?_⟩
    · rw [HNO.out]
      refine ⟨HI7.out.1, fun h0 => ?_⟩
      obtain ⟨b, off, e, hc⟩ := HI7.out.2 h0
      refine ⟨b, off, e, fun i y hy => hTF.cell (hc i y hy) ?_⟩
      have := HW7.out.2 _ e
      simp only at this ⊢
      omega
    · rw [HNO.out]
      refine hMk.kept (spread_mark _ () (by omega) (by omega) (by omega))
    · exact (Turn.of_below _ HW7.out.1).trans hTF (fun i hi e => by omega)
end Go.Proofs.YtncagdfbgpdhfaaGreat
