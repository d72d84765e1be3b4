import Derived.Test.YtncagdfbgpdhfaaGreatR39
import Derived.Test.YtncagdfbgpdhfaaGreatR35
import Derived.Test.YtncagdfbgpdhfaaGreatR40
import Derived.Test.YtncagdfbgpdhfaaGreatR45
import Derived.Test.YtncagdfbgpdhfaaGreatR46
import Derived.Test.YtncagdfbgpdhfaaGreatR44
/- The walks of Apart and Relation. -/
namespace Go.Proofs.YtncagdfbgpdhfaaGreat
open Go.RowKit Go.Shelf Go.Maps

attribute [local go_sem] Oper.semAt_some

/-- a history of two commits, boxed -/
theorem pair_box {w w1 : World} {os : List Ob} {g : GS} {a b : Int} {oa : Option Addr} {oc mb km : Nat} (hH : Hist w w1 os 3 g (pairM a b) oa oc mb km) (hB1 : Below w.heap.size w w1) :
    MkAt (w1.alloc (.cells #[.slice oa g.ord.length oc, .map (some mb)] 90)) mb (mrkP os g a b) km ∧ BoxH (w1.alloc (.cells #[.slice oa g.ord.length oc, .map (some mb)] 90)) w1.heap.size (.slice oa g.ord.length oc) (.map (some mb)) ∧ Below w.heap.size w (w1.alloc (.cells #[.slice oa g.ord.length oc, .map (some mb)] 90)) ∧ Ids (w1.alloc (.cells #[.slice oa g.ord.length oc, .map (some mb)] 90)) oa g.ord.length g.ord := by
  have hA : Below w1.heap.size w1 (w1.alloc (.cells #[.slice oa g.ord.length oc, .map (some mb)] 90)) := (Below.refl _ _).alloc (Nat.le_refl _) _
  exact ⟨hH.marks.kept (hA.block _ hH.marks.lt), BoxH.new _ _ _, hB1.trans (hA.mono hB1.size), hH.ids.kept hA⟩
theorem mrkP_lt (os : List Ob) (g : GS) (a b : Int) : ∀ x, mrkP os g a b x < 8 := spr_lt _ _ _ _ (pairM_lt a b)

set_option maxRecDepth 100000 in
set_option maxHeartbeats 4000000 in
theorem apart_ok (w : World) (s d : Nat) (os : List Ob) (sz : Nat) (cut : Bool) (F : Nat → Prop) (hS : IsSt w s d os sz cut F) (hos : os.length ≤ 65536) (a b : Int) (ha : 0 ≤ a ∧ a ≤ 18446744073709551615) (hb : 0 ≤ b ∧ b ≤ 18446744073709551615) (g : GS) (hR : ordG os [a, b] GS.none = .ok g) :
    Calls Tryz.prog 19 #[.pointer (some ⟨s, 0, none⟩), .int .u64 a, .int .u64 b] w fun e w' => e = .returned (.tuple #[.int .i64 ((cntP (mrkP os g a b) 1 g.ord : Nat) : Int), .int .i64 ((cntP (mrkP os g a b) 2 g.ord : Nat) : Int), .int .i64 0]) ∧ Below w.heap.size w w' := by
  have hmx : Tryz.prog.follows .mixedOrders = true := by kernel_rfl
  have hof := ofPair_ok w s d os sz cut F hS hos a b ha hb g hR
  have hle := Nat.le_trans (ord_len hR) hos
  have hrg := ord_rng hR
  have hm8 := mrkP_lt os g a b
  clear hS ha hb hR
  go_enter Tryz.func19, Tryz.ntmps19
  go_wp2_with fail
  refine hof.mono ?_
  clear hof
  rintro e w1 ⟨⟨oa, oc, mb, km, rfl, hH⟩, hB1⟩
  obtain ⟨hmk, bH, hB, hI⟩ := pair_box hH hB1
  have HC : Hid (∀ W z, Below (w1.alloc (.cells #[.slice oa g.ord.length oc, .map (some mb)] 90)).heap.size (w1.alloc (.cells #[.slice oa g.ord.length oc, .map (some mb)] 90)) W → Calls Tryz.prog 42 #[.agg #[.slice oa g.ord.length oc, .map (some mb)], .int .u64 ((z : Nat) : Int)] W fun e w' => e = .returned (.int .i64 ((cntP (mrkP os g a b) z g.ord : Nat) : Int)) ∧ Below W.heap.size W w') := fun W z hW => count_any W _ hm8 g.ord oa _ oc mb km (hI.kept hW) hrg (hmk.kept (hW.block _ hmk.lt)) hle z
  have HX : Hid (BoxH (w1.alloc (.cells #[.slice oa g.ord.length oc, .map (some mb)] 90)) w1.heap.size (.slice oa g.ord.length oc) (.map (some mb)) ∧ Below w.heap.size w (w1.alloc (.cells #[.slice oa g.ord.length oc, .map (some mb)] 90))) := ⟨bH, hB⟩
  clear hmk bH hB hI hH hB1 hrg hm8 hle
  go_wp2_with fail
  generalize hwx : w1.alloc (.cells #[.slice oa g.ord.length oc, .map (some mb)] 90) = wx at *
  clear hwx
  have HC1 : Hid (∀ W, Below wx.heap.size wx W → Calls Tryz.prog 42 #[.agg #[.slice oa g.ord.length oc, .map (some mb)], .int .u64 1] W fun e w' => e = .returned (.int .i64 ((cntP (mrkP os g a b) 1 g.ord : Nat) : Int)) ∧ Below wx.heap.size wx w') := fun W hW => (HC.out W 1 hW).mono fun e W' ⟨h1, h2⟩ => ⟨h1, hW.trans (h2.mono hW.size)⟩
  have HC2 : Hid (∀ W, Below wx.heap.size wx W → Calls Tryz.prog 42 #[.agg #[.slice oa g.ord.length oc, .map (some mb)], .int .u64 2] W fun e w' => e = .returned (.int .i64 ((cntP (mrkP os g a b) 2 g.ord : Nat) : Int)) ∧ Below wx.heap.size wx w') := fun W hW => (HC.out W 2 hW).mono fun e W' ⟨h1, h2⟩ => ⟨h1, hW.trans (h2.mono hW.size)⟩
  have HT : Hid (∀ W, Below wx.heap.size wx W → W.cell? ⟨w1.heap.size, 0, none⟩ = some (.slice oa g.ord.length oc) ∧ W.cell? ⟨w1.heap.size, 1, none⟩ = some (.map (some mb))) := fun W hW => BoxH.cell (show BoxH W w1.heap.size _ _ from (hW.block _ HX.out.1.lt).trans HX.out.1)
  have HB : Hid (Below w.heap.size w wx) := HX.out.2
  clear HC HX
  generalize g.ord.length = no at *
  refine wp_region_G (S := SB 1000 (fun _ => True) (fun W => W.cell? ⟨w1.heap.size, 0, none⟩ = some (.slice oa no oc) ∧ W.cell? ⟨w1.heap.size, 1, none⟩ = some (.map (some mb)))) hmx ?_
  refine wpAnyG_takeP (i := 0) (v := ?_) rfl (by kernel_rfl) (by kernel_rfl) (by kernel_rfl) (fun _ _ _ h => h) rfl (Or.inl ⟨by rfl, ?_⟩) (SB.off (by kernel_rfl) (HT.out _ (below_drewN (Below.refl _ _) 1))) ?_
  rotate_left
  · intro Y hY; obtain ⟨f1, f2⟩ := hY; go_simp; try with_reducible rfl
  intro hSB0
  simp only [Act.put, List.getElem_toArray, List.getElem_cons_zero, List.setIfInBounds_toArray, List.set_cons_zero, List.set_cons_succ]
  refine wpAnyG_takeP (i := 2) (v := ?_) rfl (by kernel_rfl) (by kernel_rfl) (by kernel_rfl) (fun _ _ _ h => h) rfl (Or.inl ⟨by rfl, ?_⟩) (by assumption) ?_
  rotate_left
  · intro Y hY; obtain ⟨f1, f2⟩ := hY; go_simp; try with_reducible rfl
  intro hSB2
  simp only [Act.put, List.getElem_toArray, List.getElem_cons_zero, List.getElem_cons_succ, List.setIfInBounds_toArray, List.set_cons_zero, List.set_cons_succ]
  refine wpAnyG_one (i := 1) (by kernel_rfl) rfl (fun K hK => ?_)
  rw [if_pos (by rfl)]
  refine step_count (R := fun W => Below wx.heap.size wx W) _ 1 _ _ (by rfl) (by rfl) ((HC1.out _ (below_drewN (Below.refl _ _) 1)).mono fun e W' hp => hp) ?_
  intro w7 hBw7
  have H7 : Hid (Below wx.heap.size wx w7) := hBw7
  refine hK.out _ _ (SB.off (by kernel_rfl) (HT.out w7 hBw7)) (fun hSB1 => ?_)
  clear hK K hBw7
  simp only [Act.put, List.getElem_toArray, List.getElem_cons_zero, List.getElem_cons_succ, List.setIfInBounds_toArray, List.set_cons_zero, List.set_cons_succ]
  refine wpAnyG_one (i := 3) (by kernel_rfl) rfl (fun K hK => ?_)
  rw [if_pos (by rfl)]
  refine step_count (R := fun W => Below wx.heap.size wx W) _ 2 _ _ (by rfl) (by rfl) ((HC2.out _ H7.out).mono fun e W' hp => hp) ?_
  intro w8 hBw8
  have H8 : Hid (Below wx.heap.size wx w8) := hBw8
  refine hK.out _ _ (SB.off (by kernel_rfl) (HT.out w8 hBw8)) (fun hSB3 => ?_)
  clear hK K hBw8
  simp only [Act.put, List.getElem_toArray, List.getElem_cons_zero, List.getElem_cons_succ, List.setIfInBounds_toArray, List.set_cons_zero, List.set_cons_succ]
  refine wpAnyG_takeP (i := 4) (v := ?_) rfl (by kernel_rfl) (by kernel_rfl) (by kernel_rfl) (fun _ _ _ h => h) rfl (Or.inl ⟨by rfl, ?_⟩) (by assumption) ?_
  rotate_left
  · intro Y hY; go_simp; try with_reducible rfl
  intro hSB4
  simp only [Act.put, List.getElem_toArray, List.getElem_cons_zero, List.getElem_cons_succ, List.setIfInBounds_toArray, List.set_cons_zero, List.set_cons_succ]
  refine wpAnyG_takeP (i := 5) (v := ?_) rfl (by kernel_rfl) (by kernel_rfl) (by kernel_rfl) (fun _ _ _ h => h) rfl (Or.inl ⟨by rfl, ?_⟩) (by assumption) ?_
  rotate_left
  · intro Y hY; go_simp; try with_reducible rfl
  intro hSB5
  simp only [Act.put, List.getElem_toArray, List.getElem_cons_zero, List.getElem_cons_succ, List.setIfInBounds_toArray, List.set_cons_zero, List.set_cons_succ]
  refine wpAnyG_takeP (i := 6) (v := ?_) rfl (by kernel_rfl) (by kernel_rfl) (by kernel_rfl) (fun _ _ _ h => h) rfl (Or.inl ⟨by rfl, ?_⟩) (by assumption) ?_
  rotate_left
  · intro Y hY; go_simp; try with_reducible rfl
  intro hSB6
  simp only [Act.put, List.getElem_toArray, List.getElem_cons_zero, List.getElem_cons_succ, List.setIfInBounds_toArray, List.set_cons_zero, List.set_cons_succ]
  refine wpAnyG_done (by kernel_rfl) ?_ _
  clear hSB0 hSB1 hSB2 hSB3 hSB4 hSB5 hSB6
  go_wp2_with fail
  refine bodyPost_ret (v := .tuple #[.int .i64 ((cntP (mrkP os g a b) 1 g.ord : Nat) : Int), .int .i64 ((cntP (mrkP os g a b) 2 g.ord : Nat) : Int), .int .i64 0]) (by simp [results, Tryz.results19, go_sem]) rfl ?_
  exact ⟨rfl, HB.out.trans (H8.out.mono HB.out.size)⟩

/-- what Relation tells -/
def relP (f : Int → Nat) (l : List Int) (a b : Int) : Int := if a = b then 1 else if f b &&& 1 ≠ 0 then 2 else if f a &&& 2 ≠ 0 then 3 else if 0 < cntP f 3 l then 4 else 5
set_option maxRecDepth 100000 in
set_option maxHeartbeats 4000000 in
theorem relation_ok (w : World) (s d : Nat) (os : List Ob) (sz : Nat) (cut : Bool) (F : Nat → Prop) (hS : IsSt w s d os sz cut F) (hos : os.length ≤ 65536) (a b : Int) (ha : 0 ≤ a ∧ a ≤ 18446744073709551615) (hb : 0 ≤ b ∧ b ≤ 18446744073709551615) (g : GS) (hR : ordG os [a, b] GS.none = .ok g) :
    Calls Tryz.prog 20 #[.pointer (some ⟨s, 0, none⟩), .int .u64 a, .int .u64 b] w fun e w' => e = .returned (.tuple #[.int .i64 (relP (mrkP os g a b) g.ord a b), .int .i64 0]) ∧ Below w.heap.size w w' := by
  have hof := ofPair_ok w s d os sz cut F hS hos a b ha hb g hR
  have hle := Nat.le_trans (ord_len hR) hos
  have hrg := ord_rng hR
  have hm8 := mrkP_lt os g a b
  have HA : Hid ((0 ≤ a ∧ a ≤ 18446744073709551615) ∧ 0 ≤ b ∧ b ≤ 18446744073709551615) := ⟨ha, hb⟩
  clear hS ha hb hR
  obtain ⟨f, hf⟩ : ∃ f, mrkP os g a b = f := ⟨_, rfl⟩
  rw [hf] at hm8 ⊢
  go_enter Tryz.func20, Tryz.ntmps20
  go_wp2_with fail
  refine hof.mono ?_
  clear hof
  rintro e w1 ⟨⟨oa, oc, mb, km, rfl, hH⟩, hB1⟩
  obtain ⟨hmk, bH, hB, hI⟩ := pair_box hH hB1
  rw [hf] at hmk
  have hcn := count_any _ f hm8 g.ord oa _ oc mb km hI hrg hmk hle 3
  have hcn : Calls Tryz.prog 42 #[.agg #[.slice oa g.ord.length oc, .map (some mb)], .int .u64 3] (w1.alloc (.cells #[.slice oa g.ord.length oc, .map (some mb)] 90)) fun e w' => e = .returned (.int .i64 ((cntP f 3 g.ord : Nat) : Int)) ∧ Below (w1.alloc (.cells #[.slice oa g.ord.length oc, .map (some mb)] 90)).heap.size (w1.alloc (.cells #[.slice oa g.ord.length oc, .map (some mb)] 90)) w' := hcn
  obtain ⟨c0, c1⟩ := bH.cell
  have hla := hmk.look a HA.out.1.1 HA.out.1.2 _ rfl
  have hlb := hmk.look b HA.out.2.1 HA.out.2.2 _ rfl
  have hab : bits .and .u64 ((f b : Nat) : Int) 1 = ((f b &&& 1 : Nat) : Int) := bits_and (f b) 1 (by have := hm8 b; omega) (by decide)
  have haa : bits .and .u64 ((f a : Nat) : Int) 2 = ((f a &&& 2 : Nat) : Int) := bits_and (f a) 2 (by have := hm8 a; omega) (by decide)
  have HB : Hid (Below w.heap.size w (w1.alloc (.cells #[.slice oa g.ord.length oc, .map (some mb)] 90))) := hB
  have HRel : Hid (∀ r, relP f g.ord a b = r ↔ (if a = b then 1 else if f b &&& 1 ≠ 0 then 2 else if f a &&& 2 ≠ 0 then 3 else if 0 < cntP f 3 g.ord then 4 else 5) = r) := fun r => Iff.rfl
  clear hmk bH hB hI hH hB1 hrg hm8 hle hf
  generalize cntP f 3 g.ord = cn at *
  generalize g.ord.length = no at *
  by_cases h1 : a = b
  · have HE : Hid (relP f g.ord a b = 1) := (HRel.out 1).2 (by rw [if_pos h1])
    clear hcn HRel
    subst h1
    go_wp2
    go_ret2
    exact ⟨by rw [HE.out]; rfl, HB.out⟩
  · have b1 : (a == b) = false := beq_false_of_ne h1
    by_cases h2 : f b &&& 1 = 0
    · rw [h2] at hab
      by_cases h3 : f a &&& 2 = 0
      · rw [h3] at haa
        by_cases h4 : 0 < cn
        · have HE : Hid (relP f g.ord a b = 4) := (HRel.out 4).2 (by rw [if_neg h1, if_neg (by omega), if_neg (by omega), if_pos h4])
          have i4 : (0 : Int) < (cn : Int) := by omega
          clear HRel h1 h2 h3
          go_wp2_with (go_at_call 42; refine hcn.mono ?_; clear hcn; rintro e w3 ⟨rfl, hB3⟩; have H3 : Hid (Below w.heap.size w w3) := HB.out.trans (hB3.mono HB.out.size); clear hB3)
          go_ret2
          exact ⟨by rw [HE.out]; rfl, H3.out⟩
        · have HE : Hid (relP f g.ord a b = 5) := (HRel.out 5).2 (by rw [if_neg h1, if_neg (by omega), if_neg (by omega), if_neg h4])
          have i4 : ¬ (0 : Int) < (cn : Int) := by omega
          clear HRel h1 h2 h3
          go_wp2_with (go_at_call 42; refine hcn.mono ?_; clear hcn; rintro e w3 ⟨rfl, hB3⟩; have H3 : Hid (Below w.heap.size w w3) := HB.out.trans (hB3.mono HB.out.size); clear hB3)
          go_ret2
          exact ⟨by rw [HE.out]; rfl, H3.out⟩
      · have HE : Hid (relP f g.ord a b = 3) := (HRel.out 3).2 (by rw [if_neg h1, if_neg (by omega), if_pos h3])
        have b3 : (((f a &&& 2 : Nat) : Int) == 0) = false := beq_false_of_ne (by omega)
        clear HRel h1 h2 h3 hcn
        generalize f a &&& 2 = fa at *
        go_wp2
        go_ret2
        exact ⟨by rw [HE.out]; rfl, HB.out⟩
    · have HE : Hid (relP f g.ord a b = 2) := (HRel.out 2).2 (by rw [if_neg h1, if_pos h2])
      have b2 : (((f b &&& 1 : Nat) : Int) == 0) = false := beq_false_of_ne (by omega)
      clear HRel h1 h2 hcn
      generalize f b &&& 1 = fb at *
      go_wp2
      go_ret2
      exact ⟨by rw [HE.out]; rfl, HB.out⟩
end Go.Proofs.YtncagdfbgpdhfaaGreat

/- Steps of a region that draws: a call by its contract, ids appended to a row of one's own. -/
namespace Go.Proofs.YtncagdfbgpdhfaaGreat
open Go.RowKit Go.Maps

theorem own_idsG {W : World} {B n : Nat} {v : Value} {l : List Int} (h : W.ownsRow B 31 1 v n (l.map (Value.int .u64))) : ∃ ad c, v = .slice ad n c ∧ Ids W ad n l := by
  have hn : l.length = n := by have := h.1; rw [List.length_map] at this; omega
  subst hn
  exact own_ids h
section
variable {P : Program} {ops : Array Oper} {Q : Exit → Act → World → Prop} {md : Region.Mode} {S : Array Bool → World → Prop}
end
end Go.Proofs.YtncagdfbgpdhfaaGreat

/- What a history of the laws of layer 12 gives to the calls behind it; the facts of ParentsLeast as one. -/
namespace Go.Proofs.YtncagdfbgpdhfaaGreat
open Go.RowKit Go.Maps

theorem Brs12.below {w w' : World} {a : Option Addr} {n : Nat} {l : List BornD} (h : Brs12 w a n l) (hB : Below w.heap.size w w') : Brs12 w' a n l :=
  ⟨h.1, fun h0 => by
    obtain ⟨b, off, e, hc⟩ := h.2 h0
    refine ⟨b, off, e, fun j x hx => ?_⟩
    obtain ⟨ba, bn, bc, c0, c1, c2, c3, hi, h1, h2, h3⟩ := hc j x hx
    exact ⟨ba, bn, bc, (hB.cell (p := ⟨b, off + j * 4, none⟩) (World.block_lt_of_cell? w _ c0)).trans c0, (hB.cell (p := ⟨b, off + j * 4 + 1, none⟩) (World.block_lt_of_cell? w _ c1)).trans c1, (hB.cell (p := ⟨b, off + j * 4 + 2, none⟩) (World.block_lt_of_cell? w _ c2)).trans c2, (hB.cell (p := ⟨b, off + j * 4 + 3, none⟩) (World.block_lt_of_cell? w _ c3)).trans c3, hi.below hB, h1, h2, h3⟩⟩
theorem In12.env {w wr : World} {hb s d : Nat} {st : St12} {S : DG} {F G X : Nat → Prop} {nv iv : Value} {ns : List Nd} (I : In12 w wr hb s d st S F G X nv iv ns) : ∃ ia ic, iv = .slice ia st.ids.length ic ∧ ∀ W, Below wr.heap.size wr W → (W.cell? ⟨hb, 0, none⟩ = some (.pointer (some ⟨s, 0, none⟩)) ∧ W.cell? ⟨hb, 2, none⟩ = some (.slice ia st.ids.length ic)) ∧ Ids W ia st.ids.length st.ids ∧ IsSt W s d st.os (fileB (st.os.map obB)).length false F := by
  obtain ⟨ia, ic, e2, _, _⟩ := row_shapeN I.ir
  subst e2
  refine ⟨ia, ic, rfl, fun W hW => ?_⟩
  have J := I.below hW
  obtain ⟨x1, x2, x3, x4⟩ := own_ids J.ir
  cases x3
  exact ⟨⟨J.c0, J.c2⟩, x4, J.sg.st⟩
open Classical in
noncomputable def ancB (os : List Ob) (x y : Int) : Bool := decide (Anc (parsO os) x y)
theorem ancB_iff (os : List Ob) (x y : Int) : ancB os x y = true ↔ Anc (parsO os) x y := by unfold ancB; classical exact decide_eq_true_iff
theorem led_step {os : List Ob} {x y : Int} {R : List Int} {k : Nat} (hy : R[k]? = some y) : (R.take (k + 1)).any (ancB os x) = ((R.take k).any (ancB os x) || ancB os x y) := by
  obtain ⟨h2, h3⟩ := List.getElem?_eq_some_iff.1 hy
  rw [List.take_succ_eq_append_getElem h2, List.any_append, h3]
  simp
end Go.Proofs.YtncagdfbgpdhfaaGreat

/- ParentsBases, plain: bases, relations and how far two commits have gone apart, by ancestors. -/
namespace Go.Proofs.YtncagdfbgpdhfaaGreat
open Go.RowKit Go.Maps

theorem mk8_7 : ∀ a : Fin 8, (((a : Nat) &&& 7 == 3) = true ↔ (a : Nat).testBit 0 = true ∧ (a : Nat).testBit 1 = true ∧ (a : Nat).testBit 2 = false) := by decide
theorem mk8_1 : ∀ a : Fin 8, (((a : Nat) &&& 3 == 1) = true ↔ (a : Nat).testBit 0 = true ∧ (a : Nat).testBit 1 = false) := by decide
theorem mk8_2 : ∀ a : Fin 8, (((a : Nat) &&& 3 == 2) = true ↔ (a : Nat).testBit 1 = true ∧ (a : Nat).testBit 0 = false) := by decide
theorem mk8_3 : ∀ a : Fin 8, (((a : Nat) &&& 3 == 3) = true ↔ (a : Nat).testBit 0 = true ∧ (a : Nat).testBit 1 = true) := by decide
theorem mk8_b0 : ∀ a : Fin 8, ((a : Nat) &&& 1 ≠ 0 ↔ (a : Nat).testBit 0 = true) := by decide
theorem mk8_b1 : ∀ a : Fin 8, ((a : Nat) &&& 2 ≠ 0 ↔ (a : Nat).testBit 1 = true) := by decide
section
variable {os : List Ob} {a b : Int} {g : GS}
theorem mrk_bits (h : ordG os [a, b] GS.none = .ok g) (x : Int) : ((mrkP os g a b x).testBit 0 = true ↔ Anc (parsO os) x a) ∧ ((mrkP os g a b x).testBit 1 = true ↔ Anc (parsO os) x b) ∧
    ((mrkP os g a b x).testBit 2 = true ↔ ∃ y, Anc (parsO os) y a ∧ Anc (parsO os) y b ∧ Anc (parsO os) x y ∧ x ≠ y) := pair_marks h x
theorem pair_mem (h : ordG os [a, b] GS.none = .ok g) : a ∈ g.ord ∧ b ∈ g.ord := ⟨ord_heads h a (by simp), ord_heads h b (by simp)⟩
theorem anc_ord (h : ordG os [a, b] GS.none = .ok g) {x : Int} (hx : Anc (parsO os) x a ∨ Anc (parsO os) x b) : x ∈ g.ord :=
  hx.elim (fun k => k.mem (ord_inv h).topo (pair_mem h).1) (fun k => k.mem (ord_inv h).topo (pair_mem h).2)
theorem basP_mem (h : ordG os [a, b] GS.none = .ok g) (x : Int) : x ∈ basP os g a b ↔ Anc (parsO os) x a ∧ Anc (parsO os) x b ∧ ∀ y, Anc (parsO os) y a → Anc (parsO os) y b → Anc (parsO os) x y → x = y := by
  obtain ⟨b0, b1, b2⟩ := mrk_bits h x
  have hk := mk8_7 ⟨mrkP os g a b x, mrkP_lt os g a b x⟩
  simp only at hk
  unfold basP
  rw [List.mem_filter, hk, b0, b1]
  constructor
  · rintro ⟨_, h0, h1, h2⟩
    refine ⟨h0, h1, fun y hy1 hy2 hy3 => Classical.byContradiction fun e => ?_⟩
    rw [b2.2 ⟨y, hy1, hy2, hy3, e⟩] at h2
    cases h2
  · rintro ⟨h0, h1, h2⟩
    refine ⟨anc_ord h (.inl h0), h0, h1, ?_⟩
    rw [← Bool.not_eq_true, b2]
    rintro ⟨y, hy1, hy2, hy3, e⟩
    exact e (h2 y hy1 hy2 hy3)
theorem basP_nodup (h : ordG os [a, b] GS.none = .ok g) : (basP os g a b).Nodup := nodup_filter _ (ord_inv h).nd
theorem basP_ord : ∀ x ∈ basP os g a b, x ∈ g.ord := fun _ hx => (List.mem_filter.1 hx).1
theorem basP_red (h : ordG os [a, b] GS.none = .ok g) : ∃ g2, ordG os (basP os g a b) GS.none = .ok g2 ∧ redP os g2 (basP os g a b) = basP os g a b := by
  obtain ⟨g2, h2, _⟩ := ord_within h (m := basP os g a b) basP_ord
  refine ⟨g2, h2, ?_⟩
  have hm : ∀ x ∈ basP os g a b, x ∈ redP os g2 (basP os g a b) := fun x hx => (redP_mem h2 x).2 ⟨hx, fun y hy hA => ((basP_mem h x).1 hx).2.2 y ((basP_mem h y).1 hy).1 ((basP_mem h y).1 hy).2.1 hA⟩
  have hB : ∀ x ∈ basP os g a b, (fun x => (spr (psO os) 1 g2.ord.reverse (listM (basP os g a b)) x).testBit 2) x = false := fun x hx => ((redG_mem x _ _).1 (hm x hx)).2.1
  exact redG_all (basP os g a b) [] (basP_nodup h) (fun x hx => ⟨hB x hx, by simp⟩)
/-- a common ancestor leads to a base, and all that leads to one is a common ancestor -/
theorem basP_led (h : ordG os [a, b] GS.none = .ok g) (c : Int) : (basP os g a b).any (ancB os c) = (ancB os c a && ancB os c b) := by
  rw [Bool.eq_iff_iff, List.any_eq_true, Bool.and_eq_true, ancB_iff, ancB_iff]
  constructor
  · rintro ⟨z, hz, hA⟩
    rw [ancB_iff] at hA
    obtain ⟨h1, h2, _⟩ := (basP_mem h z).1 hz
    exact ⟨hA.trans h1, hA.trans h2⟩
  · rintro ⟨h1, h2⟩
    obtain ⟨y, ⟨hy1, hy2, hy3⟩, hm⟩ := base_some h (fun z => Anc (parsO os) z a ∧ Anc (parsO os) z b ∧ Anc (parsO os) c z) (fun z hz => anc_ord h (.inl hz.1)) ⟨h1, h2, .refl⟩
    exact ⟨y, (basP_mem h y).2 ⟨hy1, hy2, fun z hz1 hz2 hz3 => hm z ⟨hz1, hz2, hy3.trans hz3⟩ hz3⟩, (ancB_iff _ _ _).2 hy3⟩
theorem basP_some (h : ordG os [a, b] GS.none = .ok g) : basP os g a b ≠ [] ↔ ∃ c, Anc (parsO os) c a ∧ Anc (parsO os) c b := by
  constructor
  · intro hne
    obtain ⟨z, hz⟩ := List.exists_mem_of_ne_nil _ hne
    exact ⟨z, ((basP_mem h z).1 hz).1, ((basP_mem h z).1 hz).2.1⟩
  · rintro ⟨c, h1, h2⟩ e
    have := basP_led h c
    rw [e, (ancB_iff _ _ _).2 h1, (ancB_iff _ _ _).2 h2] at this
    cases this
theorem cnt1_zero (h : ordG os [a, b] GS.none = .ok g) : cntP (mrkP os g a b) 1 g.ord = 0 ↔ Anc (parsO os) a b := by
  unfold cntP
  rw [List.length_eq_zero_iff, List.filter_eq_nil_iff]
  have hk := fun x => mk8_1 ⟨mrkP os g a b x, mrkP_lt os g a b x⟩
  simp only at hk
  constructor
  · intro hn
    have h1 := hn a (pair_mem h).1
    rw [hk, (mrk_bits h a).1] at h1
    refine Classical.byContradiction fun e => h1 ⟨.refl, ?_⟩
    rw [← Bool.not_eq_true, (mrk_bits h a).2.1]
    exact e
  · intro hA x _ h1
    rw [hk, (mrk_bits h x).1] at h1
    have h2 := (mrk_bits h x).2.1.2 (h1.1.trans hA)
    rw [h1.2] at h2
    cases h2
theorem cnt2_zero (h : ordG os [a, b] GS.none = .ok g) : cntP (mrkP os g a b) 2 g.ord = 0 ↔ Anc (parsO os) b a := by
  unfold cntP
  rw [List.length_eq_zero_iff, List.filter_eq_nil_iff]
  have hk := fun x => mk8_2 ⟨mrkP os g a b x, mrkP_lt os g a b x⟩
  simp only at hk
  constructor
  · intro hn
    have h1 := hn b (pair_mem h).2
    rw [hk, (mrk_bits h b).2.1] at h1
    refine Classical.byContradiction fun e => h1 ⟨.refl, ?_⟩
    rw [← Bool.not_eq_true, (mrk_bits h b).1]
    exact e
  · intro hA x _ h1
    rw [hk, (mrk_bits h x).2.1] at h1
    have h2 := (mrk_bits h x).1.2 (h1.1.trans hA)
    rw [h1.2] at h2
    cases h2
theorem cnt3_pos (h : ordG os [a, b] GS.none = .ok g) : 0 < cntP (mrkP os g a b) 3 g.ord ↔ ∃ c, Anc (parsO os) c a ∧ Anc (parsO os) c b := by
  unfold cntP
  rw [List.length_pos_iff_exists_mem]
  have hk := fun x => mk8_3 ⟨mrkP os g a b x, mrkP_lt os g a b x⟩
  simp only at hk
  constructor
  · rintro ⟨x, hx⟩
    have h1 := (List.mem_filter.1 hx).2
    rw [hk, (mrk_bits h x).1, (mrk_bits h x).2.1] at h1
    exact ⟨x, h1⟩
  · rintro ⟨c, h1, h2⟩
    refine ⟨c, List.mem_filter.2 ⟨anc_ord h (.inl h1), ?_⟩⟩
    rw [hk, (mrk_bits h c).1, (mrk_bits h c).2.1]
    exact ⟨h1, h2⟩
theorem rel_ahead (h : ordG os [a, b] GS.none = .ok g) (hne : a ≠ b) (hA : Anc (parsO os) b a) : relP (mrkP os g a b) g.ord a b = 2 := by
  unfold relP
  have hk := (mk8_b0 ⟨mrkP os g a b b, mrkP_lt os g a b b⟩).2 ((mrk_bits h b).1.2 hA)
  simp only at hk
  rw [if_neg hne, if_pos hk]
theorem rel_behind (h : ordG os [a, b] GS.none = .ok g) (hne : a ≠ b) (hN : ¬ Anc (parsO os) b a) (hA : Anc (parsO os) a b) : relP (mrkP os g a b) g.ord a b = 3 := by
  unfold relP
  have hk := (mk8_b1 ⟨mrkP os g a b a, mrkP_lt os g a b a⟩).2 ((mrk_bits h a).2.1.2 hA)
  have hn : ¬ mrkP os g a b b &&& 1 ≠ 0 := fun e => hN ((mrk_bits h b).1.1 ((mk8_b0 ⟨mrkP os g a b b, mrkP_lt os g a b b⟩).1 e))
  simp only at hk
  rw [if_neg hne, if_neg hn, if_pos hk]
theorem rel_parted (h : ordG os [a, b] GS.none = .ok g) (hne : a ≠ b) (hN : ¬ Anc (parsO os) b a) (hM : ¬ Anc (parsO os) a b) (hC : ∃ c, Anc (parsO os) c a ∧ Anc (parsO os) c b) : relP (mrkP os g a b) g.ord a b = 4 := by
  unfold relP
  have hm : ¬ mrkP os g a b a &&& 2 ≠ 0 := fun e => hM ((mrk_bits h a).2.1.1 ((mk8_b1 ⟨mrkP os g a b a, mrkP_lt os g a b a⟩).1 e))
  have hn : ¬ mrkP os g a b b &&& 1 ≠ 0 := fun e => hN ((mrk_bits h b).1.1 ((mk8_b0 ⟨mrkP os g a b b, mrkP_lt os g a b b⟩).1 e))
  rw [if_neg hne, if_neg hn, if_neg hm, if_pos ((cnt3_pos h).2 hC)]
theorem rel_alien (h : ordG os [a, b] GS.none = .ok g) (hne : a ≠ b) (hN : ¬ Anc (parsO os) b a) (hM : ¬ Anc (parsO os) a b) (hC : ¬ ∃ c, Anc (parsO os) c a ∧ Anc (parsO os) c b) : relP (mrkP os g a b) g.ord a b = 5 := by
  unfold relP
  have hm : ¬ mrkP os g a b a &&& 2 ≠ 0 := fun e => hM ((mrk_bits h a).2.1.1 ((mk8_b1 ⟨mrkP os g a b a, mrkP_lt os g a b a⟩).1 e))
  have hn : ¬ mrkP os g a b b &&& 1 ≠ 0 := fun e => hN ((mrk_bits h b).1.1 ((mk8_b0 ⟨mrkP os g a b b, mrkP_lt os g a b b⟩).1 e))
  rw [if_neg hne, if_neg hn, if_neg hm, if_neg (fun e => hC ((cnt3_pos h).1 e))]
theorem one_only {l : List Int} {x : Int} (hn : l.Nodup) (h : ∀ y, y ∈ l ↔ y = x) : l = [x] := by
  match l, hn with
  | [], _ => exact absurd ((h x).2 rfl) (by simp)
  | [y], _ => rw [(h y).1 (by simp)]
  | y :: z :: r, hn =>
    have h1 := (h y).1 (by simp)
    have h2 := (h z).1 (by simp)
    rw [h1, h2] at hn
    simp at hn
theorem base_ahead (h : ordG os [a, b] GS.none = .ok g) (hA : Anc (parsO os) b a) : basP os g a b = [b] :=
  one_only (basP_nodup h) fun y => by
    rw [basP_mem h]
    constructor
    · rintro ⟨_, h2, h3⟩
      exact h3 b hA .refl h2
    · rintro rfl
      exact ⟨hA, .refl, fun z hz1 hz2 hz3 => hz3.anti (ord_inv h).topo (ord_inv h).nd hz2 (anc_ord h (.inl hz1))⟩
theorem base_behind (h : ordG os [a, b] GS.none = .ok g) (hA : Anc (parsO os) a b) : basP os g a b = [a] :=
  one_only (basP_nodup h) fun y => by
    rw [basP_mem h]
    constructor
    · rintro ⟨h1, _, h3⟩
      exact h3 a .refl hA h1
    · rintro rfl
      exact ⟨.refl, hA, fun z hz1 hz2 hz3 => hz3.anti (ord_inv h).topo (ord_inv h).nd hz1 (anc_ord h (.inl hz1))⟩
/-- how two commits stand to each other: five ways -/
def Ways5 (r r2 : Int) (n m : Nat) (B : List Int) (a b : Int) : Prop :=
  (r = 1 ∧ r2 = 1 ∧ n = 0 ∧ m = 0 ∧ B ≠ []) ∨ (r = 2 ∧ r2 = 3 ∧ 0 < n ∧ m = 0 ∧ B = [b]) ∨ (r = 3 ∧ r2 = 2 ∧ n = 0 ∧ 0 < m ∧ B = [a]) ∨ (r = 4 ∧ r2 = 4 ∧ 0 < n ∧ 0 < m ∧ B ≠ []) ∨ (r = 5 ∧ r2 = 5 ∧ 0 < n ∧ 0 < m ∧ B = [])
theorem ways5 {g2 : GS} (h : ordG os [a, b] GS.none = .ok g) (h2 : ordG os [b, a] GS.none = .ok g2) : Ways5 (relP (mrkP os g a b) g.ord a b) (relP (mrkP os g2 b a) g2.ord b a) (cntP (mrkP os g a b) 1 g.ord) (cntP (mrkP os g a b) 2 g.ord) (basP os g a b) a b := by
  have c1 := cnt1_zero h
  have c2 := cnt2_zero h
  have pos : ∀ {k : Nat} {P : Prop}, (k = 0 ↔ P) → ¬ P → 0 < k := fun hk hP => Nat.pos_of_ne_zero fun e => hP (hk.1 e)
  by_cases hab : a = b
  · subst hab
    exact .inl ⟨by simp [relP], by simp [relP], c1.2 .refl, c2.2 .refl, (basP_some h).2 ⟨a, .refl, .refl⟩⟩
  · have hba : b ≠ a := fun e => hab e.symm
    by_cases hB : Anc (parsO os) b a
    · have hA : ¬ Anc (parsO os) a b := fun hA => hab (hA.anti (ord_inv h).topo (ord_inv h).nd hB (pair_mem h).2)
      exact .inr (.inl ⟨rel_ahead h hab hB, rel_behind h2 hba hA hB, pos c1 hA, c2.2 hB, base_ahead h hB⟩)
    · by_cases hA : Anc (parsO os) a b
      · exact .inr (.inr (.inl ⟨rel_behind h hab hB hA, rel_ahead h2 hba hA, c1.2 hA, pos c2 hB, base_behind h hA⟩))
      · by_cases hC : ∃ c, Anc (parsO os) c a ∧ Anc (parsO os) c b
        · exact .inr (.inr (.inr (.inl ⟨rel_parted h hab hB hA hC, rel_parted h2 hba hA hB (by obtain ⟨c, x, y⟩ := hC; exact ⟨c, y, x⟩), pos c1 hA, pos c2 hB, (basP_some h).2 hC⟩)))
        · exact .inr (.inr (.inr (.inr ⟨rel_alien h hab hB hA hC, rel_alien h2 hba hA hB (fun ⟨c, x, y⟩ => hC ⟨c, y, x⟩), pos c1 hA, pos c2 hB, Classical.byContradiction fun e => hC ((basP_some h).1 e)⟩)))
end
/-- all that the law asks of two commits -/
structure BF (os : List Ob) (a b : Int) (O B : List Int) (r r2 : Int) (n m : Nat) : Prop where
  ways : Ways5 r r2 n m B a b
  rngO : ∀ x ∈ O, 0 ≤ x ∧ x ≤ 18446744073709551615
  sub : ∀ x ∈ B, x ∈ O
  lenO : O.length ≤ os.length
  len : B.length ≤ O.length
  red : ∃ g2, ordG os B GS.none = .ok g2 ∧ redP os g2 B = B
  anc : ∀ x ∈ O, ∀ y ∈ O, ∃ gx, ordG os [x, y] GS.none = .ok gx ∧ (decide (0 < linesG os gx.ord x y) = true ↔ Anc (parsO os) x y)
  ha : a ∈ O
  hb : b ∈ O
  led : ∀ c, B.any (ancB os c) = (ancB os c a && ancB os c b)
theorem bases_facts {os : List Ob} {a b : Int} {g g2 : GS} (h : ordG os [a, b] GS.none = .ok g) (h2 : ordG os [b, a] GS.none = .ok g2) : BF os a b g.ord (basP os g a b) (relP (mrkP os g a b) g.ord a b) (relP (mrkP os g2 b a) g2.ord b a) (cntP (mrkP os g a b) 1 g.ord) (cntP (mrkP os g a b) 2 g.ord) where
  ways := ways5 h h2
  rngO := ord_rng h
  sub := basP_ord
  lenO := ord_len h
  len := List.length_filter_le _ _
  red := basP_red h
  anc := fun _ hx _ hy => anc_at h hx hy
  ha := (pair_mem h).1
  hb := (pair_mem h).2
  led := basP_led h
theorem anc_callB (W : World) (s d : Nat) (os : List Ob) (sz : Nat) (cut : Bool) (F : Nat → Prop) (hS : IsSt W s d os sz cut F) (hos : os.length ≤ 65536) {a b : Int} {O B : List Int} {r r2 : Int} {n m : Nat} (hF : BF os a b O B r r2 n m) {x y : Int} (hx : x ∈ O) (hy : y ∈ O) :
    Calls Tryz.prog 24 #[.pointer (some ⟨s, 0, none⟩), .int .u64 x, .int .u64 y] W fun e w' => e = .returned (.tuple #[.bool (ancB os x y), .int .i64 0]) ∧ Below W.heap.size W w' := by
  obtain ⟨gx, h1, h2⟩ := hF.anc x hx y hy
  have h := ancestor_any W s d os sz cut F hS hos x y (hF.rngO x hx) (hF.rngO y hy)
  rw [h1] at h
  have e : decide (0 < linesG os gx.ord x y) = ancB os x y := by
    rw [Bool.eq_iff_iff, h2, ancB_iff]
  refine h.mono fun e' w' hh => ⟨?_, hh.1⟩
  have := hh.2
  rw [← e]
  exact this
theorem ord_turn {os : List Ob} {a b : Int} {g : GS} (h : ordG os [a, b] GS.none = .ok g) : ∃ g2, ordG os [b, a] GS.none = .ok g2 := by
  obtain ⟨g2, h2, _⟩ := ord_within h (m := [b, a]) (fun x hx => by
    simp at hx
    rcases hx with rfl | rfl
    · exact (pair_mem h).2
    · exact (pair_mem h).1)
  exact ⟨g2, h2⟩
end Go.Proofs.YtncagdfbgpdhfaaGreat
