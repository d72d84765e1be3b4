/- Proved here: for every slice of bytes the law OctetOne returns true, and its argument reads as before. No condition. -/
import Derived.Test.YtkfmihbbmafolaaLaw
import Derived.Test.YtkfmihbbmafolaaPut
import Derived.Test.YtkfmihbbmafolaaStr
import Derived.Test.YtkfmihbbmafolaaNumBack
import Derived.Deep.RegionHeld3
namespace Go.Proofs.Ytkfmihbbmafolaa
open Go.ChangeShapes Go.WideShapes Go.ChangeAt Go.RowKit

theorem bytes_none (w : World) : Bytes w none 0 [] := ⟨rfl, fun h => by omega⟩

theorem below_grown {w W w7 : World} (hg : W.grownBy w7 none) (h : Below w.heap.size w W) : Below w.heap.size w w7 := h.grown hg h.size (by simp)

/-- a condition that says more serves as well -/
theorem wpAnyH_weaken {P : Program} {md : Region.Mode} {ops : Array Oper} {Q : Exit → Act → World → Prop} {S T : World → Prop} (hST : ∀ W, T W → S W) :
    ∀ (fuel : Nat) (listed : Array Bool) (a : Act) (w : World), wpAnyH P md ops Q T fuel listed a w → wpAnyH P md ops Q S fuel listed a w
  | 0, _, _, _, h => h
  | fuel + 1, _, _, _, h => ⟨h.1, fun i hi => wpOp_mono (fun a' w' h' => ⟨hST w' h'.1, wpAnyH_weaken hST fuel _ a' w' h'.2⟩) (h.2 i hi)⟩

/-- what PutUint made, as a string -/
theorem run_string_put {w' : World} {B g n c : Nat} {x : Nat} {sx : List UInt8} (hs : short x = sx) (h : w'.ownsRow B 5 1 (.slice (some ⟨g, 0, none⟩) (0 + n) c) (0 + n) (cellsOf ([] ++ short x))) :
    (convert 22 9 (.slice (some ⟨g, 0, none⟩) n c)).run Try.prog w' = .ok (.string ⟨sx.toArray⟩) w' := by
  rw [hs, List.nil_append, Nat.zero_add] at h
  exact run_string w' _ n c sx (ownsRow_bytes h).1

set_option maxRecDepth 20000 in
set_option maxHeartbeats 400000 in
theorem octetOne_yes (b off n cap X k : Nat) (l : List UInt8) (w : World) (hb : Bytes w (some ⟨b, off, none⟩) n l) (hcap : n ≤ cap) (hm : n ≤ 140737488351232) (hnum : num l = ((X : Int), k, 0))
    (hs : short X = l.take k) (hk1 : 1 ≤ k) (hk10 : k ≤ 10) (hkn : k ≤ n) (hX64 : X < 18446744073709551616) :
    Calls Try.prog 8 #[.slice (some ⟨b, off, none⟩) n cap] w fun e w' => e = .returned (.bool true) ∧ Below w.heap.size w w' := by
  have Hl : Hid (l.length = n) := hb.1
  have Hnum : Hid (num (l.drop 0) = ((X : Int), k, 0)) := hnum
  have hbk := hb.take k hkn
  rw [← hs] at hbk
  have hsl : (short X).length = k := hbk.1
  have hstr : ∀ W : World, Below w.heap.size w W → (convert 22 9 (.slice (some ⟨b, off, none⟩) k cap)).run Try.prog W = .ok (.string ⟨(short X).toArray⟩) W :=
    fun W hW => run_string W _ k cap _ (hbk.below hW)
  have Hsl : Hid ((short X).length = k) := hsl
  clear hs hnum hsl hbk
  generalize hsx : short X = sx at *
  have Hsx : Hid (short X = sx) := hsx
  clear hsx
  go_enter Try.func8, Try.ntmps8
  go_wp2_with fail
  refine (wakes_any _).mono ?_
  rintro e w1 ⟨rfl, B1⟩
  go_wp2_with fail
  refine (read_any _ n cap l _ (hb.below B1) (by omega)).mono ?_
  rintro e w2 ⟨r, g, rfl, hr, hg, hrd, hgr⟩
  have B2 : Below w.heap.size w w2 := B1.grown hgr B1.size (by simp)
  have hr' : w.heap.size ≤ r := Nat.le_trans B1.size hr
  clear hr hg hgr B1 hb
  go_wp2_with fail
  refine (wakes_any _).mono ?_
  rintro e w3 ⟨rfl, B3⟩
  have hrd3 : Rd w3 r g 0 0 l := hrd.kept (grownBy_of_below B3) (by simp) (by simp)
  have B3' := below_more B2 B3
  clear B2 B3 hrd
  go_wp2_with fail
  refine (uint_yes _ r g 0 l hrd3 (by rw [Hnum.out])).mono ?_
  rw [Hnum.out]
  rintro e w4 ⟨rfl, hrd4, hgr⟩
  rw [Nat.zero_add] at hrd4
  have B4 : Below w.heap.size w w4 := B3'.grown hgr B3'.size (by simpa using hr')
  clear hgr B3' hrd3
  go_wp2_with fail
  refine (err_any _ r 0 hrd4.c1).mono ?_
  rintro e w5 ⟨rfl, rfl⟩
  go_wp2_with fail
  refine (left_any _ r g k (n - k) 0 l hrd4 (by have := Hl.out; omega)).mono ?_
  rintro e w6 ⟨rfl, j, hw6⟩
  have B6 : Below w.heap.size w w6 := by rw [hw6]; exact B4.grown (grownBy_drewN _ _ none) B4.size (by simp)
  clear B4 hrd4 hw6 hr'
  have q1 : (n : Int) - ((n - k : Nat) : Int) = (k : Int) := by omega
  have i0 : (0 : Int) ≤ (k : Int) := by omega
  have i1 : (k : Int) ≤ (cap : Int) := by omega
  have d1 : decide ((1 : Int) ≤ (k : Int)) = true := by simp; omega
  have d2 : decide ((k : Int) ≤ (10 : Int)) = true := by simp; omega
  go_wp2_with fail
  refine wp_region_held_drew (S := fun W => Below w.heap.size w W) (by kernel_rfl) B6.drew (fun hHeld => ?_)
  refine wpAnyH_take (i := 0) (v := ?_) rfl (by kernel_rfl) (by kernel_rfl) (by kernel_rfl) (fun _ _ _ h => h) (Or.inl ⟨by rfl, ?_⟩) (by assumption) ?_
  rotate_left
  · intro W hS; go_simp; try with_reducible rfl
  simp only [Act.put, List.getElem_toArray, List.getElem_cons_zero, List.setIfInBounds_toArray, List.set_cons_zero, List.set_cons_succ]
  refine wpAnyH_take (i := 1) (v := ?_) rfl (by kernel_rfl) (by kernel_rfl) (by kernel_rfl) (fun _ _ _ h => h) (Or.inl ⟨by rfl, ?_⟩) (by assumption) ?_
  rotate_left
  · intro W hS; go_simp; try with_reducible rfl
  simp only [Act.put, List.getElem_toArray, List.getElem_cons_zero, List.getElem_cons_succ, List.setIfInBounds_toArray, List.set_cons_zero, List.set_cons_succ]
  refine wpAnyH_take (i := 2) (v := ?_) rfl (by kernel_rfl) (by kernel_rfl) (by kernel_rfl) (fun _ _ _ h => h) (Or.inl ⟨by rfl, ?_⟩) (by assumption) ?_
  rotate_left
  · intro W hS; go_simp; try with_reducible rfl
  simp only [Act.put, List.getElem_toArray, List.getElem_cons_zero, List.getElem_cons_succ, List.setIfInBounds_toArray, List.set_cons_zero, List.set_cons_succ]
  refine wpAnyH_take (i := 3) (v := ?_) rfl (by kernel_rfl) (by kernel_rfl) (by kernel_rfl) (fun _ _ _ h => h) (Or.inl ⟨by rfl, ?_⟩) (by assumption) ?_
  rotate_left
  · intro W hS; go_simp; try with_reducible rfl
  simp only [Act.put, List.getElem_toArray, List.getElem_cons_zero, List.getElem_cons_succ, List.setIfInBounds_toArray, List.set_cons_zero, List.set_cons_succ]
  refine wpAnyH_take (i := 4) (v := ?_) rfl (by kernel_rfl) (by kernel_rfl) (by kernel_rfl) (fun _ _ _ h => h) (Or.inl ⟨by rfl, ?_⟩) (by assumption) ?_
  rotate_left
  · intro W hS; go_simp; try with_reducible rfl
  simp only [Act.put, List.getElem_toArray, List.getElem_cons_zero, List.getElem_cons_succ, List.setIfInBounds_toArray, List.set_cons_zero, List.set_cons_succ]
  refine wpAnyH_take (i := 5) (v := ?_) rfl (by kernel_rfl) (by kernel_rfl) (by kernel_rfl) (fun _ _ _ h => h) (Or.inl ⟨by rfl, ?_⟩) (by assumption) ?_
  rotate_left
  · intro W hS; go_simp; try with_reducible rfl
  simp only [Act.put, List.getElem_toArray, List.getElem_cons_zero, List.getElem_cons_succ, List.setIfInBounds_toArray, List.set_cons_zero, List.set_cons_succ]
  refine wpAnyH_take (i := 6) (v := ?_) rfl (by kernel_rfl) (by kernel_rfl) (by kernel_rfl) (fun _ _ _ h => h) (Or.inl ⟨by rfl, ?_⟩) (by assumption) ?_
  rotate_left
  · intro W hS; go_simp; try with_reducible rfl
  simp only [Act.put, List.getElem_toArray, List.getElem_cons_zero, List.getElem_cons_succ, List.setIfInBounds_toArray, List.set_cons_zero, List.set_cons_succ]
  refine wpAnyH_take (i := 7) (v := ?_) rfl (by kernel_rfl) (by kernel_rfl) (by kernel_rfl) (fun _ _ _ h => h) (Or.inl ⟨by rfl, ?_⟩) (by assumption) ?_
  rotate_left
  · intro W hS; go_simp; try with_reducible rfl
  simp only [Act.put, List.getElem_toArray, List.getElem_cons_zero, List.getElem_cons_succ, List.setIfInBounds_toArray, List.set_cons_zero, List.set_cons_succ]
  refine wpAnyH_take (i := 10) (v := ?_) rfl (by kernel_rfl) (by kernel_rfl) (by kernel_rfl) (fun _ _ _ h => h) (Or.inl ⟨by rfl, ?_⟩) (by assumption) ?_
  rotate_left
  · intro W hS; go_simp; try with_reducible rfl
  simp only [Act.put, List.getElem_toArray, List.getElem_cons_zero, List.getElem_cons_succ, List.setIfInBounds_toArray, List.set_cons_zero, List.set_cons_succ]
  refine wpAnyH_take (i := 11) (v := ?_) rfl (by kernel_rfl) (by kernel_rfl) (by kernel_rfl) (fun _ _ _ h => h) (Or.inl ⟨by rfl, ?_⟩) (by assumption) ?_
  rotate_left
  · intro W hS; go_simp; try with_reducible rfl
  simp only [Act.put, List.getElem_toArray, List.getElem_cons_zero, List.getElem_cons_succ, List.setIfInBounds_toArray, List.set_cons_zero, List.set_cons_succ]
  refine wpAnyH_take (i := 12) (v := ?_) rfl (by kernel_rfl) (by kernel_rfl) (by kernel_rfl) (fun _ _ _ h => h) (Or.inl ⟨by rfl, ?_⟩) (by assumption) ?_
  rotate_left
  · intro W hS; go_simp; try with_reducible rfl
  simp only [Act.put, List.getElem_toArray, List.getElem_cons_zero, List.getElem_cons_succ, List.setIfInBounds_toArray, List.set_cons_zero, List.set_cons_succ]
  refine wpAnyH_take (i := 13) (v := ?_) rfl (by kernel_rfl) (by kernel_rfl) (by kernel_rfl) (fun _ _ _ h => h) (Or.inl ⟨by rfl, ?_⟩) (by assumption) ?_
  rotate_left
  · intro W hS; go_simp; try with_reducible rfl
  simp only [Act.put, List.getElem_toArray, List.getElem_cons_zero, List.getElem_cons_succ, List.setIfInBounds_toArray, List.set_cons_zero, List.set_cons_succ]
  refine wpAnyH_ready (rs := [8]) (by kernel_rfl) (by simp) ?_
  refine AllReadyH.cons rfl (fun K hK => ?_) AllReadyH.nil
  go_simp
  refine (putUint_any none 0 0 X [] _ (bytes_none _) (by omega) hX64).mono ?_
  rintro e w7 ⟨g7, c7, rfl, hown7, hg7⟩
  have B7 : Below w.heap.size w w7 := below_grown hg7 hHeld
  have r7 := run_string_put Hsx.out hown7
  clear hown7 hg7
  simp only [Nat.zero_add]
  refine hK.out _ _ B7 (fun _ => ?_)
  clear hK K hHeld
  refine wpAnyH_weaken (T := fun W => Below w.heap.size w W ∧ Sem.run Try.prog (convert 22 9 (Value.slice (some ⟨g7, 0, none⟩) (short X).length c7)) W = .ok (.string ⟨sx.toArray⟩) W) (fun W h => h.1) _ _ _ _ ?_
  have hT : (fun W => Below w.heap.size w W ∧ Sem.run Try.prog (convert 22 9 (Value.slice (some ⟨g7, 0, none⟩) (short X).length c7)) W = .ok (.string ⟨sx.toArray⟩) W) w7 := ⟨B7, r7⟩
  clear r7 hstr
  refine wpAnyH_take (i := 9) (v := ?_) rfl (by kernel_rfl) (by kernel_rfl) (by kernel_rfl) (fun _ _ _ h => h) (Or.inl ⟨by rfl, ?_⟩) hT ?_
  rotate_left
  · intro W hS; obtain ⟨_, hr⟩ := hS; go_simp; try with_reducible rfl
  simp only [Act.put, List.getElem_toArray, List.getElem_cons_zero, List.getElem_cons_succ, List.setIfInBounds_toArray, List.set_cons_zero, List.set_cons_succ]
  refine wpAnyH_take (i := 14) (v := ?_) rfl (by kernel_rfl) (by kernel_rfl) (by kernel_rfl) (fun _ _ _ h => h) (Or.inl ⟨by rfl, ?_⟩) hT ?_
  rotate_left
  · intro W hS; obtain ⟨_, hr⟩ := hS; go_simp; try with_reducible rfl
  simp only [Act.put, List.getElem_toArray, List.getElem_cons_zero, List.getElem_cons_succ, List.setIfInBounds_toArray, List.set_cons_zero, List.set_cons_succ]
  refine wpAnyH_take (i := 15) (v := ?_) rfl (by kernel_rfl) (by kernel_rfl) (by kernel_rfl) (fun _ _ _ h => h) (Or.inl ⟨by rfl, ?_⟩) hT ?_
  rotate_left
  · intro W hS; obtain ⟨_, hr⟩ := hS; go_simp; try with_reducible rfl
  simp only [Act.put, List.getElem_toArray, List.getElem_cons_zero, List.getElem_cons_succ, List.setIfInBounds_toArray, List.set_cons_zero, List.set_cons_succ]
  refine wpAnyH_take (i := 16) (v := ?_) rfl (by kernel_rfl) (by kernel_rfl) (by kernel_rfl) (fun _ _ _ h => h) (Or.inl ⟨by rfl, ?_⟩) hT ?_
  rotate_left
  · intro W hS; obtain ⟨_, hr⟩ := hS; go_simp; try with_reducible rfl
  simp only [Act.put, List.getElem_toArray, List.getElem_cons_zero, List.getElem_cons_succ, List.setIfInBounds_toArray, List.set_cons_zero, List.set_cons_succ]
  refine wpAnyH_done (by kernel_rfl) ?_ _
  go_wp2
  go_ret
  exact ⟨rfl, B7⟩

set_option maxHeartbeats 400000 in
theorem octetOne_no (a : Option Addr) (n cap k : Nat) (y er : Int) (l : List UInt8) (w : World) (hb : Bytes w a n l) (hm : n ≤ 140737488351232) (hnum : num l = (y, k, er)) (he : (er != 0) = true) :
    Calls Try.prog 8 #[.slice a n cap] w fun e w' => e = .returned (.bool true) ∧ Below w.heap.size w w' := by
  have Hl : Hid (l.length = n) := hb.1
  have Hnum : Hid (num (l.drop 0) = (y, k, er)) := hnum
  clear hnum
  go_enter Try.func8, Try.ntmps8
  go_wp2_with fail
  refine (wakes_any _).mono ?_
  rintro e w1 ⟨rfl, B1⟩
  go_wp2_with fail
  refine (read_any _ n cap l _ (hb.below B1) (by omega)).mono ?_
  rintro e w2 ⟨r, g, rfl, hr, hg, hrd, hgr⟩
  have B2 : Below w.heap.size w w2 := B1.grown hgr B1.size (by simp)
  have hr' : w.heap.size ≤ r := Nat.le_trans B1.size hr
  clear hr hg hgr B1 hb
  go_wp2_with fail
  refine (wakes_any _).mono ?_
  rintro e w3 ⟨rfl, B3⟩
  have hrd3 : Rd w3 r g 0 0 l := hrd.kept (grownBy_of_below B3) (by simp) (by simp)
  have B3' := below_more B2 B3
  clear B2 B3 hrd
  go_wp2_with fail
  refine (uint_no _ r g 0 l hrd3 (by rw [Hnum.out]; exact he)).mono ?_
  rw [Hnum.out]
  rintro e w4 ⟨rfl, hrd4, hgr⟩
  have B4 : Below w.heap.size w w4 := B3'.grown hgr B3'.size (by simpa using hr')
  clear hgr B3' hrd3
  go_wp2_with fail
  refine (err_any _ r er hrd4.c1).mono ?_
  rintro e w5 ⟨rfl, rfl⟩
  go_wp2_with fail
  refine (left_any _ r g 0 n er l hrd4 (by have := Hl.out; omega)).mono ?_
  rintro e w6 ⟨rfl, j, hw6⟩
  have B6 : Below w.heap.size w w6 := by rw [hw6]; exact B4.grown (grownBy_drewN _ _ none) B4.size (by simp)
  clear B4 hrd4 hw6 hr'
  go_wp2
  go_ret
  exact ⟨rfl, B6⟩

theorem octetOne_walk (a : Option Addr) (n cap : Nat) (l : List UInt8) (w : World) (hb : Bytes w a n l) (hcap : n ≤ cap) (hm : n ≤ 140737488351232) :
    Calls Try.prog 8 #[.slice a n cap] w fun e w' => e = .returned (.bool true) ∧ Below w.heap.size w w' := by
  obtain ⟨x, k, er, hnum⟩ : ∃ x k er, num l = (x, k, er) := ⟨_, _, _, rfl⟩
  by_cases he : er = 0
  · subst he
    obtain ⟨X, rfl, hs, hk1, hk10, hkl, hX64⟩ := num_back l x k hnum
    have hl := hb.1
    obtain ⟨b, off, rfl, _⟩ := hb.2 (by omega)
    exact octetOne_yes b off n cap X k l w hb hcap hm hnum hs hk1 hk10 (by omega) hX64
  · exact octetOne_no a n cap k x er l w hb hm hnum (by simpa using he)

set_option maxRecDepth 100000 in
theorem octetOne_lifted (os : Os) (started : os.Started) (H : Type) (enc : TypeId × Value → H) :
    ReturnsInHanded {} Try.checked os 8 .any (Rows.octetOneSpec.pre6 enc Try.prog Try.f8 Rows.octetOneRow.domain false) (Rows.octetOneSpec.post enc Try.prog Try.f8 false true false false) := by
  refine returnsInHanded_of_change_sized (C := Try.checked) own started (by kernel_rfl) Try.func8
    (ChangeSpec.witness6 (enc := enc) (C := Try.checked) false ⟨#[], #[.slice none 0 0], []⟩ 8 (by kernel_rfl) (by kernel_rfl) (by kernel_rfl) (by kernel_rfl)) ?_
  intro W base args ds gs before hval0 hW _ hsz0 _
  have hsz : (DataW.weightsEach Try.prog (Try.f8.params.toList ++ Rows.octetOneSpec.plain.varTypes Try.prog) (ds ++ gs)).all (· ≤ reachBytes) = true := hsz0
  have hval : ∀ (j : Nat) t v, Try.f8.params[j]? = some t → args[j]? = some v → Value.okWide Try.prog W .any base t v := hval0
  have hW' := hW
  obtain ⟨p, q, hA0, hV, rfl, _, _⟩ := hW
  have hA : DataW.TrodAll enc Try.prog W 0 (fun _ => true) true Try.f8.params.toList args.toList ds p := hA0
  rw [Try.params8] at hA hval hsz
  obtain ⟨v0, vs0, d0, ds0, p0, q0, hargs, rfl, rfl, h0, r0⟩ := trodAll_cons hA
  obtain ⟨rfl, rfl, rfl⟩ := trodAll_nil r0
  obtain rfl : args = #[v0] := by cases args; simp_all
  obtain ⟨rfl, rfl⟩ := trodVars_none hV
  have k0 := h0
  have lt0 : ∀ x ∈ p0, x.block < W.heap.size := by obtain ⟨m, hm⟩ := k0; exact DataW.trod_lt m _ _ _ hm
  obtain ⟨a0, n0, cap0, l0, rfl, b0, c0, hd⟩ := bytes_arg (hval 0 22 v0 rfl rfl) h0
  have hn0 : n0 ≤ 140737488351232 := by
    rcases hd with rfl | ⟨el, sp, rfl, hle⟩
    · omega
    · have := sized_slice hsz (j := 0) (t := 22) (e := 5) rfl rfl Try.underlying22
      rw [bytes5] at this
      simp only [reachBytes] at this
      omega
  clear hA0 hval0 hsz0 hsz
  refine (octetOne_walk a0 n0 cap0 l0 W b0 c0 hn0).mono fun e W' ⟨he, bel⟩ => ?_
  subst he
  exact ⟨_, rfl, _, _, _, [], _, [], hW', trodAll_mk1 (shut_bool Try.underlying4 _), trodAll_cons_mk (Below.trod laidOut (by kernel_rfl) (of_decide_eq_true (by kernel_rfl)) k0 bel lt0) trodAll_mk0, rfl, bel.frame _, fun h => by cases h⟩

theorem octetOne_holds : Rows.OctetOneSaid :=
  OpenClaim.holds_of_wide 8 Try.f8 rfl rfl rfl rfl rfl rfl rfl ⟨rfl, rfl, rfl, rfl, rfl⟩ rfl rfl rfl rfl rfl (by kernel_rfl) Try.func8 (by kernel_rfl)
    (of_decide_eq_true (by kernel_rfl)) (by unfold Func.isWrapper; first | (rw [if_pos (by decide +kernel)]; kernel_rfl) | (rw [if_neg (by decide +kernel)]; exact ⟨rfl, rfl⟩))
    (fun os started H enc _ => octetOne_lifted os started H enc)
#print axioms octetOne_holds

end Go.Proofs.Ytkfmihbbmafolaa
