import Derived.Test.YtggnglgehobglaaGreatDoorN16
import Derived.Test.YtggnglgehobglaaGreatDoorN17
import Derived.Test.YtggnglgehobglaaGreatDoorN47
import Derived.Test.YtggnglgehobglaaGreatDoorN48
/- The walk of Rule. -/
namespace Go.Proofs.YtggnglgehobglaaGreatDoor
open Go.RowKit Go.Shelf Go.Maps

attribute [local go_sem] Oper.semAt_some

/-- what Rule answers -/
def rulR (F : List Ru) (l : List UInt8) : Ru × Bool := if isP l = true then (ruleT (tabL F) l, decide (ruleT (tabL F) l ≠ noR)) else (noR, false)
theorem rb_ret {W : World} {p : Nat} {kk : Int} {f t : ByteArray} {v : Value} {a : Act} {P : Ending → World → Prop} (hb : BoxR W p kk f t) (ha : a.tmps[4]?.getD undef = .pointer (some ⟨p, 0, none⟩)) (hv : a.tmps[5]?.getD undef = v) (hd : a.defers = []) (hP : P (.returned (.tuple #[rv kk f t, v])) W) : bodyPost Tryz.prog Tryz.f11 P Exit.ret a W := by
  obtain ⟨c0, c1, c2⟩ := hb.cell
  exact bodyPost_ret (v := .tuple #[rv kk f t, v]) (by simp [results, Tryz.results11, go_sem, ha, hv, c0, c1, c2]) hd hP
set_option maxRecDepth 100000 in
set_option maxHeartbeats 4000000 in
theorem Irule_any (w : World) (m : Nat) (F : List Ru) (s : ByteArray) (hM : MpAt w m F) (hs : s.size ≤ maxLen) :
    Calls Tryz.prog 11 #[.pointer (some ⟨m, 0, none⟩), .string s] w fun e w' => e = .returned (.tuple #[ruV (rulR F (bs s)).1, .bool (rulR F (bs s)).2]) ∧ Below w.heap.size w w' := by
  have hpa := fun W => misPath_any s W hs
  have hmx : Tryz.prog.follows .mixedOrders = true := by kernel_rfl
  have hb0 := BoxR.new w 0 ⟨#[]⟩ ⟨#[]⟩
  have H0 : Hid (BoxR (w.alloc (.cells #[.int .i64 0, .string ⟨#[]⟩, .string ⟨#[]⟩] 31)) w.heap.size 0 ⟨#[]⟩ ⟨#[]⟩ ∧ Below w.heap.size w (w.alloc (.cells #[.int .i64 0, .string ⟨#[]⟩, .string ⟨#[]⟩] 31)) ∧ MpAt w m F) := ⟨hb0, (Below.refl _ w).alloc (Nat.le_refl _) _, hM⟩
  clear hb0 hM
  cases hP : isP (bs s) with
  | false =>
    rw [hP] at hpa
    have HR : Hid (rulR F (bs s) = (noR, false)) := by
      show _ = _
      unfold rulR
      rw [hP]
      rfl
    clear hP
    go_enter Tryz.func11, Tryz.ntmps11
    go_wp2_with fail
    refine (hpa _).mono ?_
    clear hpa
    generalize w.alloc (.cells #[.int .i64 0, .string ⟨#[]⟩, .string ⟨#[]⟩] 31) = w1 at *
    generalize hbp : w.heap.size = bp at *
    have HBP : Hid (w.heap.size = bp) := hbp
    clear hbp
    rintro e w2 ⟨rfl, hB2⟩
    have H2 : Hid (BoxR w2 bp 0 ⟨#[]⟩ ⟨#[]⟩ ∧ Below bp w w2) := ⟨H0.out.1.below hB2 H0.out.1.lt, H0.out.2.1.trans (hB2.mono (Nat.le_of_lt H0.out.1.lt))⟩
    have HE : Hid (BoxR (((w2.setCell ⟨bp, 0, none⟩ (.int .i64 0)).setCell ⟨bp, 1, none⟩ (.string ⟨#[]⟩)).setCell ⟨bp, 2, none⟩ (.string ⟨#[]⟩)) bp 0 ⟨#[]⟩ ⟨#[]⟩ ∧ Below bp w (((w2.setCell ⟨bp, 0, none⟩ (.int .i64 0)).setCell ⟨bp, 1, none⟩ (.string ⟨#[]⟩)).setCell ⟨bp, 2, none⟩ (.string ⟨#[]⟩))) := ⟨H2.out.1.all 0 ⟨#[]⟩ ⟨#[]⟩, ((H2.out.2.setCell (p := ⟨bp, 0, none⟩) (Nat.le_refl _) _).setCell (p := ⟨bp, 1, none⟩) (Nat.le_refl _) _).setCell (p := ⟨bp, 2, none⟩) (Nat.le_refl _) _⟩
    clear hB2
    obtain ⟨e0, e1, e2⟩ := H2.out.1.cell
    obtain ⟨z0, z1, z2⟩ := H2.out.1.frozen
    go_wp2
    exact rb_ret HE.out.1 rfl rfl rfl ⟨by rw [HR.out]; rfl, by rw [HBP.out]; exact HE.out.2⟩
  | true =>
    rw [hP] at hpa
    have HR : Hid (rulR F (bs s) = (ruleT (tabL F) (bs s), decide (ruleT (tabL F) (bs s) ≠ noR))) := by
      show _ = _
      unfold rulR
      rw [hP]
      rfl
    clear hP
    go_enter Tryz.func11, Tryz.ntmps11
    go_wp2_with fail
    refine (hpa _).mono ?_
    clear hpa
    generalize w.alloc (.cells #[.int .i64 0, .string ⟨#[]⟩, .string ⟨#[]⟩] 31) = w1 at *
    generalize hbp : w.heap.size = bp at *
    have HBP : Hid (w.heap.size = bp) := hbp
    clear hbp
    rintro e w2 ⟨rfl, hB2⟩
    have H2 : Hid (BoxR w2 bp 0 ⟨#[]⟩ ⟨#[]⟩ ∧ Below bp w w2 ∧ MpAt w2 m F) := ⟨H0.out.1.below hB2 H0.out.1.lt, H0.out.2.1.trans (hB2.mono (Nat.le_of_lt H0.out.1.lt)), H0.out.2.2.below (by rw [HBP.out]; exact H0.out.2.1.trans (hB2.mono (Nat.le_of_lt H0.out.1.lt)))⟩
    clear hB2 H0
    obtain ⟨a, n, c, b, c0, c1, _, _, hT, _⟩ := H2.out.2.2.ex
    have htr := trule_any w2 b (tabL F) n s hT hs
    clear hT
    generalize ruleT (tabL F) (bs s) = R at *
    obtain ⟨k2, f2, t2⟩ := R
    go_wp2_with fail
    refine htr.mono ?_
    clear htr c0 c1
    rintro e w3 ⟨rfl, hB3⟩
    have H3 : Hid (BoxR w3 bp 0 ⟨#[]⟩ ⟨#[]⟩ ∧ Below bp w w3) := ⟨H2.out.1.below hB3 H2.out.1.lt, H2.out.2.1.trans (hB3.mono (Nat.le_of_lt H2.out.1.lt))⟩
    clear hB3 H2
    have hne := fun W => neR W k2 0 (mk f2) ⟨#[]⟩ (mk t2) ⟨#[]⟩
    have HQ : Hid ((!(k2 == 0 && ((mk f2).toList == (⟨#[]⟩ : ByteArray).toList && (mk t2).toList == (⟨#[]⟩ : ByteArray).toList))) = decide ((k2, f2, t2) ≠ noR)) := by
      show _ = _
      rw [toList_bs, toList_bs, toList_bs, bs_mk, bs_mk, show bs ⟨#[]⟩ = [] from rfl]
      simp only [noR]
      by_cases h1 : k2 = 0 <;> by_cases h2 : f2 = [] <;> by_cases h3 : t2 = [] <;> simp [h1, h2, h3]
    have H4 : Hid (BoxR (w3.alloc (.cells #[.int .i64 k2, .string (mk f2), .string (mk t2)] 31)) bp 0 ⟨#[]⟩ ⟨#[]⟩ ∧ BoxR (w3.alloc (.cells #[.int .i64 k2, .string (mk f2), .string (mk t2)] 31)) w3.heap.size k2 (mk f2) (mk t2) ∧ Below bp w (w3.alloc (.cells #[.int .i64 k2, .string (mk f2), .string (mk t2)] 31)) ∧ bp < w3.heap.size) := ⟨H3.out.1.below ((Below.refl _ w3).alloc (Nat.le_refl _) _) H3.out.1.lt, BoxR.new w3 _ _ _, H3.out.2.alloc (Nat.le_of_lt H3.out.1.lt) _, H3.out.1.lt⟩
    clear H3
    go_upto_region 4 with fail
    generalize (!(k2 == 0 && ((mk f2).toList == (⟨#[]⟩ : ByteArray).toList && (mk t2).toList == (⟨#[]⟩ : ByteArray).toList))) = BQ at *
    simp only [ruV]
    generalize hf : mk f2 = f at *
    generalize ht : mk t2 = t at *
    have HFT : Hid (mk f2 = f ∧ mk t2 = t) := ⟨hf, ht⟩
    clear hf ht
    generalize w3.alloc (.cells #[.int .i64 k2, .string f, .string t] 31) = w4 at *
    generalize w3.heap.size = bx at *
    obtain ⟨x0, x1, x2⟩ := H4.out.1.cell
    obtain ⟨y0, y1, y2⟩ := H4.out.1.frozen
    obtain ⟨v0, v1, v2⟩ := H4.out.2.1.cell
    have hbb : bp < bx := H4.out.2.2.2
    have hbn : ¬ bx = bp := by omega
    go_region
    have HE : Hid (BoxR ((((w4.setCell ⟨bp, 0, none⟩ (.int .i64 k2)).setCell ⟨bp, 1, none⟩ (.string f)).setCell ⟨bp, 2, none⟩ (.string t)).drew) bp k2 f t ∧ Below bp w ((((w4.setCell ⟨bp, 0, none⟩ (.int .i64 k2)).setCell ⟨bp, 1, none⟩ (.string f)).setCell ⟨bp, 2, none⟩ (.string t)).drew)) := by
      have h1 := H4.out.1.all k2 f t
      have h2 := ((H4.out.2.2.1.setCell (p := ⟨bp, 0, none⟩) (Nat.le_refl _) (.int .i64 k2)).setCell (p := ⟨bp, 1, none⟩) (Nat.le_refl _) (.string f)).setCell (p := ⟨bp, 2, none⟩) (Nat.le_refl _) (.string t)
      exact ⟨h1, ⟨h2.os, h2.tape, h2.output, h2.size, h2.block⟩⟩
    go_wp2
    exact rb_ret HE.out.1 rfl rfl rfl ⟨by rw [HR.out, ← HQ.out, ← HFT.out.1, ← HFT.out.2]; rfl, by rw [HBP.out]; exact HE.out.2⟩
end Go.Proofs.YtggnglgehobglaaGreatDoor

/- What the functions of pathmap answer without a Map. -/
namespace Go.Proofs.YtggnglgehobglaaGreatDoor
open Go.RowKit Go.Shelf Go.Maps

attribute [local go_sem] Oper.semAt_some

theorem compose_nil1 (w : World) (v : Value) : Calls Tryz.prog 10 #[.pointer none, v] w fun e w' => e = .returned (.tuple #[.pointer none, .int .i64 1]) ∧ Below w.heap.size w w' := by
  go_enter Tryz.func10, Tryz.ntmps10
  go_wp2
  go_ret2
  exact ⟨rfl, Below.refl _ _⟩
theorem compose_nil2 (w : World) (t : Nat) : Calls Tryz.prog 10 #[.pointer (some ⟨t, 0, none⟩), .pointer none] w fun e w' => e = .returned (.tuple #[.pointer none, .int .i64 1]) ∧ Below w.heap.size w w' := by
  go_enter Tryz.func10, Tryz.ntmps10
  go_wp2
  go_ret2
  exact ⟨rfl, Below.refl _ _⟩
theorem rules_nil (w : World) : Calls Tryz.prog 12 #[.pointer none] w fun e w' => e = .returned (.slice none 0 0) ∧ Below w.heap.size w w' := by
  go_enter Tryz.func12, Tryz.ntmps12
  go_wp2
  go_ret
  exact ⟨rfl, Below.refl _ _⟩
theorem text_nil (w : World) : Calls Tryz.prog 13 #[.pointer none] w fun e w' => e = .returned (.string ⟨#[]⟩) ∧ Below w.heap.size w w' := by
  go_enter Tryz.func13, Tryz.ntmps13
  go_wp2
  go_ret
  exact ⟨rfl, Below.refl _ _⟩
theorem key_nil (w : World) : Calls Tryz.prog 14 #[.pointer none] w fun e w' => e = .returned (.int .u64 0) ∧ Below w.heap.size w w' := by
  go_enter Tryz.func14, Tryz.ntmps14
  go_wp2
  go_ret
  exact ⟨rfl, Below.refl _ _⟩
theorem inverse_nil (w : World) : Calls Tryz.prog 18 #[.pointer none] w fun e w' => e = .returned (.pointer none) ∧ Below w.heap.size w w' := by
  go_enter Tryz.func18, Tryz.ntmps18
  go_wp2
  go_ret
  exact ⟨rfl, Below.refl _ _⟩
theorem those_nil (w : World) (v : Value) : Calls Tryz.prog 36 #[.pointer none, v] w fun e w' => e = .returned (.slice none 0 0) ∧ Below w.heap.size w w' := by
  go_enter Tryz.func36, Tryz.ntmps36
  go_wp2
  go_ret
  exact ⟨rfl, Below.refl _ _⟩
theorem tops_nil (w : World) : Calls Tryz.prog 16 #[.pointer none] w fun e w' => e = .returned (.slice none 0 0) ∧ Below w.heap.size w w' := by
  go_enter Tryz.func16, Tryz.ntmps16
  go_wp2_with fail
  refine (those_nil _ _).mono ?_
  rintro e w1 ⟨rfl, hB1⟩
  have H1 : Hid (Below w.heap.size w w1) := ((Below.refl _ w).alloc (Nat.le_refl _) _).trans (hB1.mono (by simp))
  clear hB1
  go_wp2
  go_ret
  exact ⟨rfl, H1.out⟩
theorem below_nil (w : World) (s : ByteArray) (hs : s.size ≤ maxLen) : Calls Tryz.prog 17 #[.pointer none, .string s] w fun e w' => e = .returned (.slice none 0 0) ∧ Below w.heap.size w w' := by
  have hip := fun W => misPath_any s W hs
  generalize isP (bs s) = ps at *
  have H0 : Hid (Below w.heap.size w (w.alloc (.cells #[.string s] 9))) := (Below.refl _ w).alloc (Nat.le_refl _) _
  go_enter Tryz.func17, Tryz.ntmps17
  go_wp2_with fail
  refine (hip _).mono ?_
  clear hip
  rintro e w1 ⟨rfl, hB1⟩
  have H1 : Hid (Below w.heap.size w w1) := H0.out.trans (hB1.mono H0.out.size)
  clear hB1
  cases ps with
  | false =>
    go_wp2
    go_ret
    exact ⟨rfl, H1.out⟩
  | true =>
    go_wp2_with fail
    refine (those_nil _ _).mono ?_
    rintro e w2 ⟨rfl, hB2⟩
    have H2 : Hid (Below w.heap.size w w2) := H1.out.trans (hB2.mono H1.out.size)
    clear hB2
    go_wp2
    go_ret
    exact ⟨rfl, H2.out⟩
theorem same_nil1 (w : World) (v : Value) : Calls Tryz.prog 15 #[.pointer none, v] w fun e w' => e = .returned (.bool false) ∧ Below w.heap.size w w' := by
  have hmx : Tryz.prog.follows .mixedOrders = true := by kernel_rfl
  go_enter Tryz.func15, Tryz.ntmps15
  go_wp2
  go_quiet (fail)
  go_wp2
  go_ret
  exact ⟨rfl, below_drewN (Below.refl _ _) _⟩
theorem same_nil2 (w : World) (t : Nat) : Calls Tryz.prog 15 #[.pointer (some ⟨t, 0, none⟩), .pointer none] w fun e w' => e = .returned (.bool false) ∧ Below w.heap.size w w' := by
  go_enter Tryz.func15, Tryz.ntmps15
  go_wp2
  go_quiet (fail)
  go_wp2
  go_ret
  exact ⟨rfl, below_drewN (Below.refl _ _) _⟩
theorem rule_nil (w : World) (s : ByteArray) : Calls Tryz.prog 11 #[.pointer none, .string s] w fun e w' => e = .returned (.tuple #[rv 0 ⟨#[]⟩ ⟨#[]⟩, .bool false]) ∧ Below w.heap.size w w' := by
  go_enter Tryz.func11, Tryz.ntmps11
  go_wp2
  exact rb_ret (BoxR.new w 0 ⟨#[]⟩ ⟨#[]⟩) rfl rfl rfl ⟨rfl, (Below.refl _ w).alloc (Nat.le_refl _) _⟩
end Go.Proofs.YtggnglgehobglaaGreatDoor
