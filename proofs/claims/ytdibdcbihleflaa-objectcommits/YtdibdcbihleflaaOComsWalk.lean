/- The walk of the law ObjectCommits. -/
import Derived.Test.YtdibdcbihleflaaOComsPlain
import Derived.Deep.DeepCutAuto
import Derived.Deep.CutRange
namespace Go.Proofs.Ytdibdcbihleflaa
open Go.RowKit

attribute [local go_sem] Oper.semAt_some

set_option maxRecDepth 100000 in
set_option maxHeartbeats 8000000 in
theorem objectCommits_walk (t : Int) (pa : Option Addr) (pn pc : Nat) (ps : List Int) (au : ByteArray) (d : Int) (tx : ByteArray) (w : World) (h : Com w t pa pn pc ps au d tx) :
    Calls Try.prog 5 #[cmt t pa pn pc au d tx] w fun e w' => e = .returned (.bool true) ∧ Below w.heap.size w w' := by
  obtain ⟨m, hm⟩ : ∃ m, m = min pn 11 := ⟨_, rfl⟩
  have hl := h.len
  have im : (m : Int) ≤ (pc : Int) := by omega
  have HM : Hid (m = min pn 11) := hm
  have hm9 : m ≤ 11 := by omega
  have HC : Hid (Com w t pa pn pc ps au d tx) := h
  have b0 := Box5.new w (.int .u64 t) (.slice pa pn pc) (.string au) (.int .i64 d) (.string tx)
  have hB0 : Below w.heap.size w (w.alloc (.cells #[.int .u64 t, .slice pa pn pc, .string au, .int .i64 d, .string tx] 42)) := (Below.refl _ w).alloc (Nat.le_refl _) _
  clear hm h hl
  go_enter Try.func5, Try.ntmps5
  go_wp2_with first
    | (go_at_call 9; refine (wakes_any _).mono ?_; rintro e w1 ⟨rfl, hB1⟩; have b1 := b0.kept hB1; obtain ⟨c0, c1, c2, c3, c4⟩ := b1.cell; obtain ⟨f0, f1, f2, f3, f4⟩ := b1.frozen; have b2 := b1.set1 (.slice pa m pc); obtain ⟨d0, d1, d2, d3, d4⟩ := b2.cell; obtain ⟨g0, g1, g2, g3, g4⟩ := b2.frozen)
    | (refine wpList_min _ rfl _ _ rfl pn 11 _ rfl rfl rfl ?_; rw [← HM.out])
  have m1 := fun ty => run_min ty au.size 73
  have m2 := fun ty => run_min ty tx.size 1033
  simp only [show ((73 : Nat) : Int) = 73 from rfl] at m1
  simp only [show ((1033 : Nat) : Int) = 1033 from rfl] at m2
  obtain ⟨n1, hn1⟩ : ∃ n1, n1 = min au.size 73 := ⟨_, rfl⟩
  obtain ⟨n2, hn2⟩ : ∃ n2, n2 = min tx.size 1033 := ⟨_, rfl⟩
  rw [← hn1] at m1
  rw [← hn2] at m2
  have j1 : (n1 : Int) ≤ (au.size : Int) := by omega
  have j2 : (n2 : Int) ≤ (tx.size : Int) := by omega
  have HN1 : Hid (n1 = min au.size 73) := hn1
  have HN2 : Hid (n2 = min tx.size 1033) := hn2
  clear hn1 hn2
  go_region
  have b4 := (b2.set2 (.string (au.extract 0 n1))).set4 (.string (tx.extract 0 n2))
  have b4 : Box5 ((((w1.setCell ⟨w.heap.size, 1, none⟩ (.slice pa m pc)).setCell ⟨w.heap.size, 2, none⟩ (.string (au.extract 0 n1))).setCell ⟨w.heap.size, 4, none⟩ (.string (tx.extract 0 n2))).drew) w.heap.size (.int .u64 t) (.slice pa m pc) (.string (au.extract 0 n1)) (.int .i64 d) (.string (tx.extract 0 n2)) := b4
  have HB4 : Hid (Below w.heap.size w ((((w1.setCell ⟨w.heap.size, 1, none⟩ (.slice pa m pc)).setCell ⟨w.heap.size, 2, none⟩ (.string (au.extract 0 n1))).setCell ⟨w.heap.size, 4, none⟩ (.string (tx.extract 0 n2))).drew)) := belowD ((((hB0.trans (hB1.mono (by simp))).setCell (p := ⟨w.heap.size, 1, none⟩) (Nat.le_refl _) _).setCell (p := ⟨w.heap.size, 2, none⟩) (Nat.le_refl _) _).setCell (p := ⟨w.heap.size, 4, none⟩) (Nat.le_refl _) _)
  generalize ((((w1.setCell ⟨w.heap.size, 1, none⟩ (.slice pa m pc)).setCell ⟨w.heap.size, 2, none⟩ (.string (au.extract 0 n1))).setCell ⟨w.heap.size, 4, none⟩ (.string (tx.extract 0 n2))).drew) = X at b4 HB4 ⊢
  have HA : Hid ((au.extract 0 n1).size ≤ 73 ∧ (tx.extract 0 n2).size ≤ 1033) := ⟨by have := HN1.out; simp; omega, by have := HN2.out; simp; omega⟩
  generalize au.extract 0 n1 = A at b4 HB4 HA ⊢
  generalize tx.extract 0 n2 = T at b4 HB4 HA ⊢
  clear HN1 HN2 m1 m2 j1 j2 d0 d1 d2 d3 d4 g0 g1 g2 g3 g4 c0 c1 c2 c3 c4 f0 f1 f2 f3 f4 b2 b1 b0 hB0 hB1
  have HCB : Hid (ComB t pa m pc (ps.take m) A d T ∧ Ids w pa m (ps.take m)) := ⟨HC.out.cut HM.out HA.out.1 HA.out.2, HC.out.par.take m (by have := HM.out; omega)⟩
  have hlt : (ps.take m).length = m := HCB.out.2.1
  generalize ps.take m = L at HCB hlt
  obtain ⟨c0, c1, c2, c3, c4⟩ := b4.cell
  clear HC HM HA
  go_upto_region 6 with fail
  have b5 := Box5.new X (.int .u64 t) (.slice pa m pc) (.string A) (.int .i64 d) (.string T)
  have b6 := b4.alloc' (.cells #[.int .u64 t, .slice pa m pc, .string A, .int .i64 d, .string T] 42)
  have HB5 : Hid (Below w.heap.size w (X.alloc (.cells #[.int .u64 t, .slice pa m pc, .string A, .int .i64 d, .string T] 42))) := HB4.out.alloc HB4.out.size _
  have hlb : w.heap.size < X.heap.size := b4.lt
  clear c0 c1 c2 c3 c4 b4 HB4
  generalize hY : X.alloc (.cells #[.int .u64 t, .slice pa m pc, .string A, .int .i64 d, .string T] 42) = Y at b5 b6 HB5 ⊢
  have HYs : Hid (Y.heap.size = X.heap.size + 1) := (by rw [← hY]; simp : Y.heap.size = X.heap.size + 1)
  clear hY
  generalize X.heap.size = bo at b5 hlb HYs ⊢
  clear X
  have mk := make20
  obtain ⟨c0, c1, c2, c3, c4⟩ := b6.cell
  have hlo : w.heap.size ≤ Y.heap.size := by have := HYs.out; omega
  have B1 : Below Y.heap.size Y (Y.alloc Z20) := (Below.refl _ _).alloc (Nat.le_refl _) _
  have B2 : Below Y.heap.size Y ((Y.alloc O77).alloc Z20) := ((Below.refl _ _).alloc (Nat.le_refl _) _).alloc (by simp) _
  have B3 : Below Y.heap.size Y ((Y.alloc Z20).alloc O77) := B1.alloc (by simp) _
  have P1 : Hid ((Y.alloc Z20).drew.ownsRow Y.heap.size 39 1 (.slice (some ⟨Y.heap.size, 0, none⟩) 0 20) 0 (([] : List Int).map (Value.int .u64)) ∧ Ids (Y.alloc Z20).drew pa m L ∧ Below Y.heap.size Y (Y.alloc Z20).drew) := ⟨own20 Y _ (Nat.le_refl _), HCB.out.2.below (belowD (HB5.out.trans (B1.mono hlo))), belowD B1⟩
  have P2 : Hid (((Y.alloc O77).alloc Z20).drew.ownsRow Y.heap.size 39 1 (.slice (some ⟨Y.heap.size + 1, 0, none⟩) 0 20) 0 (([] : List Int).map (Value.int .u64)) ∧ Ids ((Y.alloc O77).alloc Z20).drew pa m L ∧ Below Y.heap.size Y ((Y.alloc O77).alloc Z20).drew ∧ Ids ((Y.alloc O77).alloc Z20).drew (some ⟨Y.heap.size, 0, none⟩) 1 [77]) := ⟨by have := own20 (Y.alloc O77) Y.heap.size (by simp); rw [World.size_alloc] at this; exact this, HCB.out.2.below (belowD (HB5.out.trans (B2.mono hlo))), belowD B2, (ids_lit Y 77).below (belowD ((Below.refl _ _).alloc (Nat.le_refl _) _))⟩
  have P3 : Hid (((Y.alloc Z20).alloc O77).drew.ownsRow Y.heap.size 39 1 (.slice (some ⟨Y.heap.size, 0, none⟩) 0 20) 0 (([] : List Int).map (Value.int .u64)) ∧ Ids ((Y.alloc Z20).alloc O77).drew pa m L ∧ Below Y.heap.size Y ((Y.alloc Z20).alloc O77).drew ∧ Ids ((Y.alloc Z20).alloc O77).drew (some ⟨Y.heap.size + 1, 0, none⟩) 1 [77]) := ⟨(own20 Y _ (Nat.le_refl _)).alloc _, HCB.out.2.below (belowD (HB5.out.trans (B3.mono hlo))), belowD B3, by have := ids_lit (Y.alloc Z20) 77; rw [World.size_alloc] at this; exact this⟩
  have HNil : Hid (pa = none → m = 0 ∧ pc = 0) := HCB.out.1.len.2.2
  have k1 : (Y.alloc Z20).cell? ⟨w.heap.size, 1, none⟩ = some (.slice pa m pc) := (b6.alloc' _).cell.2.1
  have k2 : (Y.alloc O77).cell? ⟨w.heap.size, 1, none⟩ = some (.slice pa m pc) := (b6.alloc' _).cell.2.1
  have k3 : ((Y.alloc O77).alloc Z20).cell? ⟨w.heap.size, 1, none⟩ = some (.slice pa m pc) := ((b6.alloc' _).alloc' _).cell.2.1
  have k4 : ((Y.alloc Z20).alloc O77).cell? ⟨w.heap.size, 1, none⟩ = some (.slice pa m pc) := ((b6.alloc' _).alloc' _).cell.2.1
  clear B1 B2 B3
  go_cut [4] from 43 to 48 (fun v wr => ∃ g c4, v = .slice (some ⟨g, 0, none⟩) (m + 1) c4 ∧ Hid (wr.ownsRow Y.heap.size 39 1 (.slice (some ⟨g, 0, none⟩) (m + 1) c4) (m + 1) ((L ++ [77]).map (Value.int .u64)) ∧ Below Y.heap.size Y wr))
  case first =>
    as_aux_lemma =>
      go_region_law (first
        | (refine step_appI _ Y.heap.size P1.out.2.2.size (by rfl) _ _ (by rfl) (.slice (some ⟨Y.heap.size, 0, none⟩) 0 20) 0 [] (by rfl) P1.out.1 pa m pc L (by rfl) P1.out.2.1 HNil.out (by omega) ?_; intro v3 w3 ho3 hg3; have H3 : Hid (w3.ownsRow Y.heap.size 39 1 v3 (0 + m) (([] ++ L).map (Value.int .u64)) ∧ Below Y.heap.size Y w3) := app_end P1.out.2.2 P1.out.1 ho3 hg3; clear ho3 hg3)
        | (refine step_appI _ Y.heap.size P2.out.2.2.1.size (by rfl) _ _ (by rfl) (.slice (some ⟨Y.heap.size + 1, 0, none⟩) 0 20) 0 [] (by rfl) P2.out.1 pa m pc L (by rfl) P2.out.2.1 HNil.out (by omega) ?_; intro v3 w3 ho3 hg3; have H3 : Hid (w3.ownsRow Y.heap.size 39 1 v3 (0 + m) (([] ++ L).map (Value.int .u64)) ∧ Below Y.heap.size Y w3) := app_end P2.out.2.2.1 P2.out.1 ho3 hg3; have Q3 : Hid (Ids w3 (some ⟨Y.heap.size, 0, none⟩) 1 [77]) := lit_kept P2.out.2.2.2 hg3 (by simp [Value.ownBlock]); clear ho3 hg3)
        | (refine step_appI _ Y.heap.size P3.out.2.2.1.size (by rfl) _ _ (by rfl) (.slice (some ⟨Y.heap.size, 0, none⟩) 0 20) 0 [] (by rfl) P3.out.1 pa m pc L (by rfl) P3.out.2.1 HNil.out (by omega) ?_; intro v3 w3 ho3 hg3; have H3 : Hid (w3.ownsRow Y.heap.size 39 1 v3 (0 + m) (([] ++ L).map (Value.int .u64)) ∧ Below Y.heap.size Y w3) := app_end P3.out.2.2.1 P3.out.1 ho3 hg3; have Q3 : Hid (Ids w3 (some ⟨Y.heap.size + 1, 0, none⟩) 1 [77]) := lit_kept P3.out.2.2.2 hg3 (by simp [Value.ownBlock]); clear ho3 hg3)
        | (refine step_appI _ Y.heap.size (by have := H3.out.2.size; simp; omega) (by rfl) _ _ (by rfl) v3 (0 + m) _ (by rfl) (H3.out.1.alloc _) (some ⟨w3.heap.size, 0, none⟩) 1 1 [77] (by rfl) (ids_lit w3 77) (fun h => by cases h) (by omega) ?_; intro v4 w4 ho4 hg4; have H4 : Hid (w4.ownsRow Y.heap.size 39 1 v4 (0 + m + 1) (([] ++ L ++ [77]).map (Value.int .u64)) ∧ Below Y.heap.size Y w4) := app_end (H3.out.2.alloc H3.out.2.size _) (H3.out.1.alloc _) ho4 hg4; clear ho4 hg4)
        | (refine step_appI _ Y.heap.size H3.out.2.size (by rfl) _ _ (by rfl) v3 (0 + m) _ (by rfl) H3.out.1 _ 1 1 [77] (by rfl) Q3.out (fun h => by cases h) (by omega) ?_; intro v4 w4 ho4 hg4; have H4 : Hid (w4.ownsRow Y.heap.size 39 1 v4 (0 + m + 1) (([] ++ L ++ [77]).map (Value.int .u64)) ∧ Below Y.heap.size Y w4) := app_end H3.out.2 H3.out.1 ho4 hg4; clear ho4 hg4))
      all_goals
        go_wp2_with fail
        go_meet
        obtain ⟨g, c4, e4, hc4⟩ := own_addr1 H4.out.1 (by omega)
        have h4 := H4.out
        rw [e4] at h4
        simp only [List.nil_append, Nat.zero_add] at h4 e4
        exact ⟨g, c4, e4, h4⟩
  case rest =>
    as_aux_lemma =>
      obtain ⟨g, c4, rfl, H⟩ := hcut
      clear b4
      have F7 : Hid (CF w t pa m pc g c4 bo L A d T (wc.setCell ⟨bo, 1, none⟩ (.slice (some ⟨g, 0, none⟩) m c4))) := cf_new hlt HB5.out hlb HYs.out b5 b6 HCB.out.2 H.out.1 H.out.2
      have hc4 : m + 1 ≤ c4 := by
        obtain ⟨_, _, e, h⟩ := own_addr1 H.out.1 (by omega)
        cases e
        exact h
      have bo7 := b5.kept H.out.2
      have bc7 := b6.kept H.out.2
      have j0 := bc7.cell.2.1
      obtain ⟨k0, k1', k2', k3', k4'⟩ := bo7.cell
      have fz := bo7.frozen.2.1
      obtain ⟨s0, s1, s2, s3, s4⟩ := F7.out.cb.cell
      obtain ⟨s5, s6, s7, s8, s9⟩ := F7.out.ob.cell
      have i4 : (m : Int) ≤ (c4 : Int) := by omega
      have hTl := comT_len (t := t) (L := L) (A := A) (T := T) d
      have HRC : Hid (∀ W, Ids W pa m L → Calls Try.prog 20 #[cmt t pa m pc A d T] W fun e w' => ∃ xa xc, e = .returned (.tuple #[.slice xa (comT t L A d T).length xc, .int .i64 (comErr t L A T)]) ∧ Bytes w' xa (comT t L A d T).length (comT t L A d T) ∧ Below W.heap.size W w') := fun W h => (refCom_any t pa m pc L A d T W (HCB.out.1.com pa pc h HCB.out.1.len.1 HCB.out.1.len.2.2)).mono fun e w' ⟨v, he, ho, hB⟩ => by
        obtain ⟨xa, xc, rfl, _⟩ := ho.shape rfl
        exact ⟨xa, xc, he, ho.bytes rfl, hB⟩
      have HSp : Hid (∀ W, CF w t pa m pc g c4 bo L A d T W → Speaks (coV t (some ⟨g, 0, none⟩) m c4 A d T) 3 (comT t L A d T) (comErr t L A T) (comI t L A T) W) := fun W h => com_speaks t _ m c4 L A d T W (HCB.out.1.com _ c4 h.pre (by omega) (fun e => by cases e))
      have HI : Hid (∀ W la, Ids W la (1 + m) (t :: L) → if comErr t L A T = 0 then Ids W la (1 + m) (comI t L A T) else comI t L A T = []) := fun W la h => by
        unfold comI
        by_cases h0 : comErr t L A T = 0
        · rw [if_pos h0, if_pos h0]; exact h
        · rw [if_neg h0, if_neg h0]
      have hIl : (comI t L A T).length ≤ 12 := by
        unfold comI
        split <;> simp <;> omega
      generalize comErr t L A T = E at HRC HSp HI
      generalize comT t L A d T = TT at HRC HSp hTl
      generalize comI t L A T = IDS at HSp HI hIl
      obtain ⟨XN, hXN⟩ : ∃ XN, XN = TT.length := ⟨_, rfl⟩
      rw [← hXN] at HRC hTl
      clear hXN P1 P2 P3 c0 c1 c2 c3 mk b5 b6 HB5 hlo k1 k2 k3 k4 H HYs
      go_wp2_with first
        | (go_at_call 20; refine (HRC.out _ F7.out.arg).mono ?_; clear HRC; rintro e w8 ⟨xa, xc, rfl, hx8, hB8⟩; have F8 : Hid (CF w t pa m pc g c4 bo L A d T w8 ∧ Bytes w8 xa XN TT) := ⟨F7.out.below hB8, hx8⟩; obtain ⟨p0, p1, p2, p3, p4⟩ := F8.out.1.cb.cell; have p5 := (F8.out.1.cb.alloc' (.cells #[.int .u64 t] 39)).cell.2.1; have hl8 : Ids (w8.alloc (.cells #[.int .u64 t] 39)) pa m L := F8.out.1.arg.below ((Below.refl _ _).alloc (Nat.le_refl _) _); clear F7 hB8 hx8 bo7 bc7 j0 k0 k1' k2' k3' k4' fz s0 s1 s2 s3 s4 s5 s6 s7 s8 s9)
        | (at_builtin; refine wpList_appI _ w8.heap.size (by simp) rfl _ _ rfl (.slice (some ⟨w8.heap.size, 0, none⟩) 1 1) 1 [t] rfl (own_lit w8 t) pa m pc L rfl hl8 HNil.out (by omega) ?_; intro v9 w9 ho9 hg9; have B9 : Below w8.heap.size w8 w9 := ((Below.refl _ _).alloc (Nat.le_refl _) _).trans (below_gr (own_lit w8 t) (by simp) hg9); obtain ⟨la, lc, hv9, hI9⟩ := own_idsN ho9; subst hv9; have F9 : Hid (CF w t pa m pc g c4 bo L A d T w9 ∧ Bytes w9 xa XN TT ∧ Ids w9 la (1 + m) (t :: L)) := ⟨F8.out.1.below B9, bytes_below F8.out.2 B9, hI9⟩; obtain ⟨q0, q1, q2, q3, q4⟩ := F9.out.1.ob.cell; clear F8 B9 hg9 ho9 hl8 p0 p1 p2 p3 p4 p5 hI9)
        | (go_at_call 11; refine (says_any _ 3 TT E IDS _ (HSp.out _ F9.out.1) xa XN xc F9.out.2.1 (by omega) la (1 + m) lc (HI.out _ _ F9.out.2.2) (by omega)).mono ?_; rintro e w10 ⟨rfl, hB10⟩; have F10 : Hid (CF w t pa m pc g c4 bo L A d T w10) := F9.out.1.below hB10; obtain ⟨r0, r1, r2, r3, r4⟩ := F10.out.ob.cell; obtain ⟨r5, r6, r7, r8, r9⟩ := F10.out.cb.cell; have y1 := F10.out.pre; have y2 := F10.out.arg; clear F9 hB10 q0 q1 q2 q3 q4 HSp HI)
        | (go_at_call 21; refine (commits_like t _ pa m c4 pc A d T _ L y1 y2 (by omega)).mono ?_; rintro e w11 ⟨rfl, hB11⟩; have F11 : Hid (CF w t pa m pc g c4 bo L A d T w11) := F10.out.below hB11; obtain ⟨z0, z1, z2, z3, z4⟩ := F11.out.ob.cell; have zc := F11.out.cb.cell.2.1; have zl := F11.out.last; clear F10 hB11 y1 y2 r0 r1 r2 r3 r4 r5 r6 r7 r8 r9)
        | (go_at_call 15; refine (Commit_any t _ m c4 A d T _).mono ?_; rintro e w12 ⟨rfl, hB12⟩; have F12 : Hid (CF w t pa m pc g c4 bo L A d T (w12.alloc (.cells #[.int .u64 t, .slice (some ⟨g, 0, none⟩) m c4, .string A, .int .i64 d, .string T] 42)) ∧ Box5 (w12.alloc (.cells #[.int .u64 t, .slice (some ⟨g, 0, none⟩) m c4, .string A, .int .i64 d, .string T] 42)) w12.heap.size (.int .u64 t) (.slice (some ⟨g, 0, none⟩) m c4) (.string A) (.int .i64 d) (.string T)) := ⟨(F11.out.below hB12).alloc _, Box5.new _ _ _ _ _ _⟩; obtain ⟨x0, x1, x2, x3, x4⟩ := F12.out.1.ob.cell; clear F11 hB12 z0 z1 z2 z3 z4 zc zl)
        | (go_at_call 13; refine (Blob_not 42 _ (by decide) _).mono ?_; rintro e w13 ⟨rfl, hB13⟩; have F13 : Hid (CF w t pa m pc g c4 bo L A d T (w13.alloc (.cells #[.slice none 0 0] 25)) ∧ Box5 (w13.alloc (.cells #[.slice none 0 0] 25)) w12.heap.size (.int .u64 t) (.slice (some ⟨g, 0, none⟩) m c4) (.string A) (.int .i64 d) (.string T)) := ⟨(F12.out.1.below hB13).alloc _, (F12.out.2.kept hB13).alloc' _⟩; obtain ⟨x10, x11, x12, x13, x14⟩ := F13.out.1.ob.cell; clear F12 hB13 x0 x1 x2 x3 x4)
        | (go_at_call 14; refine (Tree_not 42 _ (by decide) _).mono ?_; rintro e w14 ⟨rfl, hB14⟩; have F14 : Hid (CF w t pa m pc g c4 bo L A d T (w14.alloc (.cells #[.slice none 0 0] 35)) ∧ Box5 (w14.alloc (.cells #[.slice none 0 0] 35)) w12.heap.size (.int .u64 t) (.slice (some ⟨g, 0, none⟩) m c4) (.string A) (.int .i64 d) (.string T)) := ⟨(F13.out.1.below hB14).alloc _, (F13.out.2.kept hB14).alloc' _⟩; clear F13 hB14 x10 x11 x12 x13 x14)
      generalize w14.alloc (.cells #[.slice none 0 0] 35) = Z at F14 ⊢
      as_aux_lemma =>
        have FD : Hid (CF w t pa m pc g c4 bo L A d T Z.drew ∧ Box5 Z.drew w12.heap.size (.int .u64 t) (.slice (some ⟨g, 0, none⟩) m c4) (.string A) (.int .i64 d) (.string T)) := ⟨F14.out.1.below (belowD (Below.refl _ _)), F14.out.2⟩
        have hSof : ∀ W, CF w t pa m pc g c4 bo L A d T W ∧ Box5 W w12.heap.size (.int .u64 t) (.slice (some ⟨g, 0, none⟩) m c4) (.string A) (.int .i64 d) (.string T) → W.cell? ⟨w.heap.size, 0, none⟩ = some (.int .u64 t) ∧ W.cell? ⟨w.heap.size, 1, none⟩ = some (.slice pa m pc) ∧ W.cell? ⟨w.heap.size, 2, none⟩ = some (.string A) ∧ W.cell? ⟨w.heap.size, 3, none⟩ = some (.int .i64 d) ∧ W.cell? ⟨w.heap.size, 4, none⟩ = some (.string T) ∧ W.cell? ⟨bo, 0, none⟩ = some (.int .u64 t) ∧ W.cell? ⟨bo, 1, none⟩ = some (.slice (some ⟨g, 0, none⟩) m c4) ∧ W.cell? ⟨bo, 2, none⟩ = some (.string A) ∧ W.cell? ⟨bo, 3, none⟩ = some (.int .i64 d) ∧ W.cell? ⟨bo, 4, none⟩ = some (.string T) ∧ W.cell? ⟨w12.heap.size, 0, none⟩ = some (.int .u64 t) ∧ W.cell? ⟨w12.heap.size, 1, none⟩ = some (.slice (some ⟨g, 0, none⟩) m c4) ∧ W.cell? ⟨w12.heap.size, 2, none⟩ = some (.string A) ∧ W.cell? ⟨w12.heap.size, 3, none⟩ = some (.int .i64 d) ∧ W.cell? ⟨w12.heap.size, 4, none⟩ = some (.string T) := fun W h => by
          obtain ⟨a0, a1, a2, a3, a4⟩ := h.1.cb.cell
          obtain ⟨b0, b1, b2, b3, b4⟩ := h.1.ob.cell
          obtain ⟨d0, d1, d2, d3, d4⟩ := h.2.cell
          exact ⟨a0, a1, a2, a3, a4, b0, b1, b2, b3, b4, d0, d1, d2, d3, d4⟩
        have HS : Hid (∀ W, CF w t pa m pc g c4 bo L A d T W ∧ Box5 W w12.heap.size (.int .u64 t) (.slice (some ⟨g, 0, none⟩) m c4) (.string A) (.int .i64 d) (.string T) → W.cell? ⟨w.heap.size, 0, none⟩ = some (.int .u64 t) ∧ W.cell? ⟨w.heap.size, 1, none⟩ = some (.slice pa m pc) ∧ W.cell? ⟨w.heap.size, 2, none⟩ = some (.string A) ∧ W.cell? ⟨w.heap.size, 3, none⟩ = some (.int .i64 d) ∧ W.cell? ⟨w.heap.size, 4, none⟩ = some (.string T) ∧ W.cell? ⟨bo, 0, none⟩ = some (.int .u64 t) ∧ W.cell? ⟨bo, 1, none⟩ = some (.slice (some ⟨g, 0, none⟩) m c4) ∧ W.cell? ⟨bo, 2, none⟩ = some (.string A) ∧ W.cell? ⟨bo, 3, none⟩ = some (.int .i64 d) ∧ W.cell? ⟨bo, 4, none⟩ = some (.string T) ∧ W.cell? ⟨w12.heap.size, 0, none⟩ = some (.int .u64 t) ∧ W.cell? ⟨w12.heap.size, 1, none⟩ = some (.slice (some ⟨g, 0, none⟩) m c4) ∧ W.cell? ⟨w12.heap.size, 2, none⟩ = some (.string A) ∧ W.cell? ⟨w12.heap.size, 3, none⟩ = some (.int .i64 d) ∧ W.cell? ⟨w12.heap.size, 4, none⟩ = some (.string T)) := hSof
        have hS0 := hSof Z.drew FD.out
        clear F14 hSof
        go_region_held3 (fun W => W.cell? ⟨w.heap.size, 0, none⟩ = some (.int .u64 t) ∧ W.cell? ⟨w.heap.size, 1, none⟩ = some (.slice pa m pc) ∧ W.cell? ⟨w.heap.size, 2, none⟩ = some (.string A) ∧ W.cell? ⟨w.heap.size, 3, none⟩ = some (.int .i64 d) ∧ W.cell? ⟨w.heap.size, 4, none⟩ = some (.string T) ∧ W.cell? ⟨bo, 0, none⟩ = some (.int .u64 t) ∧ W.cell? ⟨bo, 1, none⟩ = some (.slice (some ⟨g, 0, none⟩) m c4) ∧ W.cell? ⟨bo, 2, none⟩ = some (.string A) ∧ W.cell? ⟨bo, 3, none⟩ = some (.int .i64 d) ∧ W.cell? ⟨bo, 4, none⟩ = some (.string T) ∧ W.cell? ⟨w12.heap.size, 0, none⟩ = some (.int .u64 t) ∧ W.cell? ⟨w12.heap.size, 1, none⟩ = some (.slice (some ⟨g, 0, none⟩) m c4) ∧ W.cell? ⟨w12.heap.size, 2, none⟩ = some (.string A) ∧ W.cell? ⟨w12.heap.size, 3, none⟩ = some (.int .i64 d) ∧ W.cell? ⟨w12.heap.size, 4, none⟩ = some (.string T))
          (first | assumption | exact hS0 | exact hS15 | exact hS16 | exact hS17)
          (first
            | (go_at_call 21; refine (commits_like t _ pa m c4 pc A d T _ L FD.out.1.pre FD.out.1.arg (by omega)).mono ?_; rintro e w15 ⟨rfl, hB15⟩; have F15 : Hid (CF w t pa m pc g c4 bo L A d T w15 ∧ Box5 w15 w12.heap.size (.int .u64 t) (.slice (some ⟨g, 0, none⟩) m c4) (.string A) (.int .i64 d) (.string T)) := ⟨FD.out.1.below hB15, FD.out.2.kept hB15⟩; have hS15 := HS.out w15 F15.out; clear FD hB15)
            | (go_at_call 22; refine (must_commit_any t _ m c4 A d T _).mono ?_; rintro e w16 ⟨rfl, hB16⟩; have F16 : Hid (CF w t pa m pc g c4 bo L A d T w16 ∧ Box5 w16 w12.heap.size (.int .u64 t) (.slice (some ⟨g, 0, none⟩) m c4) (.string A) (.int .i64 d) (.string T)) := ⟨F15.out.1.below hB16, F15.out.2.kept hB16⟩; have hS16 := HS.out w16 F16.out; clear F15 hB16)
            | (go_at_call 21; refine (commits_like t _ pa m c4 pc A d T _ L F16.out.1.pre F16.out.1.arg (by omega)).mono ?_; rintro e w17 ⟨rfl, hB17⟩; have F17 : Hid (CF w t pa m pc g c4 bo L A d T w17 ∧ Box5 w17 w12.heap.size (.int .u64 t) (.slice (some ⟨g, 0, none⟩) m c4) (.string A) (.int .i64 d) (.string T)) := ⟨F16.out.1.below hB17, F16.out.2.kept hB17⟩; have hS17 := HS.out w17 F17.out; clear F16 hB17))
        clear hS0 hS15 hS16 hS17 HS
        have F17' : Hid (CF w t pa m pc g c4 bo L A d T w17) := F17.out.1
        have p17 := F17'.out.pre
        obtain ⟨o0, o1, o2, o3, o4⟩ := F17'.out.ob.cell
        clear F17
        go_wp2_with first
          | (go_at_call 16; refine (Copy_com t (some ⟨g, 0, none⟩) m c4 L A d T _ p17 (fun h => by cases h) (by omega)).mono ?_; rintro e w18 ⟨ca, cc, rfl, hO18, hB18⟩; have G18 : Hid (∀ w19, Below w18.heap.size w18 w19 → CC w t pa m pc g c4 bo L A d T w19.heap.size ca cc (w19.alloc (.cells #[.int .u64 t, .slice ca m cc, .string A, .int .i64 d, .string T] 42)) ∧ Ids (w19.alloc (.cells #[.int .u64 t, .slice ca m cc, .string A, .int .i64 d, .string T] 42)) ca m L) := fun w19 h => ⟨cc_new F17'.out hO18 hB18 h, by obtain ⟨a', c', e, hI⟩ := own_idsN hO18; cases e; exact hI.below (h.alloc h.size _)⟩; clear F17' p17 hO18 hB18 o0 o1 o2 o3 o4)
          | (go_at_call 15; refine (Commit_any t ca m cc A d T _).mono ?_; rintro e w19 ⟨rfl, hB19⟩; obtain ⟨h19, y19⟩ := G18.out _ hB19; have C19 : Hid (CC w t pa m pc g c4 bo L A d T w19.heap.size ca cc (w19.alloc (.cells #[.int .u64 t, .slice ca m cc, .string A, .int .i64 d, .string T] 42))) := h19; obtain ⟨e0, e1, e2, e3, e4⟩ := h19.box.cell; obtain ⟨e5, e6, e7, e8, e9⟩ := h19.cf.cb.cell; have q19 := h19.cf.arg; clear h19 G18 hB19)
          | (go_at_call 21; refine (commits_like t ca pa m cc pc A d T _ L y19 q19 (by omega)).mono ?_; rintro e w20 ⟨rfl, hB20⟩; have C20 : Hid (CC w t pa m pc g c4 bo L A d T w19.heap.size ca cc w20) := C19.out.below hB20; obtain ⟨l0, l1, l2, l3, l4⟩ := C20.out.box.cell; clear q19 y19 C19 e0 e1 e2 e3 e4 e5 e6 e7 e8 e9 hB20)
        go_loopw [146] (fun j wr => ∃ i : Nat, i ≤ m ∧ j = .int .i64 (i : Int) ∧ Hid (CC w t pa m pc g c4 bo L A d T w19.heap.size ca cc wr)) (fun j _ => m - (intOf j).toNat)
        case atStart => exact ⟨0, Nat.zero_le _, rfl, C20.out⟩
        case round =>
          clear C20 l0 l1 l2 l3 l4
          obtain ⟨i, hi, rfl, H⟩ := hrel
          have cb := H.out.box.cell.2.1
          by_cases hik : i < m
          · obtain ⟨g2, z, hca, cz, fz, H2⟩ := H.out.at i hik
            subst hca
            have HH : Hid (∀ u, CC w t pa m pc g c4 bo L A d T w19.heap.size (some ⟨g2, 0, none⟩) cc (wr.setCell ⟨g2, i, none⟩ u)) := H2
            have i5 : (i : Int) < (m : Int) := by omega
            have i6 : ¬ m ≤ i := by omega
            clear H H2
            go_wp2
            go_roundw
            case rel => exact ⟨i + 1, by omega, by simp, HH.out _⟩
            case measure => simp [intOf]; omega
          · obtain rfl : i = m := by omega
            have i5 : ¬ (i : Int) < (i : Int) := by omega
            have FE : Hid (CF w t pa i pc g c4 bo L A d T wr) := H.out.cf
            have p20 := FE.out.pre
            have q20 := FE.out.arg
            obtain ⟨r0, r1, r2, r3, r4⟩ := FE.out.ob.cell
            obtain ⟨r5, r6, r7, r8, r9⟩ := FE.out.cb.cell
            clear H cb
            go_wp2_with first
              | (go_at_call 21; refine (commits_like t _ pa i c4 pc A d T _ L p20 q20 (by omega)).mono ?_; rintro e w21 ⟨rfl, hB21⟩; have F21 := FE.out.below hB21)
              | (go_at_call 9; refine (wakes_any _).mono ?_; rintro e w22 ⟨rfl, hB22⟩)
            go_ret
            exact ⟨rfl, (F21.below hB22).bel⟩
end Go.Proofs.Ytdibdcbihleflaa
