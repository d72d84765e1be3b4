import Derived.Test.YtggnglgehobglaaGreatDoorP46
import Derived.Test.YtggnglgehobglaaGreatDoorP47
/- The walk of Read. -/
namespace Go.Proofs.YtggnglgehobglaaGreatDoor
open Go.RowKit Go.Shelf Go.Maps

attribute [local go_sem] Oper.semAt_some

theorem uwrap (n : Int) (h1 : -9223372036854775808 ≤ n) (h2 : n ≤ 9223372036854775807) : IntKind.i64.wrap n = n := by
  simp [IntKind.wrap, IntKind.signed, IntKind.bits]
  omega

set_option maxRecDepth 100000 in
set_option maxHeartbeats 4000000 in
theorem uread_any (s : ByteArray) (w : World) (hT : Tabs w) (hs : s.size ≤ maxLen) : Calls Tryz.prog 21 #[.string s] w (RPost s w) := by
  by_cases hlong : 131072 < s.size
  · have i1 : (131072 : Int) < s.size := by omega
    have HT0 : Hid (readT (bs s) = .error (3, 0)) := by
      show _ = _
      unfold readT
      rw [if_pos (by rw [bs_len]; exact hlong)]
    go_enter Tryz.func21, Tryz.ntmps21
    go_wp2
    have a1 := Boxed.new w 34 (.slice none 0 0)
    have a2 := Box2.new (w.alloc (.cells #[.slice none 0 0] 34)) (.int .i64 3) (.int .i64 0)
    rw [World.size_alloc] at a2
    refine rr_ret (a1.alloc _) a2 rfl rfl rfl ⟨.inr ⟨3, 0, HT0.out, rfl⟩, ?_⟩
    exact ((Below.refl _ w).alloc (Nat.le_refl _) _).alloc (by simp) _
  · have i1 : ¬ (131072 : Int) < s.size := by omega
    have HT0 : Hid (readT (bs s) = readG (linesL (bs s)) [] 0) := by
      show _ = _
      unfold readT
      rw [if_neg (by rw [bs_len]; exact hlong)]
    refine (callsIn_wide (n := 5)).1 ?_
    refine callsIn_of_wp_marks Tryz.func21 rfl trivial ?_ rfl
    simp only [Tryz.ntmps21, List.size_toArray, List.length_cons, List.length_nil, Nat.reduceAdd, Nat.reduceSub, Array.replicate_succ, Array.replicate_zero, List.push_toArray, List.append_toArray, List.nil_append, List.cons_append]
    refine wpIn_wide.2 ?_
    go_wp2_with (go_at_call 48; refine (lines_any s _).mono ?_; rintro e w' ⟨rfl, rfl⟩)
    obtain ⟨w4, hw4⟩ : ∃ w4, w4 = ((((w.alloc (.cells #[.slice none 0 0] 34)).alloc (.cells #[.int .i64 0, .int .i64 0] 48)).alloc (.cells #[.slice none 0 0] 34)).alloc (.cells #[.int .i64 0] 3)).alloc (.cells #[.string s] 9) := ⟨_, rfl⟩
    rw [← hw4]
    have hs4 : w4.heap.size = w.heap.size + 5 := by rw [hw4]; simp
    have M0 : RdM w s [] 0 (.slice none 0 0) w4 := by
      have a1 := Boxed.new w 34 (.slice none 0 0)
      have a2 := Box2.new (w.alloc (.cells #[.slice none 0 0] 34)) (.int .i64 0) (.int .i64 0)
      have a3 := Boxed.new ((w.alloc (.cells #[.slice none 0 0] 34)).alloc (.cells #[.int .i64 0, .int .i64 0] 48)) 34 (.slice none 0 0)
      have a4 := Boxed.new (((w.alloc (.cells #[.slice none 0 0] 34)).alloc (.cells #[.int .i64 0, .int .i64 0] 48)).alloc (.cells #[.slice none 0 0] 34)) 3 (.int .i64 0)
      have a5 := Boxed.new ((((w.alloc (.cells #[.slice none 0 0] 34)).alloc (.cells #[.int .i64 0, .int .i64 0] 48)).alloc (.cells #[.slice none 0 0] 34)).alloc (.cells #[.int .i64 0] 3)) 9 (.string s)
      simp only [World.size_alloc] at a2 a3 a4 a5
      rw [hw4]
      refine ⟨(((a1.alloc _).alloc _).alloc _).alloc _, ?_, (a3.alloc _).alloc _, a4.alloc _, a5, World.ownsRow_nil _ _ _ _, ?_⟩
      · exact a2.kept (((Below.refl _ _).alloc (Nat.le_refl _) _ |>.alloc (by simp) _) |>.alloc (by simp) _)
      · exact (((((Below.refl _ w).alloc (Nat.le_refl _) _).alloc (by simp) _).alloc (by simp; omega) _).alloc (by simp; omega) _).alloc (by simp; omega) _
    clear hw4
    refine (wpIn_wide (n := 5)).1 ?_
    refine range_walks (α := Ln s) (w := w4) rfl (by omega) (gf := 69) (lb := #[.pointer (some ⟨w.heap.size + 4, 0, none⟩)]) rfl trivial (enters_of Tryz.func69 (by kernel_rfl) rfl)
      (lines_tellsW s hs w4 (w.heap.size + 4) M0.txt 4 (by omega)) (fun _ => rfl) (by omega) (RdI w s) (RdXI w s) (rdI_own w s _ (by omega)) (rdX_own w s _ (by omega)) ⟨[], 0, _, M0, Gh.start s⟩ ?act ?assign ?body ?done ?stop
    case assign =>
      intro l x W K hK
      gi_wp2
      exact hK
    case body =>
      rintro l pre x W hl ⟨rs, b, v, hM, hG⟩ hSp
      have hd : 1 ≤ 5 - 1 - 1 := by omega
      have hxs := x.2.2.1
      have hnl := next_lineU hSp
      have hrl := readLine_any x.1.2 W (hT.below hM.bel) (by omega)
      have hbs := hG.small
      obtain ⟨X, hX⟩ : ∃ X, X = x.1.2 := ⟨_, rfl⟩
      have hlen : (bs X).length = X.size := bs_len X
      rw [← hX] at hrl hxs hnl ⊢
      have HM : Hid (RdM w s rs b v W) := hM
      have HG : Hid (Gh s pre.length rs b) := hG
      have HN : Hid ((linesL (bs s))[pre.length]? = some (bs X)) := hnl
      have HB : Hid (b ≤ s.size + 1) := hbs
      clear hG hSp hX hnl M0 hs4 hl hbs
      unfold LPost at hrl
      cases hg : lineG (bs X) with
      | error ep =>
        obtain ⟨er, ep⟩ := ep
        rw [hg] at hrl
        simp only [lineV] at hrl
        have hrl : Calls Tryz.prog 49 #[.string X] W fun e w' => e = .returned (.tuple #[rv 0 ⟨#[]⟩ ⟨#[]⟩, .agg #[.int .i64 (er : Int), .int .i64 (ep : Int)]]) ∧ Below W.heap.size W w' := hrl
        obtain ⟨ad, cp, rfl, hcp, -⟩ := row_shapeR hM.row
        have HR : Hid (readG (linesL (bs s)) [] 0 = .error (er, b + ep)) := HG.out.wrong HN.out hg
        obtain ⟨hE, hP⟩ := lineG_bad hg
        have ie : ¬ (er : Int) = 0 := by omega
        have ib : (b : Int) + (ep : Int) ≤ 9223372036854775807 := by have := HB.out; omega
        clear hM hg HN HG hE hP
        gi_wp2_with (refine ⟨trivial, ?_⟩; gi_at_call 49; refine (CallsIn.inRound l (callsIn_wide.2 hrl)).mono ?_; clear hrl; rintro e W1 ⟨rfl, hB1⟩; have HM2 : Hid (RdM w s rs b (.slice ad rs.length cp) (W1.alloc (.cells #[.int .i64 0, .string ⟨#[]⟩, .string ⟨#[]⟩] 31))) := (HM.out.below hB1).alloc _; have HB1 : Hid (Below W.heap.size W W1) := hB1; clear hB1)
        have M3 : RdM w s rs b (.slice ad rs.length cp) ((W1.alloc (.cells #[.int .i64 0, .string ⟨#[]⟩, .string ⟨#[]⟩] 31)).alloc (.cells #[.int .i64 (er : Int), .int .i64 (ep : Int)] 48)) := HM2.out.alloc _
        obtain ⟨s0, s1⟩ := (Box2.new (W1.alloc (.cells #[.int .i64 0, .string ⟨#[]⟩, .string ⟨#[]⟩] 31)) (.int .i64 (er : Int)) (.int .i64 (ep : Int))).cell
        rw [World.size_alloc] at s0 s1
        have hlt3 := M3.lt
        simp only [World.size_alloc] at hlt3
        have hlt1 : w.heap.size + 5 ≤ W1.heap.size := Nat.le_trans HM.out.lt HB1.out.size
        have hK3 : KeepsOthers W ((W1.alloc (.cells #[.int .i64 0, .string ⟨#[]⟩, .string ⟨#[]⟩] 31)).alloc (.cells #[.int .i64 (er : Int), .int .i64 (ep : Int)] 48)) := ((KeepsOthers.of_below HB1.out).trans (KeepsOthers.alloc _ _)).trans (KeepsOthers.alloc _ _)
        generalize (W1.alloc (.cells #[.int .i64 0, .string ⟨#[]⟩, .string ⟨#[]⟩] 31)).alloc (.cells #[.int .i64 (er : Int), .int .i64 (ep : Int)] 48) = W3 at *
        generalize W1.heap.size = g at *
        have cB := M3.beg.cell
        have cA := M3.res.cell
        have fA := M3.res.frozen
        obtain ⟨x0, x1⟩ := M3.spot.cell
        obtain ⟨y0, y1⟩ := M3.spot.frozen
        have n1 : ¬ g + 1 = w.heap.size := by omega
        have n2 : ¬ w.heap.size = g + 1 := by omega
        have HM3 : Hid (RdM w s rs b (.slice ad rs.length cp) W3) := M3
        have HK3 : Hid (KeepsOthers W W3) := hK3
        clear M3 hK3 HM HM2 HB1 hT hs HB HT0
        have hwrap : IntKind.i64.wrap ((b : Int) + (ep : Int)) = (b : Int) + (ep : Int) := uwrap _ (by omega) (by omega)
        have hmx : Tryz.prog.follows .mixedOrders = true := by kernel_rfl
        have hT0 : W3.drew.cell? ⟨g + 1, 0, none⟩ = some (.int .i64 (er : Int)) ∧ W3.drew.cell? ⟨g + 1, 1, none⟩ = some (.int .i64 (ep : Int)) ∧ W3.drew.cell? ⟨w.heap.size + 3, 0, none⟩ = some (.int .i64 (b : Int)) := ⟨s0, s1, cB⟩
        refine region_G_round (S := SB 1000 (fun _ => True) (fun Y => Y.cell? ⟨g + 1, 0, none⟩ = some (.int .i64 (er : Int)) ∧ Y.cell? ⟨g + 1, 1, none⟩ = some (.int .i64 (ep : Int)) ∧ Y.cell? ⟨w.heap.size + 3, 0, none⟩ = some (.int .i64 (b : Int)))) hmx (by kernel_rfl) (fun ⟨_, _, h⟩ => h) ?_
        refine wpAnyG_takeP (i := 0) (v := ?_) rfl (by kernel_rfl) (by kernel_rfl) (by kernel_rfl) (fun _ _ _ h => h) rfl (Or.inl ⟨by rfl, ?_⟩) (SB.off (by kernel_rfl) hT0) ?_
        rotate_left
        · intro Y hY; obtain ⟨e0, e1, e2⟩ := hY; go_simp; try with_reducible rfl
        intro hSB0
        simp only [Act.put, List.getElem_toArray, List.getElem_cons_zero, List.setIfInBounds_toArray, List.set_cons_zero, List.set_cons_succ]
        refine wpAnyG_takeP (i := 1) (v := ?_) rfl (by kernel_rfl) (by kernel_rfl) (by kernel_rfl) (fun _ _ _ h => h) rfl (Or.inl ⟨by rfl, ?_⟩) (by assumption) ?_
        rotate_left
        · intro Y hY; obtain ⟨e0, e1, e2⟩ := hY; go_simp; try with_reducible rfl
        intro hSB1
        simp only [Act.put, List.getElem_toArray, List.getElem_cons_zero, List.getElem_cons_succ, List.setIfInBounds_toArray, List.set_cons_zero, List.set_cons_succ]
        refine wpAnyG_takeP (i := 2) (v := ?_) rfl (by kernel_rfl) (by kernel_rfl) (by kernel_rfl) (fun _ _ _ h => h) rfl (Or.inl ⟨by rfl, ?_⟩) (by assumption) ?_
        rotate_left
        · intro Y hY; obtain ⟨e0, e1, e2⟩ := hY; go_simp; try with_reducible rfl
        intro hSB2
        simp only [Act.put, List.getElem_toArray, List.getElem_cons_zero, List.getElem_cons_succ, List.setIfInBounds_toArray, List.set_cons_zero, List.set_cons_succ]
        refine wpAnyG_takeP (i := 3) (v := ?_) rfl (by kernel_rfl) (by kernel_rfl) (by kernel_rfl) (fun _ _ _ h => h) rfl (Or.inl ⟨by rfl, ?_⟩) (by assumption) ?_
        rotate_left
        · intro Y hY; obtain ⟨e0, e1, e2⟩ := hY; go_simp; try with_reducible rfl
        intro hSB3
        simp only [Act.put, List.getElem_toArray, List.getElem_cons_zero, List.getElem_cons_succ, List.setIfInBounds_toArray, List.set_cons_zero, List.set_cons_succ]
        refine wpAnyG_takeP (i := 4) (v := ?_) rfl (by kernel_rfl) (by kernel_rfl) (by kernel_rfl) (fun _ _ _ h => h) rfl (Or.inl ⟨by rfl, ?_⟩) (by assumption) ?_
        rotate_left
        · intro Y hY; obtain ⟨e0, e1, e2⟩ := hY; go_simp; try with_reducible rfl
        intro hSB4
        simp only [Act.put, List.getElem_toArray, List.getElem_cons_zero, List.getElem_cons_succ, List.setIfInBounds_toArray, List.set_cons_zero, List.set_cons_succ]
        refine wpAnyG_takeP (i := 5) (v := ?_) rfl (by kernel_rfl) (by kernel_rfl) (by kernel_rfl) (fun _ _ _ h => h) rfl (Or.inl ⟨by rfl, ?_⟩) (by assumption) ?_
        rotate_left
        · intro Y hY; obtain ⟨e0, e1, e2⟩ := hY; go_simp; try with_reducible rfl
        intro hSB5
        simp only [Act.put, List.getElem_toArray, List.getElem_cons_zero, List.getElem_cons_succ, List.setIfInBounds_toArray, List.set_cons_zero, List.set_cons_succ]
        refine wpAnyG_takeP (i := 6) (v := ?_) rfl (by kernel_rfl) (by kernel_rfl) (by kernel_rfl) (fun _ _ _ h => h) rfl (Or.inl ⟨by rfl, ?_⟩) (by assumption) ?_
        rotate_left
        · intro Y hY; obtain ⟨e0, e1, e2⟩ := hY; go_simp; try with_reducible rfl
        intro hSB6
        simp only [Act.put, List.getElem_toArray, List.getElem_cons_zero, List.getElem_cons_succ, List.setIfInBounds_toArray, List.set_cons_zero, List.set_cons_succ]
        have m1 : g + 1 ≠ w.heap.size := n1
        have m2 : g + 1 ≠ w.heap.size + 1 := by omega
        have T7 : (W3.drew.setCell ⟨w.heap.size, 0, none⟩ (.slice none 0 0)).cell? ⟨g + 1, 0, none⟩ = some (.int .i64 (er : Int)) ∧ (W3.drew.setCell ⟨w.heap.size, 0, none⟩ (.slice none 0 0)).cell? ⟨g + 1, 1, none⟩ = some (.int .i64 (ep : Int)) ∧ (W3.drew.setCell ⟨w.heap.size, 0, none⟩ (.slice none 0 0)).cell? ⟨w.heap.size + 3, 0, none⟩ = some (.int .i64 (b : Int)) := ⟨cell_far s0 m1, cell_far s1 m1, cell_far cB (by omega)⟩
        have T8 : (((W3.setCell ⟨w.heap.size, 0, none⟩ (.slice none 0 0)).setCell ⟨w.heap.size + 1, 0, none⟩ (.int .i64 (er : Int))).setCell ⟨w.heap.size + 1, 1, none⟩ (.int .i64 ((b : Int) + (ep : Int)))).drew.cell? ⟨g + 1, 0, none⟩ = some (.int .i64 (er : Int)) ∧ (((W3.setCell ⟨w.heap.size, 0, none⟩ (.slice none 0 0)).setCell ⟨w.heap.size + 1, 0, none⟩ (.int .i64 (er : Int))).setCell ⟨w.heap.size + 1, 1, none⟩ (.int .i64 ((b : Int) + (ep : Int)))).drew.cell? ⟨g + 1, 1, none⟩ = some (.int .i64 (ep : Int)) ∧ (((W3.setCell ⟨w.heap.size, 0, none⟩ (.slice none 0 0)).setCell ⟨w.heap.size + 1, 0, none⟩ (.int .i64 (er : Int))).setCell ⟨w.heap.size + 1, 1, none⟩ (.int .i64 ((b : Int) + (ep : Int)))).drew.cell? ⟨w.heap.size + 3, 0, none⟩ = some (.int .i64 (b : Int)) := ⟨cell_far (cell_far (cell_far s0 m1) m2) m2, cell_far (cell_far (cell_far s1 m1) m2) m2, cell_far (cell_far (cell_far cB (by omega)) (by omega)) (by omega)⟩
        refine wpAnyG_one (i := 7) (by kernel_rfl) rfl (fun K hK => ?_)
        go_simp
        refine hK.out _ _ (SB.off (by kernel_rfl) T7) (fun hSB7 => ?_)
        clear hK K
        refine wpAnyG_one (i := 8) (by kernel_rfl) rfl (fun K hK => ?_)
        go_simp
        refine hK.out _ _ (SB.off (by kernel_rfl) T8) (fun hSB8 => ?_)
        clear hK K
        refine wpAnyG_done (by kernel_rfl) ?_ _
        gi_wp2
        have hfin := fun a => rd_off_drew (pre := pre ++ [x]) (a := a) HM3.out HK3.out er (b + ep) HR.out
        simp only [Int.natCast_add] at hfin
        exact hfin _
      | ok o =>
        cases o with
        | none =>
          rw [hg] at hrl
          have hrl : Calls Tryz.prog 49 #[.string X] W fun e w' => e = .returned (.tuple #[rv 0 ⟨#[]⟩ ⟨#[]⟩, .agg #[.int .i64 0, .int .i64 0]]) ∧ Below W.heap.size W w' := hrl
          have i5 : (b : Int) + ((X.size : Int) + 1) ≤ 9223372036854775807 := by have := HB.out; omega
          have i6 : (X.size : Int) + 1 ≤ 9223372036854775807 := by omega
          clear hM
          gi_wp2_with (refine ⟨trivial, ?_⟩; gi_at_call 49; refine (CallsIn.inRound l (callsIn_wide.2 hrl)).mono ?_; clear hrl; rintro e W1 ⟨rfl, hB1⟩; have M2 : RdM w s rs b v ((W1.alloc (.cells #[.int .i64 0, .string ⟨#[]⟩, .string ⟨#[]⟩] 31)).alloc (.cells #[.int .i64 0, .int .i64 0] 48)) := ((HM.out.below hB1).alloc _).alloc _; have cB := M2.beg.cell; have fB := M2.beg.frozen; have HM2 : Hid (RdM w s rs b v ((W1.alloc (.cells #[.int .i64 0, .string ⟨#[]⟩, .string ⟨#[]⟩] 31)).alloc (.cells #[.int .i64 0, .int .i64 0] 48))) := M2; have HB1 : Hid (Below W.heap.size W W1) := hB1; clear M2 hB1)
          have hK : KeepsOthers W W1 := KeepsOthers.of_below HB1.out
          refine rd_on HM.out (HM2.out.step (b + (bs X).length + 1) _ (by rw [hlen]; omega)) (((hK.trans (KeepsOthers.alloc _ _)).trans (KeepsOthers.alloc _ _)).trans (KeepsOthers.setCell _ _ _)) (HG.out.quiet HN.out hg)
        | some r =>
          have hk0 : (r.1 == 0) = false := by
            obtain ⟨_, ws, _, hw⟩ := lineG_ok hg
            exact beq_false_of_ne (ruleW_ne hw)
          rw [hg] at hrl
          have hrl : Calls Tryz.prog 49 #[.string X] W fun e w' => e = .returned (.tuple #[ruV r, .agg #[.int .i64 0, .int .i64 0]]) ∧ Below W.heap.size W w' := hrl
          have hne := neR
          obtain ⟨ad, cp, rfl, hcp, -⟩ := row_shapeR hM.row
          by_cases h64 : rs.length = 64
          · have HR : Hid (readG (linesL (bs s)) [] 0 = .error (3, b)) := HG.out.full HN.out hg h64
            have i64 : ((rs.length : Nat) : Int) = 64 := by omega
            obtain ⟨rk, rf, rt⟩ := r
            simp only at hk0
            have ib : (b : Int) ≤ 9223372036854775807 := by have := HB.out; omega
            clear hM hg hlen HN HG
            gi_wp2_with (refine ⟨trivial, ?_⟩; gi_at_call 49; refine (CallsIn.inRound l (callsIn_wide.2 hrl)).mono ?_; clear hrl; rintro e W1 ⟨rfl, hB1⟩; have M2 : RdM w s rs b (.slice ad rs.length cp) ((W1.alloc (.cells #[.int .i64 rk, .string (mk rf), .string (mk rt)] 31)).alloc (.cells #[.int .i64 0, .int .i64 0] 48)) := ((HM.out.below hB1).alloc _).alloc _; have cR := M2.rul.cell; have HM2 : Hid (RdM w s rs b (.slice ad rs.length cp) ((W1.alloc (.cells #[.int .i64 rk, .string (mk rf), .string (mk rt)] 31)))) := (HM.out.below hB1).alloc _; have HB1 : Hid (Below W.heap.size W W1) := hB1; clear M2 hB1)
            have M3 : RdM w s rs b (.slice ad rs.length cp) ((W1.alloc (.cells #[.int .i64 rk, .string (mk rf), .string (mk rt)] 31)).alloc (.cells #[.int .i64 3, .int .i64 0] 48)) := HM2.out.alloc _
            obtain ⟨s0, s1⟩ := (Box2.new (W1.alloc (.cells #[.int .i64 rk, .string (mk rf), .string (mk rt)] 31)) (.int .i64 3) (.int .i64 0)).cell
            rw [World.size_alloc] at s0 s1
            have hlt3 := M3.lt
            simp only [World.size_alloc] at hlt3
            have hlt1 : w.heap.size + 5 ≤ W1.heap.size := Nat.le_trans HM.out.lt HB1.out.size
            have hK3 : KeepsOthers W ((W1.alloc (.cells #[.int .i64 rk, .string (mk rf), .string (mk rt)] 31)).alloc (.cells #[.int .i64 3, .int .i64 0] 48)) := ((KeepsOthers.of_below HB1.out).trans (KeepsOthers.alloc _ _)).trans (KeepsOthers.alloc _ _)
            generalize (W1.alloc (.cells #[.int .i64 rk, .string (mk rf), .string (mk rt)] 31)).alloc (.cells #[.int .i64 3, .int .i64 0] 48) = W3 at *
            generalize W1.heap.size = g at *
            have cB := M3.beg.cell
            have cA := M3.res.cell
            have fA := M3.res.frozen
            obtain ⟨x0, x1⟩ := M3.spot.cell
            obtain ⟨y0, y1⟩ := M3.spot.frozen
            have n1 : ¬ g + 1 = w.heap.size := by omega
            have n2 : ¬ w.heap.size = g + 1 := by omega
            have HM3 : Hid (RdM w s rs b (.slice ad rs.length cp) W3) := M3
            have HK3 : Hid (KeepsOthers W W3) := hK3
            clear M3 hK3 HM HM2 HB1 hT hs HB HT0
            have hwrap : IntKind.i64.wrap (b : Int) = (b : Int) := uwrap _ (by omega) (by omega)
            have hmx : Tryz.prog.follows .mixedOrders = true := by kernel_rfl
            have hT0 : W3.drew.cell? ⟨g + 1, 0, none⟩ = some (.int .i64 3) ∧ W3.drew.cell? ⟨g + 1, 1, none⟩ = some (.int .i64 0) ∧ W3.drew.cell? ⟨w.heap.size + 3, 0, none⟩ = some (.int .i64 (b : Int)) := ⟨s0, s1, cB⟩
            refine region_G_round (S := SB 1000 (fun _ => True) (fun Y => Y.cell? ⟨g + 1, 0, none⟩ = some (.int .i64 3) ∧ Y.cell? ⟨g + 1, 1, none⟩ = some (.int .i64 0) ∧ Y.cell? ⟨w.heap.size + 3, 0, none⟩ = some (.int .i64 (b : Int)))) hmx (by kernel_rfl) (fun ⟨_, _, h⟩ => h) ?_
            refine wpAnyG_takeP (i := 0) (v := ?_) rfl (by kernel_rfl) (by kernel_rfl) (by kernel_rfl) (fun _ _ _ h => h) rfl (Or.inl ⟨by rfl, ?_⟩) (SB.off (by kernel_rfl) hT0) ?_
            rotate_left
            · intro Y hY; obtain ⟨e0, e1, e2⟩ := hY; go_simp; try with_reducible rfl
            intro hSB0
            simp only [Act.put, List.getElem_toArray, List.getElem_cons_zero, List.setIfInBounds_toArray, List.set_cons_zero, List.set_cons_succ]
            refine wpAnyG_takeP (i := 1) (v := ?_) rfl (by kernel_rfl) (by kernel_rfl) (by kernel_rfl) (fun _ _ _ h => h) rfl (Or.inl ⟨by rfl, ?_⟩) (by assumption) ?_
            rotate_left
            · intro Y hY; obtain ⟨e0, e1, e2⟩ := hY; go_simp; try with_reducible rfl
            intro hSB1
            simp only [Act.put, List.getElem_toArray, List.getElem_cons_zero, List.getElem_cons_succ, List.setIfInBounds_toArray, List.set_cons_zero, List.set_cons_succ]
            refine wpAnyG_takeP (i := 2) (v := ?_) rfl (by kernel_rfl) (by kernel_rfl) (by kernel_rfl) (fun _ _ _ h => h) rfl (Or.inl ⟨by rfl, ?_⟩) (by assumption) ?_
            rotate_left
            · intro Y hY; obtain ⟨e0, e1, e2⟩ := hY; go_simp; try with_reducible rfl
            intro hSB2
            simp only [Act.put, List.getElem_toArray, List.getElem_cons_zero, List.getElem_cons_succ, List.setIfInBounds_toArray, List.set_cons_zero, List.set_cons_succ]
            refine wpAnyG_takeP (i := 3) (v := ?_) rfl (by kernel_rfl) (by kernel_rfl) (by kernel_rfl) (fun _ _ _ h => h) rfl (Or.inl ⟨by rfl, ?_⟩) (by assumption) ?_
            rotate_left
            · intro Y hY; obtain ⟨e0, e1, e2⟩ := hY; go_simp; try with_reducible rfl
            intro hSB3
            simp only [Act.put, List.getElem_toArray, List.getElem_cons_zero, List.getElem_cons_succ, List.setIfInBounds_toArray, List.set_cons_zero, List.set_cons_succ]
            refine wpAnyG_takeP (i := 4) (v := ?_) rfl (by kernel_rfl) (by kernel_rfl) (by kernel_rfl) (fun _ _ _ h => h) rfl (Or.inl ⟨by rfl, ?_⟩) (by assumption) ?_
            rotate_left
            · intro Y hY; obtain ⟨e0, e1, e2⟩ := hY; go_simp; try with_reducible rfl
            intro hSB4
            simp only [Act.put, List.getElem_toArray, List.getElem_cons_zero, List.getElem_cons_succ, List.setIfInBounds_toArray, List.set_cons_zero, List.set_cons_succ]
            refine wpAnyG_takeP (i := 5) (v := ?_) rfl (by kernel_rfl) (by kernel_rfl) (by kernel_rfl) (fun _ _ _ h => h) rfl (Or.inl ⟨by rfl, ?_⟩) (by assumption) ?_
            rotate_left
            · intro Y hY; obtain ⟨e0, e1, e2⟩ := hY; go_simp; try with_reducible rfl
            intro hSB5
            simp only [Act.put, List.getElem_toArray, List.getElem_cons_zero, List.getElem_cons_succ, List.setIfInBounds_toArray, List.set_cons_zero, List.set_cons_succ]
            refine wpAnyG_takeP (i := 6) (v := ?_) rfl (by kernel_rfl) (by kernel_rfl) (by kernel_rfl) (fun _ _ _ h => h) rfl (Or.inl ⟨by rfl, ?_⟩) (by assumption) ?_
            rotate_left
            · intro Y hY; obtain ⟨e0, e1, e2⟩ := hY; go_simp; try with_reducible rfl
            intro hSB6
            simp only [Act.put, List.getElem_toArray, List.getElem_cons_zero, List.getElem_cons_succ, List.setIfInBounds_toArray, List.set_cons_zero, List.set_cons_succ]
            have m1 : g + 1 ≠ w.heap.size := n1
            have m2 : g + 1 ≠ w.heap.size + 1 := by omega
            have T7 : (W3.drew.setCell ⟨w.heap.size, 0, none⟩ (.slice none 0 0)).cell? ⟨g + 1, 0, none⟩ = some (.int .i64 3) ∧ (W3.drew.setCell ⟨w.heap.size, 0, none⟩ (.slice none 0 0)).cell? ⟨g + 1, 1, none⟩ = some (.int .i64 0) ∧ (W3.drew.setCell ⟨w.heap.size, 0, none⟩ (.slice none 0 0)).cell? ⟨w.heap.size + 3, 0, none⟩ = some (.int .i64 (b : Int)) := ⟨cell_far s0 m1, cell_far s1 m1, cell_far cB (by omega)⟩
            have T8 : (((W3.setCell ⟨w.heap.size, 0, none⟩ (.slice none 0 0)).setCell ⟨w.heap.size + 1, 0, none⟩ (.int .i64 3)).setCell ⟨w.heap.size + 1, 1, none⟩ (.int .i64 (b : Int))).drew.cell? ⟨g + 1, 0, none⟩ = some (.int .i64 3) ∧ (((W3.setCell ⟨w.heap.size, 0, none⟩ (.slice none 0 0)).setCell ⟨w.heap.size + 1, 0, none⟩ (.int .i64 3)).setCell ⟨w.heap.size + 1, 1, none⟩ (.int .i64 (b : Int))).drew.cell? ⟨g + 1, 1, none⟩ = some (.int .i64 0) ∧ (((W3.setCell ⟨w.heap.size, 0, none⟩ (.slice none 0 0)).setCell ⟨w.heap.size + 1, 0, none⟩ (.int .i64 3)).setCell ⟨w.heap.size + 1, 1, none⟩ (.int .i64 (b : Int))).drew.cell? ⟨w.heap.size + 3, 0, none⟩ = some (.int .i64 (b : Int)) := ⟨cell_far (cell_far (cell_far s0 m1) m2) m2, cell_far (cell_far (cell_far s1 m1) m2) m2, cell_far (cell_far (cell_far cB (by omega)) (by omega)) (by omega)⟩
            refine wpAnyG_one (i := 7) (by kernel_rfl) rfl (fun K hK => ?_)
            go_simp
            refine hK.out _ _ (SB.off (by kernel_rfl) T7) (fun hSB7 => ?_)
            clear hK K
            refine wpAnyG_one (i := 8) (by kernel_rfl) rfl (fun K hK => ?_)
            go_simp
            refine hK.out _ _ (SB.off (by kernel_rfl) T8) (fun hSB8 => ?_)
            clear hK K
            refine wpAnyG_done (by kernel_rfl) ?_ _
            gi_wp2
            exact rd_off_drew HM3.out HK3.out 3 b HR.out
          · have HG2 : Hid (Gh s (pre.length + 1) (rs ++ [r]) (b + (bs X).length + 1)) := HG.out.rule HN.out hg h64
            have i64 : (((rs.length : Nat) : Int) == 64) = false := beq_false_of_ne (by omega)
            have hle : Hid (rs.length ≤ 64) := HG.out.len
            obtain ⟨i0, hi, hz0, hz1, hz2⟩ := info_parts infoRule
            obtain ⟨rk, rf, rt⟩ := r
            simp only at hk0
            have HI5 : Hid ((b : Int) + ((X.size : Int) + 1) ≤ 9223372036854775807) := by have := HB.out; show _ ≤ _; omega
            have HI6 : Hid ((X.size : Int) + 1 ≤ 9223372036854775807) := by show _ ≤ _; omega
            have HLn : Hid ((bs X).length = X.size) := hlen
            obtain ⟨n1, hn1⟩ : ∃ n1, rs.length + 1 = n1 := ⟨_, rfl⟩
            have HN1 : Hid (rs.length + 1 = n1) := hn1
            clear hM hg HN HG h64 hlen hn1 hcp
            gi_wp2_with first
              | (refine ⟨trivial, ?_⟩; gi_at_call 49; refine (CallsIn.inRound l (callsIn_wide.2 hrl)).mono ?_; clear hrl; rintro e W1 ⟨rfl, hB1⟩; have M2 : RdM w s rs b (.slice ad rs.length cp) ((W1.alloc (.cells #[.int .i64 rk, .string (mk rf), .string (mk rt)] 31)).alloc (.cells #[.int .i64 0, .int .i64 0] 48)) := ((HM.out.below hB1).alloc _).alloc _; have cR := M2.rul.cell; have hl5 : Hid (w.heap.size + 5 ≤ ((W1.alloc (.cells #[.int .i64 rk, .string (mk rf), .string (mk rt)] 31)).alloc (.cells #[.int .i64 0, .int .i64 0] 48)).heap.size) := M2.lt; have HM2 : Hid (RdM w s rs b (.slice ad rs.length cp) ((W1.alloc (.cells #[.int .i64 rk, .string (mk rf), .string (mk rt)] 31)).alloc (.cells #[.int .i64 0, .int .i64 0] 48))) := M2; have HB1 : Hid (Below W.heap.size W W1) := hB1; clear M2 hB1)
              | (gi_at_builtin; refine wpListIn_append_own_at _ rfl _ _ 34 rfl (w.heap.size + 5) 31 i0 _ 3 40 Tryz.underlying34 hi hz0 hz1 hz2 rfl (by decide) _ _ _ rfl (HM2.out.row.alloc _) ⟨_, 0, none⟩ 1 1 (ruCells [(rk, rf, rt)]) rfl rfl (cells_ru_at _ rk rf rt _ (by simp)) (ruCells_one _) (by have := hle.out; unfold maxLen; omega) (by have := hle.out; omega) (by have h5 := hl5.out; simp at h5 ⊢; omega) ?_; intro v' W4 hown' hgrow _ _; obtain ⟨bx, bg, M5⟩ := (HM2.out.alloc _).push (r := (rk, rf, rt)) hgrow hown'; rw [HN1.out] at hown'; obtain ⟨ad', cp', hv', -⟩ := row_shapeR hown'; subst hv'; have cx := bx.cell; have fx := bx.frozen; have HM5 : Hid (RdM w s (rs ++ [(rk, rf, rt)]) b (.slice ad' n1 cp') (W4.setCell ⟨w.heap.size + 2, 0, none⟩ (.slice ad' n1 cp'))) := M5; have cb5 := bg.cell; have fb5 := bg.frozen; have HGr : Hid (KeepsOthers W W4) := ((KeepsOthers.of_below HB1.out).trans ((KeepsOthers.alloc _ _).trans ((KeepsOthers.alloc _ _).trans (KeepsOthers.alloc _ _)))).trans (KeepsOthers.of_grownBy hgrow (fun j o hj ho => by obtain ⟨_, _, cur, hcur⟩ := row_blockR (HM2.out.row.alloc _) j hj; rw [hcur] at ho; cases ho; rfl)); have i5 := HI5.out; have i6 := HI6.out; clear M5 hown' hgrow bx bg)
            refine rd_on HM.out (HM5.out.step (b + (bs X).length + 1) _ (by rw [HLn.out]; omega)) ((HGr.out.trans (KeepsOthers.setCell _ _ _)).trans (KeepsOthers.setCell _ _ _)) HG2.out
    case done =>
      rintro D xs W hD hS ⟨rs, b, v, hM, hG⟩ hK
      have HR : Hid (readT (bs s) = .ok rs) := HT0.out.trans (hG.done (all_lines hS))
      obtain ⟨ad, cp, rfl, hcp, -⟩ := row_shapeR hM.row
      have cR := hM.rul.cell
      have cA := hM.res.cell
      have fA := hM.res.frozen
      obtain ⟨x0, x1⟩ := hM.spot.cell
      obtain ⟨y0, y1⟩ := hM.spot.frozen
      have H : Hid (RdM w s rs b (.slice ad rs.length cp) W ∧ W.heap[D]? = some (.deferred (some [])) ∧ w.heap.size + 5 ≤ D) := ⟨hM, hK, by omega⟩
      clear hM hG hS hK hD M0 hs4 HT0
      gi_wp2
      go_wp2_with fail
      obtain ⟨hM, hK, hD⟩ := H.out
      exact rd_done hM hK hD HR.out rfl rfl
    case stop =>
      rintro D c pre W hD hSp ⟨e, p, hX⟩ hK
      obtain rfl := hX.c
      have HR : Hid (readT (bs s) = .error (e, p)) := HT0.out.trans hX.said
      have H : Hid (RdX w s .ret e p W ∧ W.heap[D]? = some (.deferred (some [])) ∧ w.heap.size + 5 ≤ D) := ⟨hX, hK, by omega⟩
      clear hX hSp hK hD M0 hs4 HT0
      gi_wp2
      go_wp2_with fail
      obtain ⟨hX, hK, hD⟩ := H.out
      exact rd_stop hX hK hD HR.out rfl rfl
end Go.Proofs.YtggnglgehobglaaGreatDoor
