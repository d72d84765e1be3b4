import Derived.Test.YtdchmmdndgbllaaDoorY40
import Derived.Test.YtdchmmdndgbllaaDoorY35
/- The walk of the law RuleDress. -/
namespace Go.Proofs.YtdchmmdndgbllaaDoor
open Go.RowKit Go.Shelf Go.Maps

attribute [local go_sem] Oper.semAt_some

theorem wrow_strs2 {w : World} {base : Nat} {v : Value} {ws : List (List UInt8)} (h : w.ownsRow base 9 1 v ws.length (wcells ws)) : ∃ a c, v = .slice a ws.length c ∧ Strs w a ws.length (ws.map mk) ∧ ∀ y, a = some y → base ≤ y.block := by
  obtain ⟨a, c, rfl, _, hs⟩ := wrow_strs h
  refine ⟨a, c, rfl, hs, fun y hy => ?_⟩
  rcases h.2 with ⟨e, _⟩ | ⟨g, cap, cur, e, hb, _⟩
  · injection e with e1
    rw [e1] at hy; cases hy
  · injection e with e1
    rw [e1] at hy; cases hy; exact hb
theorem words_got {s : ByteArray} {w W : World} {e : Ending} {ws : List (List UInt8)} (hw : wordsL (bs s) 0 = .ok ws) (h : WordsPost s w e W) : ∃ a c, e = .returned (.tuple #[.slice a ws.length c, .agg #[.int .i64 0, .int .i64 0]]) ∧ Strs W a ws.length (ws.map mk) ∧ (∀ y, a = some y → w.heap.size + 1 ≤ y.block) ∧ Below w.heap.size w W := by
  obtain ⟨h | h, hB⟩ := h
  · obtain ⟨ws', v, h1, h2, h3⟩ := h
    rw [hw] at h1
    cases h1
    obtain ⟨a, c, rfl, hs, hb⟩ := wrow_strs2 h3
    exact ⟨a, c, h2, hs, hb, hB⟩
  · obtain ⟨p, h1, _⟩ := h
    rw [hw] at h1; cases h1
theorem blJ_le (x : Int) : blJ x ≤ 5 := by unfold blJ; omega

theorem at_get (s : ByteArray) (q : Nat) (h : q < s.size) : (bs s)[q]? = some (s[q]'h) := by
  rw [List.getElem?_eq_getElem (by rw [bs_len]; exact h)]; rfl
theorem at_cut (s : ByteArray) (q : Nat) (h : q < s.size) : bs (s.extract q (q + 1)) = [s[q]'h] := by
  have hl : q < (bs s).length := by rw [bs_len]; exact h
  rw [bs_extract, List.take_succ_eq_append_getElem hl, List.drop_append_of_le_length (by rw [List.length_take]; omega), List.drop_eq_nil_of_le (by rw [List.length_take]; omega)]
  rfl
theorem ten_of {b : UInt8} (h : ((b.toNat : Int) != 10) = false) : b = 10 := by
  have h1 : (b.toNat : Int) = 10 := by simpa using h
  exact UInt8.toNat_inj.1 (by show b.toNat = 10; omega)
theorem ten_no {b : UInt8} (h : ((b.toNat : Int) != 10) = true) : ¬ b = 10 := fun e => by
  subst e
  revert h; decide

set_option maxRecDepth 100000 in
set_option maxHeartbeats 8000000 in
theorem ruleDress_walk (tx rk : ByteArray) (bl : Int) (w : World) (htx : tx.size ≤ 1048576) (hrk : rk.size ≤ 1048576) (_hbl : (Lit.int .i64 bl).wf = true) (hT : Tabs w) :
    Calls Tryd.prog 6 #[.string tx, .string rk, .int .i64 bl] w fun e w' => e = .returned (.bool true) ∧ Below w.heap.size w w' := by
  have hmx : Tryd.prog.follows .mixedOrders = true := by kernel_rfl
  have hwk := fun W (h : Below w.heap.size w W) => uwakes_any W (hT.below h)
  have hes := eqS
  obtain ⟨W0, hW0⟩ : ∃ W, (w.alloc (.cells #[.string rk] 9)).alloc (.cells #[.int .i64 bl] 3) = W := ⟨_, rfl⟩
  have HB0 : Hid (Below w.heap.size w W0) := by rw [← hW0]; exact ((Below.refl _ w).alloc (Nat.le_refl _) _).alloc (by simp) _
  have HX0 : Hid (Boxed W0 w.heap.size 9 (.string rk) ∧ Boxed W0 (w.heap.size + 1) 3 (.int .i64 bl)) := by
    have a1 := Boxed.new w 9 (.string rk)
    have a2 := Boxed.new (w.alloc (.cells #[.string rk] 9)) 3 (.int .i64 bl)
    rw [World.size_alloc] at a2
    rw [← hW0]
    exact ⟨a1.alloc _, a2⟩
  cases hr : readT (bs tx) with
  | error ep =>
    obtain ⟨er, p⟩ := ep
    have hrd := fun W (h : Below w.heap.size w W) => (uread_any tx W (hT.below h) (by unfold maxLen; omega)).mono fun e W' hp => read_bad hr hp
    have her : (((er : Nat) : Int) == 0) = false := by
      have : er ≠ 0 := fun e => by
        subst e
        have h2 : ∀ (ls : List (List UInt8)) (rs : List Ru) (b q : Nat), readG ls rs b ≠ .error (0, q) := by
          intro ls
          induction ls with
          | nil => intro rs b q h; cases h
          | cons l r ih =>
            intro rs b q h
            unfold readG at h
            split at h
            · rename_i e p hl
              have := (lineG_bad hl).1
              cases h; omega
            · exact ih _ _ _ h
            · split at h
              · cases h
              · exact ih _ _ _ h
        unfold readT at hr
        split at hr
        · cases hr
        · exact h2 _ _ _ _ hr
      exact beq_false_of_ne (by omega)
    clear hr hes
    go_enter Tryd.func6, Tryd.ntmps6
    go_wp2_with fail
    refine (hwk _ HB0.out).mono ?_
    clear hW0
    rintro e w1 ⟨rfl, hB1⟩
    have H1 : Hid (Below w.heap.size w w1) := HB0.out.trans (hB1.mono HB0.out.size)
    clear hB1
    go_wp2_with fail
    refine (hrd _ H1.out).mono ?_
    rintro e w2 ⟨rfl, hB2⟩
    have H2 : Hid (Below w.heap.size w (w2.alloc (.cells #[.int .i64 (er : Int), .int .i64 (p : Int)] 35))) := (H1.out.trans (hB2.mono H1.out.size)).alloc (Nat.le_trans H1.out.size hB2.size) _
    clear hB2
    go_wp2_with (go_at_call 8; refine (hwk _ H2.out).mono ?_; rintro e w3 ⟨rfl, hB3⟩)
    go_ret
    exact ⟨rfl, H2.out.trans (hB3.mono H2.out.size)⟩
  | ok rs =>
    have hln := (readT_ok hr).2
    have hrd := fun W (h : Below w.heap.size w W) => (uread_any tx W (hT.below h) (by unfold maxLen; omega)).mono fun e W' hp => read_ok hr hp
    have HLine := readT_line hr
    have HR : Hid (readT (bs tx) = .ok rs ∧ rs.length ≤ 64 ∧ (bs tx).length ≤ 131072 ∧ ∀ l ∈ linesL (bs tx), ∃ ws, wordsL l 0 = .ok ws) := ⟨hr, hln, HLine⟩
    clear hr hln HLine
    refine (callsIn_wide (n := 5)).1 ?_
    refine callsIn_of_wp_marks Tryd.func6 rfl trivial ?_ rfl
    simp only [Tryd.ntmps6, List.size_toArray, List.length_cons, List.length_nil, Nat.reduceAdd, Nat.reduceSub, Array.replicate_succ, Array.replicate_zero, List.push_toArray, List.append_toArray, List.nil_append, List.cons_append]
    refine wpIn_wide.2 ?_
    go_wp2_with fail
    refine (hwk _ HB0.out).mono ?_
    clear hW0
    rintro e w1 ⟨rfl, hB1⟩
    have H1 : Hid (Below w.heap.size w w1 ∧ Boxed w1 w.heap.size 9 (.string rk) ∧ Boxed w1 (w.heap.size + 1) 3 (.int .i64 bl)) := ⟨HB0.out.trans (hB1.mono HB0.out.size), (hB1.block _ HX0.out.1.lt).trans HX0.out.1, (hB1.block _ HX0.out.2.lt).trans HX0.out.2⟩
    clear hB1
    go_wp2_with fail
    refine (hrd _ H1.out.1).mono ?_
    rintro e w2 ⟨a2, c2, rfl, hR2, -, -, hB2⟩
    have H2 : Hid (Below w.heap.size w w2 ∧ Boxed w2 w.heap.size 9 (.string rk) ∧ Boxed w2 (w.heap.size + 1) 3 (.int .i64 bl) ∧ Rus w2 a2 rs.length rs) := ⟨H1.out.1.trans (hB2.mono H1.out.1.size), (hB2.block _ H1.out.2.1.lt).trans H1.out.2.1, (hB2.block _ H1.out.2.2.lt).trans H1.out.2.2, hR2⟩
    clear hB2 hR2
    go_wp2_with (go_at_call 17; refine (lines_any tx _).mono ?_; rintro e w' ⟨rfl, rfl⟩)
    obtain ⟨w3, hw3⟩ : ∃ w3, w3 = ((w2.alloc (.cells #[.int .i64 0, .int .i64 0] 35)).alloc (.cells #[.string ⟨#[]⟩] 9)).alloc (.cells #[.string tx] 9) := ⟨_, rfl⟩
    rw [← hw3]
    have hs3 : w3.heap.size = w2.heap.size + 3 := by rw [hw3]; simp
    have hB23 : Below w2.heap.size w2 w3 := by rw [hw3]; exact (((Below.refl _ w2).alloc (Nat.le_refl _) _).alloc (by simp) _).alloc (by simp; omega) _
    have M0 : DrM w.heap.size (w.heap.size + 1) (w2.heap.size + 1) (w2.heap.size + 2) rk bl tx w3 ⟨#[]⟩ w3 := by
      have a4 := Boxed.new (w2.alloc (.cells #[.int .i64 0, .int .i64 0] 35)) 9 (.string ⟨#[]⟩)
      have a5 := Boxed.new ((w2.alloc (.cells #[.int .i64 0, .int .i64 0] 35)).alloc (.cells #[.string ⟨#[]⟩] 9)) 9 (.string tx)
      simp only [World.size_alloc] at a4 a5
      have l1 := H2.out.2.1.lt
      have l2 := H2.out.2.2.1.lt
      refine ⟨(hB23.block _ l1).trans H2.out.2.1, (hB23.block _ l2).trans H2.out.2.2.1, by rw [hw3]; exact a4.alloc _, by rw [hw3]; exact a5, Tn.refl _ _, by omega, by omega, by omega⟩
    have HW3 : Hid (Below w.heap.size w w3 ∧ Rus w3 a2 rs.length rs ∧ w.heap.size ≤ w2.heap.size) := ⟨H2.out.1.trans (hB23.mono H2.out.1.size), H2.out.2.2.2.kept hB23, H2.out.1.size⟩
    have HRus : Hid (∀ W, Tn (w2.heap.size + 1) w3 W → Rus W a2 rs.length rs) := fun W hW => H2.out.2.2.2.kept (hB23.trans ((hW.below (B := w2.heap.size) hB23.size (by omega))))
    have HDB : Hid (∀ W d, DrM w.heap.size (w.heap.size + 1) (w2.heap.size + 1) (w2.heap.size + 2) rk bl tx w3 d W → Below w.heap.size w W) := fun W d h => HW3.out.1.trans ((h.turn.below (B := w.heap.size) HW3.out.1.size (by have := HW3.out.2.2; omega)).mono (Nat.le_refl _))
    obtain ⟨j, hj⟩ : ∃ j, blJ bl = j := ⟨_, rfl⟩
    have hj5 : 1 ≤ j ∧ j ≤ 5 := by rw [← hj]; unfold blJ; omega
    have HJ : Hid (blJ bl = j ∧ max bl 0 % 5 + 1 = (j : Int)) := ⟨hj, by rw [← hj]; unfold blJ; omega⟩
    clear hj
    clear hw3
    refine (wpIn_wide (n := 5)).1 ?_
    refine range_walks (α := Ln tx) (w := w3) rfl (by omega) (gf := 32) (lb := #[.pointer (some ⟨w2.heap.size + 2, 0, none⟩)]) rfl trivial (enters_of Tryd.func32 (by kernel_rfl) rfl)
      (lines_tellsW tx (by unfold maxLen; omega) w3 (w2.heap.size + 2) M0.txt 4 (by omega)) (fun _ => rfl) (by omega) (DrI w.heap.size (w.heap.size + 1) (w2.heap.size + 1) (w2.heap.size + 2) rk bl tx w3) (fun _ _ _ => False) (drI_own _ _ _ _ _ _ _ _) (fun _ _ _ _ _ h => h.elim) ⟨_, M0, rfl⟩ ?act ?assign ?body ?done ?stop
    case assign =>
      intro l x W K hK
      gi_wp2
      exact hK
    case stop =>
      rintro D c pre W hD hSp hF hK
      exact hF.elim
    case body =>
      rintro l pre x W hl ⟨d, hM, hd⟩ hSp
      have hd5 : 1 ≤ 5 - 1 - 1 := by omega
      have hxs := x.2.2.1
      have hnl := next_lineU hSp
      obtain ⟨ws, hws⟩ := HR.out.2.2.2 _ (List.mem_of_getElem? hnl)
      have hWB : Below w.heap.size w W := HW3.out.1.trans ((hM.turn.below (B := w.heap.size) HW3.out.1.size (by have := HW3.out.2.2; omega)).mono (Nat.le_refl _))
      have hwd := (words_any x.1.2 W (hT.below hWB) (by omega)).mono fun e W' hp => words_got hws hp
      obtain ⟨X, hX⟩ : ∃ X, X = x.1.2 := ⟨_, rfl⟩
      have hlen : (bs X).length = X.size := bs_len X
      rw [← hX] at hwd hxs hnl hws ⊢
      have HM : Hid (DrM w.heap.size (w.heap.size + 1) (w2.heap.size + 1) (w2.heap.size + 2) rk bl tx w3 d W ∧ w2.heap.size + 1 < W.heap.size ∧ Below w.heap.size w W) := ⟨hM, hM.dre.lt, hWB⟩
      have HD : Hid (bs d = drT (blJ bl) (noteL (bs rk)) ((linesL (bs tx)).take pre.length) ∧ (linesL (bs tx))[pre.length]? = some (bs X) ∧ okW (bs X) = ws) := ⟨hd, hnl, okW_ok hws⟩
      have hb5 := blJ_le bl
      generalize hT0 : drT (blJ bl) (noteL (bs rk)) ((linesL (bs tx)).take pre.length) = T0 at *
      have hTl : T0.length ≤ 1000000000000 := by
        rw [← hT0]
        exact drT_small _ hb5 _ _ HR.out.2.2.1 (Nat.le_trans (note_len _) (by rw [bs_len]; exact hrk)) _
      have HTe : Hid (drT (blJ bl) (noteL (bs rk)) ((linesL (bs tx)).take pre.length) = T0) := hT0
      have HWl : Hid (∀ k, (wdsD j (ws.take k)).length ≤ 11 * X.size) := fun k => by
        rw [← HJ.out.1]
        have := wds_small (blJ bl) hb5 (bs X) k
        rw [okW_ok hws, hlen] at this
        exact this
      have hnw : ws.length ≤ X.size := by
        have := (okW_room (bs X)).2
        rw [okW_ok hws, hlen] at this
        exact this
      have HWs : Hid (∀ y ∈ ws, y.length ≤ X.size) := fun y hy => by
        have h1 := (okW_room (bs X)).1
        rw [okW_ok hws, hlen] at h1
        exact Nat.le_trans (sum_mem ws y hy) h1
      obtain ⟨nw, hnwe⟩ : ∃ nw, ws.length = nw := ⟨_, rfl⟩
      rw [hnwe] at hwd hnw
      have HNw : Hid (ws.length = nw) := hnwe
      have hXs : X.size ≤ 1048576 := by omega
      clear hd hnl hws hX hSp hM M0 hl hb5 hnwe hT0 hWB hxs hlen
      gi_wp2_with (refine ⟨trivial, ?_⟩; gi_at_call 18; refine (CallsIn.inRound l (callsIn_wide.2 hwd)).mono ?_; clear hwd; rintro e W1 ⟨aw, cw, rfl, hSt, hbk, hB1⟩; have HS : Hid (DrM w.heap.size (w.heap.size + 1) (w2.heap.size + 1) (w2.heap.size + 2) rk bl tx w3 d (W1.alloc (.cells #[.int .i64 0, .int .i64 0] 35)) ∧ Strs (W1.alloc (.cells #[.int .i64 0, .int .i64 0] 35)) aw nw (ws.map mk) ∧ (∀ y, aw = some y → y.block ≠ w2.heap.size + 1) ∧ KeepsOthers W (W1.alloc (.cells #[.int .i64 0, .int .i64 0] 35)) ∧ Below w.heap.size w (W1.alloc (.cells #[.int .i64 0, .int .i64 0] 35))) := ⟨(HM.out.1.below hB1).below ((Below.refl _ _).alloc (Nat.le_refl _) _), hSt.kept ((Below.refl _ _).alloc (Nat.le_refl _) _), (fun y hy => (by have h1 := hbk y hy; have h2 := HM.out.2.1; omega)), (KeepsOthers.of_below hB1).trans (KeepsOthers.alloc _ _), (HM.out.2.2.trans (hB1.mono HM.out.2.2.size)).alloc (Nat.le_trans HM.out.2.2.size hB1.size) _⟩; clear hSt hbk hB1)
      generalize W1.alloc (.cells #[.int .i64 0, .int .i64 0] 35) = W2 at *
      gi_loopw [51] (fun i wr => ∃ (k : Nat) (dk : ByteArray), k ≤ nw ∧ i = .int .i64 k ∧ Hid (DrM w.heap.size (w.heap.size + 1) (w2.heap.size + 1) (w2.heap.size + 2) rk bl tx w3 dk wr ∧ Tn (w2.heap.size + 1) W2 wr ∧ bs dk = T0 ++ wdsD j (ws.take k))) (fun i _ => nw - (intOf i).toNat)
      case atStart => exact ⟨0, d, Nat.zero_le _, rfl, HS.out.1, Tn.refl _ _, by rw [HD.out.1]; simp [wdsD]⟩
      case round =>
        obtain ⟨k, dk, hk, rfl, H⟩ := hrel
        by_cases hlt : k < nw
        · obtain ⟨y, hy⟩ : ∃ y, ws[k]? = some y := ⟨_, List.getElem?_eq_getElem (by rw [HNw.out]; exact hlt)⟩
          obtain ⟨b1, o1, hae, hc1⟩ := HS.out.2.1.2 (by omega)
          subst hae
          have q0 := hc1 k (mk y) (by rw [List.getElem?_map, hy]; rfl)
          have q1 := H.out.2.1.cell q0 (show b1 ≠ w2.heap.size + 1 from HS.out.2.2.1 ⟨b1, o1, none⟩ rfl)
          have cN := H.out.1.num.cell
          have i2 : (k : Int) < (nw : Int) := by omega
          have i3 : ¬ nw ≤ k := by omega
          have HY : Hid (y.length ≤ X.size ∧ ws[k]? = some y) := ⟨HWs.out y (List.mem_of_getElem? hy), hy⟩
          clear hc1 q0 hy
          gi_wp2
          rw [HJ.out.2]
          clear cN q1
          gi_loopw [59] (fun i wr => ∃ (q : Nat) (dq : ByteArray), q ≤ j ∧ i = .int .i64 q ∧ Hid (DrM w.heap.size (w.heap.size + 1) (w2.heap.size + 1) (w2.heap.size + 2) rk bl tx w3 dq wr ∧ Tn (w2.heap.size + 1) W2 wr ∧ bs dq = T0 ++ wdsD j (ws.take k) ++ List.replicate q 32)) (fun i _ => j - (intOf i).toNat)
          case atStart => exact ⟨0, dk, Nat.zero_le _, rfl, H.out.1, H.out.2.1, by rw [H.out.2.2]; simp⟩
          case round =>
            obtain ⟨q, dq, hq, rfl, HQ⟩ := hrel
            have hds : dq.size ≤ 2000000000000 := by
              have h1 := HWl.out k
              rw [← bs_len, HQ.out.2.2, List.length_append, List.length_append, List.length_replicate]
              omega
            by_cases hlq : q < j
            · have i5 : (q : Int) < (j : Int) := by omega
              have cD := HQ.out.1.dre.cell
              have fD := HQ.out.1.dre.frozen
              have HN2 : Hid (bs (dq ++ (⟨#[32]⟩ : ByteArray)) = T0 ++ wdsD j (ws.take k) ++ List.replicate (q + 1) 32) := by
                show _ = _
                rw [bs_append, HQ.out.2.2, List.replicate_succ', ← List.append_assoc]; rfl
              gi_wp2
              go_roundw
              case rel => exact ⟨q + 1, _, by omega, by go_num, HQ.out.1.set _, HQ.out.2.1.trans (Tn.set _ _ 0 _), HN2.out⟩
              case measure => simp [intOf]; omega
            · obtain rfl : j = q := by omega
              have i5 : ¬ (j : Int) < (j : Int) := by omega
              have HC : Hid (∀ Y, Below wr.heap.size wr Y → Calls Tryd.prog 19 #[.string (mk y)] Y fun e w' => e = .returned (.string (mk (quoteL y))) ∧ Below wr.heap.size wr w') := fun Y hB => (qquote_any (mk y) Y (hT.below (HDB.out _ _ (HQ.out.1.below hB))) (by rw [← bs_len, bs_mk]; have := HY.out.1; omega)).mono fun e W' ⟨h1, h2⟩ => ⟨by rw [h1, bs_mk], hB.trans (h2.mono hB.size)⟩
              have HZ : Hid (bs (dq ++ mk (quoteL y)) = T0 ++ wdsD j (ws.take (k + 1))) := by
                show _ = _
                obtain ⟨hkl, hke⟩ := List.getElem?_eq_some_iff.1 HY.out.2
                rw [bs_append, HQ.out.2.2, bs_mk, List.take_succ_eq_append_getElem hkl, wdsD_snoc, hke]
                simp
              have hZs : (mk (quoteL y)).size ≤ 5000000 := by
                have h1 := quoteL_len y
                have h2 := HY.out.1
                rw [← bs_len, bs_mk]; omega
              generalize mk (quoteL y) = Z at *
              clear hq hlq
              gi_wp2
              refine region_G_round (S := SB 4 (fun Y => Y.cell? ⟨w2.heap.size + 1, 0, none⟩ = some (.string dq)) (fun _ => True)) hmx (by kernel_rfl) (fun ⟨_, _, h⟩ => h) ?_
              refine wpAnyG_takeB (i := 0) (b := 4) (v := ?_) rfl (by kernel_rfl) (by kernel_rfl) (by kernel_rfl) (fun _ _ _ h => h) rfl (by kernel_rfl) (by rfl) (by kernel_rfl) (Or.inl ⟨by rfl, ?_⟩) (SB.on HQ.out.1.dre.cell trivial) ?_
              rotate_left
              · intro Y hY; obtain ⟨f1, _⟩ := hY; go_simp; try with_reducible rfl
              intro hSB0
              simp only [Act.put, List.getElem_toArray, List.getElem_cons_zero, List.setIfInBounds_toArray, List.set_cons_zero, List.set_cons_succ]
              refine wpAnyG_takeP (i := 1) (v := ?_) rfl (by kernel_rfl) (by kernel_rfl) (by kernel_rfl) (fun _ _ _ h => h) rfl (Or.inl ⟨by rfl, ?_⟩) (by assumption) ?_
              rotate_left
              · intro Y hY; go_simp; try with_reducible rfl
              intro hSB1
              simp only [Act.put, List.getElem_toArray, List.getElem_cons_zero, List.getElem_cons_succ, List.setIfInBounds_toArray, List.set_cons_zero, List.set_cons_succ]
              refine wpAnyG_one (i := 2) (by kernel_rfl) rfl (fun K hK => ?_)
              rw [if_pos (by rfl)]
              refine step_quote (R := fun Y => Below wr.heap.size wr Y) _ (mk y) (.string Z) (by rfl) (by rfl) (HC.out _ (below_drewN (Below.refl _ _) 1)) ?_
              intro w8 hB8
              have H8 : Hid (DrM w.heap.size (w.heap.size + 1) (w2.heap.size + 1) (w2.heap.size + 2) rk bl tx w3 dq w8 ∧ Tn (w2.heap.size + 1) W2 w8) := ⟨HQ.out.1.below hB8, HQ.out.2.1.trans (Tn.of_below hB8)⟩
              refine hK.out _ _ (SB.on H8.out.1.dre.cell trivial) (fun hSB2 => ?_)
              clear hK K hB8
              simp only [Act.put, List.getElem_toArray, List.getElem_cons_zero, List.getElem_cons_succ, List.setIfInBounds_toArray, List.set_cons_zero, List.set_cons_succ]
              refine wpAnyG_takeP (i := 3) (v := ?_) rfl (by kernel_rfl) (by kernel_rfl) (by kernel_rfl) (fun _ _ _ h => h) rfl (Or.inl ⟨by rfl, ?_⟩) (by assumption) ?_
              rotate_left
              · intro Y hY; go_simp; rw [if_neg (by simp; omega)]
              intro hSB3
              simp only [Act.put, List.getElem_toArray, List.getElem_cons_zero, List.getElem_cons_succ, List.setIfInBounds_toArray, List.set_cons_zero, List.set_cons_succ]
              have c8 := H8.out.1.dre.cell
              have f8 := H8.out.1.dre.frozen
              refine wpAnyG_one (i := 4) (by kernel_rfl) rfl (fun K hK => ?_)
              go_simp
              refine hK.out _ _ (SB.off (by kernel_rfl) trivial) (fun hSB4 => ?_)
              clear hK K
              refine wpAnyG_done (by kernel_rfl) ?_ _
              clear hSB0 hSB1 hSB2 hSB3 hSB4 c8 f8
              gi_wp2
              go_roundw
              case rel => exact ⟨k + 1, _, by omega, by go_num, H8.out.1.set _, H8.out.2.trans (Tn.set _ _ 0 _), HZ.out⟩
              case measure => simp [intOf]; omega
        · obtain rfl : nw = k := by omega
          have ilt : ¬ (nw : Int) < (nw : Int) := by omega
          have HTk : Hid (bs dk = T0 ++ wdsD j ws) := by
            have h1 := H.out.2.2
            rw [List.take_of_length_le (by rw [HNw.out]; exact Nat.le_refl _)] at h1
            exact h1
          clear hk hlt
          gi_wp2
          gi_loopw [16, 17] (fun v i wr => ∃ (q : Nat) (nb : ByteArray), q ≤ rk.size ∧ i = .int .i64 q ∧ v = .string nb ∧ Hid (bs nb = noteL ((bs rk).take q)) ∧ Hid (DrM w.heap.size (w.heap.size + 1) (w2.heap.size + 1) (w2.heap.size + 2) rk bl tx w3 dk wr ∧ Tn (w2.heap.size + 1) W2 wr)) (fun _ i _ => rk.size - (intOf i).toNat)
          case atStart => exact ⟨0, ⟨#[]⟩, Nat.zero_le _, rfl, rfl, rfl, H.out.1, H.out.2.1⟩
          case round =>
            obtain ⟨q, nb, hq, rfl, rfl, HB, HQ⟩ := hrel
            have cR := HQ.out.1.rem.cell
            have hns : nb.size ≤ 1048576 := by
              have h1 := note_len ((bs rk).take q)
              rw [← bs_len, HB.out]
              rw [List.length_take] at h1
              have h2 := bs_len rk
              omega
            by_cases hlq : q < rk.size
            · have i5 : (q : Int) < (rk.size : Int) := by omega
              have HX : Hid ((((rk[q]'hlq).toNat : Int) != 10) = false → bs nb = noteL ((bs rk).take (q + 1))) := fun h => by
                have h1 := note_snoc (bs rk) q _ (at_get rk q hlq)
                rw [h1, HB.out, if_pos (ten_of h), List.append_nil]
              have HY : Hid ((((rk[q]'hlq).toNat : Int) != 10) = true → bs (nb ++ rk.extract q (q + 1)) = noteL ((bs rk).take (q + 1))) := fun h => by
                have h1 := note_snoc (bs rk) q _ (at_get rk q hlq)
                rw [h1, if_neg (ten_no h), bs_append, HB.out, at_cut rk q hlq]
              gi_wp2
              · rename_i h10
                exact ⟨⟨q + 1, _, by omega, by go_num, rfl, HY.out h10, HQ⟩, by simp [intOf]; omega⟩
              · rename_i h10
                exact ⟨⟨q + 1, _, by omega, by go_num, rfl, HX.out h10, HQ⟩, by simp [intOf]; omega⟩
            · obtain rfl : q = rk.size := by omega
              have i5 : ¬ ((rk.size : Nat) : Int) < (rk.size : Int) := by omega
              have cD := HQ.out.1.dre.cell
              have fD := HQ.out.1.dre.frozen
              have HNo : Hid (bs nb = noteL (bs rk)) := by
                have h1 := HB.out
                rw [List.take_of_length_le (by rw [bs_len]; exact Nat.le_refl _)] at h1
                exact h1
              have hds : dk.size ≤ 2000000000000 := by
                have h1 := HWl.out ws.length
                rw [List.take_length] at h1
                rw [← bs_len, HTk.out, List.length_append]
                omega
              gi_wp2
              refine ⟨(HS.out.2.2.2.1.trans (HQ.out.2.others HS.out.1.dre)).trans (KeepsOthers.setCell _ _ _), (HQ.out.1.set _).txt.trans HM.out.1.txt.symm, _, HQ.out.1.set _, ?_⟩
              obtain ⟨hkl, hke⟩ := List.getElem?_eq_some_iff.1 HD.out.2.1
              rw [List.length_append, List.length_singleton, List.take_succ_eq_append_getElem hkl, drT_snoc, HTe.out, hke, HD.out.2.2, bs_append, bs_append, bs_append, HTk.out, HNo.out, HJ.out.1]
              unfold drL
              simp [bs]
    case done =>
      rintro D xs W hD hS ⟨d, hM, hd⟩ hK
      have hxl := all_lines hS
      rw [← hxl, List.take_length] at hd
      have cD := hM.dre.cell
      have hWB : Below w.heap.size w W := HW3.out.1.trans ((hM.turn.below (B := w.heap.size) HW3.out.1.size (by have := HW3.out.2.2; omega)).mono (Nat.le_refl _))
      have HWB : Hid (Below w.heap.size w W ∧ W.heap[D]? = some (.deferred (some [])) ∧ w.heap.size ≤ D) := ⟨hWB, hK, Nat.le_trans HW3.out.1.size hD⟩
      have HF : Hid (∀ W', Below W.heap.size W W' → W'.heap[D]? = some (.deferred (some [])) ∧ Below w.heap.size w (W'.putObj D (.deferred none))) := fun W' hB => by
        have hlt : D < W.heap.size := (Array.getElem?_eq_some_iff.1 hK).1
        have h1 := HWB.out.1.trans (hB.mono HWB.out.1.size)
        exact ⟨(hB.block D hlt).trans hK, ⟨h1.os, h1.tape, h1.output, by simpa using h1.size, fun k hk => (World.putObj_heap_other (by have := HWB.out.2.2; omega)).trans (h1.block k hk)⟩⟩
      by_cases hlong : 131072 < d.size
      · have i1 : (131072 : Int) < (d.size : Int) := by omega
        clear hM hd hK hD hS hxl M0 hs3 hB23 hWB
        gi_wp2
        go_wp2_with (go_at_call 8; refine (hwk _ HWB.out.1).mono ?_; rintro e w5 ⟨rfl, hB5⟩)
        refine dfin_m (v := .bool true) (HF.out _ hB5).1 (by simp [results, Tryd.results6, go_sem]) ⟨rfl, (HF.out _ hB5).2⟩
      · have i1 : ¬ (131072 : Int) < (d.size : Int) := by omega
        have hrd2 : readT (bs d) = .ok rs := by
          rw [hd]
          exact readT_dress _ (by unfold blJ; omega) (note_ten _) HR.out.1 (by rw [← hd, bs_len]; omega)
        have HRd : Hid (∀ W', Below W.heap.size W W' → Calls Tryd.prog 14 #[.string d] W' fun e W'' => ∃ ad cp, e = .returned (.tuple #[.slice ad rs.length cp, .agg #[.int .i64 0, .int .i64 0]]) ∧ Rus W'' ad rs.length rs ∧ Below W'.heap.size W' W'') := fun W' hB => (uread_any d W' (hT.below (HWB.out.1.trans (hB.mono HWB.out.1.size))) (by unfold maxLen; omega)).mono fun e W'' hp => by
          obtain ⟨ad, cp, h1, h2, _, _, h5⟩ := read_ok hrd2 hp
          exact ⟨ad, cp, h1, h2, h5⟩
        have hok := (readT_ok HR.out.1).1
        have h64 := HR.out.2.1
        have HRW : Hid (Rus W a2 rs.length rs) := HRus.out _ hM.turn
        have hts := textR_len rs hok
        have hZs : (mk (textR rs)).size = (textR rs).length := by rw [← bs_len, bs_mk]
        have HP : Hid (∀ W' ad cp, Below W.heap.size W W' → Rus W' ad rs.length rs → Calls Tryd.prog 13 #[.slice ad rs.length cp] W' fun e w' => e = .returned (.tuple #[.string (mk (textR rs)), .int .i64 0]) ∧ Below W'.heap.size W' w') := fun W' ad cp hB hR => by
          have := uprint_any W' ad rs.length cp rs hR (hT.below (HWB.out.1.trans (hB.mono HWB.out.1.size))) (by omega) (fun x hx => by
            have h1 := hok x hx
            unfold okR at h1
            simp only [Bool.and_eq_true] at h1
            have h2 := ((isP_iff _).1 h1.1.1).1
            have h3 := ((isP_iff _).1 h1.1.2).1
            unfold maxLen
            omega)
          rw [(prE_ok (by omega) (List.all_eq_true.2 hok)).1, (prE_ok (by omega) (List.all_eq_true.2 hok)).2] at this
          exact this
        have hrt : readT (bs (mk (textR rs))) = .ok rs := by rw [bs_mk]; exact readT_text rs hok h64
        have HR2 : Hid (∀ W', Below W.heap.size W W' → Calls Tryd.prog 14 #[.string (mk (textR rs))] W' fun e W'' => ∃ ad cp, e = .returned (.tuple #[.slice ad rs.length cp, .agg #[.int .i64 0, .int .i64 0]]) ∧ Rus W'' ad rs.length rs ∧ Below W'.heap.size W' W'') := fun W' hB => (uread_any (mk (textR rs)) W' (hT.below (HWB.out.1.trans (hB.mono HWB.out.1.size))) (by rw [hZs]; unfold maxLen; omega)).mono fun e W'' hp => by
          obtain ⟨ad, cp, h1, h2, _, _, h5⟩ := read_ok hrt hp
          exact ⟨ad, cp, h1, h2, h5⟩
        have HSm : Hid (∀ (W : World) (a b : Option Addr) (c d : Nat), Rus W a rs.length rs → Rus W b rs.length rs → Calls Tryd.prog 16 #[.slice a rs.length c, .slice b rs.length d] W fun e w' => e = .returned (.bool true) ∧ Below W.heap.size W w') := fun W a b c d h1 h2 => usame_yes W a b rs.length c d rs h1 h2 (by omega)
        generalize mk (textR rs) = Z at *
        generalize rs.length = nr at *
        clear hok h64 hts hrt hrd2 hM hd hK hD hS hxl M0 hs3 hB23 hWB hlong hrd hZs
        gi_wp2
        go_wp2_with fail
        refine (HRd.out _ (Below.refl _ _)).mono ?_
        rintro e w4 ⟨a4, c4, rfl, hR4, hB4⟩
        have H4 : Hid (Below W.heap.size W (w4.alloc (.cells #[.int .i64 0, .int .i64 0] 35)) ∧ Rus (w4.alloc (.cells #[.int .i64 0, .int .i64 0] 35)) a4 nr rs ∧ Box2 (w4.alloc (.cells #[.int .i64 0, .int .i64 0] 35)) w4.heap.size (.int .i64 0) (.int .i64 0)) := ⟨hB4.alloc hB4.size _, hR4.kept ((Below.refl _ _).alloc (Nat.le_refl _) _), Box2.new _ _ _⟩
        clear hB4 hR4 cD
        go_wp2_with fail
        refine (HP.out _ _ _ H4.out.1 (HRW.out.kept H4.out.1)).mono ?_
        rintro e w6 ⟨rfl, hB6⟩
        have H6 : Hid (Below W.heap.size W w6 ∧ Rus w6 a4 nr rs ∧ Box2 w6 w4.heap.size (.int .i64 0) (.int .i64 0)) := ⟨H4.out.1.trans (hB6.mono H4.out.1.size), H4.out.2.1.kept hB6, Box2.kept H4.out.2.2 hB6⟩
        clear hB6
        go_wp2_with fail
        refine (HR2.out _ H6.out.1).mono ?_
        rintro e w7 ⟨a7, c7, rfl, hR7, hB7⟩
        have hAl : Below w7.heap.size w7 (w7.alloc (.cells #[.int .i64 0, .int .i64 0] 35)) := (Below.refl _ _).alloc (Nat.le_refl _) _
        have hW8 : Below w6.heap.size w6 (w7.alloc (.cells #[.int .i64 0, .int .i64 0] 35)) := hB7.trans (hAl.mono hB7.size)
        have H8 : Hid (Below W.heap.size W (w7.alloc (.cells #[.int .i64 0, .int .i64 0] 35)) ∧ Rus (w7.alloc (.cells #[.int .i64 0, .int .i64 0] 35)) a4 nr rs ∧ Rus (w7.alloc (.cells #[.int .i64 0, .int .i64 0] 35)) a7 nr rs ∧ Box2 (w7.alloc (.cells #[.int .i64 0, .int .i64 0] 35)) w7.heap.size (.int .i64 0) (.int .i64 0)) := ⟨H6.out.1.trans (hW8.mono H6.out.1.size), H6.out.2.1.kept hW8, hR7.kept hAl, Box2.new _ _ _⟩
        obtain ⟨y0, y1⟩ := (Box2.kept H6.out.2.2 hW8).cell
        clear hB7 hR7 hAl hW8
        go_wp2_with fail
        refine (HSm.out _ _ _ _ _ H8.out.2.1 (HRW.out.kept H8.out.1)).mono ?_
        rintro e w9 ⟨rfl, hB9⟩
        have H9 : Hid (Below W.heap.size W w9 ∧ Rus w9 a7 nr rs) := ⟨H8.out.1.trans (hB9.mono H8.out.1.size), H8.out.2.2.1.kept hB9⟩
        obtain ⟨z0, z1⟩ := (Box2.kept H8.out.2.2.2 hB9).cell
        clear hB9 y0 y1
        go_wp2_with fail
        refine (HSm.out _ _ _ _ _ H9.out.2 (HRW.out.kept H9.out.1)).mono ?_
        rintro e w10 ⟨rfl, hB10⟩
        have H10 : Hid (Below W.heap.size W w10) := H9.out.1.trans (hB10.mono H9.out.1.size)
        clear hB10 z0 z1
        go_wp2_with (go_at_call 8; refine (hwk _ (HWB.out.1.trans (H10.out.mono HWB.out.1.size))).mono ?_; rintro e w11 ⟨rfl, hB11⟩)
        have H11 : Below W.heap.size W w11 := H10.out.trans (hB11.mono H10.out.size)
        refine dfin_m (v := .bool true) (HF.out _ H11).1 (by simp [results, Tryd.results6, go_sem]) ⟨rfl, (HF.out _ H11).2⟩
end Go.Proofs.YtdchmmdndgbllaaDoor
