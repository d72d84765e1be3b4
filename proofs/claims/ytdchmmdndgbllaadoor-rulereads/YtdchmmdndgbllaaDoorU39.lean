import Derived.Test.YtdchmmdndgbllaaDoorU38
/- The walks of the document's value and Unquote. -/
namespace Go.Proofs.YtdchmmdndgbllaaDoor
open Go.RowKit

theorem value_any (c : UInt8) (w : World) :
    Calls Tryd.prog 63 #[.int .u8 (c.toNat : Int)] w fun e w' => e = .returned (.int .u8 (valN c : Int)) ∧ w' = w := by
  obtain ⟨n, hn⟩ : ∃ n, n = c.toNat := ⟨_, rfl⟩
  have h256 : n < 256 := by rw [hn]; exact UInt8.toNat_lt c
  have HV : Hid (valN c = if 48 ≤ n ∧ n ≤ 57 then n - 48 else if 97 ≤ n ∧ n ≤ 102 then n - 87 else 16) := by show _ = _; unfold valN; rw [hn]
  rw [← hn]
  clear hn
  by_cases h1 : 48 ≤ n
  · have i1 : (48 : Int) ≤ n := by omega
    by_cases h2 : n ≤ 57
    · have i2 : (n : Int) ≤ 57 := by omega
      have HX : Hid (((valN c : Nat) : Int) = (n : Int) - 48) := by show _ = _; rw [HV.out, if_pos ⟨h1, h2⟩]; omega
      go_enter Tryd.func63, Tryd.ntmps63
      go_wp2
      go_ret
      exact ⟨by rw [HX.out]; rfl, rfl⟩
    · have i2 : ¬ (n : Int) ≤ 57 := by omega
      by_cases h3 : 97 ≤ n
      · have i3 : (97 : Int) ≤ n := by omega
        by_cases h4 : n ≤ 102
        · have i4 : (n : Int) ≤ 102 := by omega
          have HX : Hid (((valN c : Nat) : Int) = (n : Int) - 97 + 10) := by show _ = _; rw [HV.out, if_neg (by omega), if_pos ⟨h3, h4⟩]; omega
          go_enter Tryd.func63, Tryd.ntmps63
          go_wp2
          go_ret
          exact ⟨by rw [HX.out]; rfl, rfl⟩
        · have i4 : ¬ (n : Int) ≤ 102 := by omega
          have HX : Hid (((valN c : Nat) : Int) = 16) := by show _ = _; rw [HV.out, if_neg (by omega), if_neg (by omega)]; rfl
          go_enter Tryd.func63, Tryd.ntmps63
          go_wp2
          go_ret
          exact ⟨by rw [HX.out]; rfl, rfl⟩
      · have i3 : ¬ (97 : Int) ≤ n := by omega
        have HX : Hid (((valN c : Nat) : Int) = 16) := by show _ = _; rw [HV.out, if_neg (by omega), if_neg (by omega)]; rfl
        go_enter Tryd.func63, Tryd.ntmps63
        go_wp2
        go_ret
        exact ⟨by rw [HX.out]; rfl, rfl⟩
  · have i1 : ¬ (48 : Int) ≤ n := by omega
    have i3 : ¬ (97 : Int) ≤ n := by omega
    have HX : Hid (((valN c : Nat) : Int) = 16) := by show _ = _; rw [HV.out, if_neg (by omega), if_neg (by omega)]; rfl
    go_enter Tryd.func63, Tryd.ntmps63
    go_wp2
    go_ret
    exact ⟨by rw [HX.out]; rfl, rfl⟩

set_option maxRecDepth 20000 in
theorem step_value (w : World) {ops : Array Oper} {o : Oper} {a : Act} {K : Act → World → Prop} {Q : Exit → Act → World → Prop} {E : Prop} (hgd : o.guard = none) (x : Nat) (t1 : TypeId)
    (ho : o.op = .call { callee := .value (.func 63), args := #[.tmp x], argTypes := #[t1] }) (c : UInt8) (hx : a.tmps[x]?.getD undef = .int .u8 (c.toNat : Int)) (n : Nat) (hn : n = valN c) (hK : K (a.put o.dst (.int .u8 (n : Int))) w) :
    if Region.wanted o (yielded ops a.tmps) = true then Oper.wp Tryd.prog o a w K Q else E := by
  subst hn
  have hw : Region.wanted o (yielded ops a.tmps) = true := by simp [Region.wanted, hgd]
  rw [if_pos hw]
  unfold Oper.wp execOp
  simp [ho, resolve, invoke, go_sem, hx]
  refine (value_any c w).mono ?_
  rintro e w' ⟨rfl, h1⟩
  subst h1
  simpa [go_sem] using hK
theorem wrap_i64 (n : Int) (h1 : -9223372036854775808 ≤ n) (h2 : n ≤ 9223372036854775807) : IntKind.i64.wrap n = n := by
  simp [IntKind.wrap, IntKind.signed, IntKind.bits]
  omega
theorem drop_more (s : ByteArray) (p : Nat) (h : p + 1 < s.size) : 2 ≤ ((bs s).drop p).length := by rw [List.length_drop, bs_len]; omega
theorem vx_cells {x2 x3 : Nat} {c2 c3 : UInt8} (ha : x2 = valN c2) (hb : x3 = valN c3) : (#[.int .u8 (IntKind.u8.wrap (IntKind.u8.wrap ((x2 : Int).tmod 16 * 16) + (x3 : Int).tmod 16))] : Array Value) = (cellsOf [vx c2 c3]).toArray := by
  have key : ∀ x y : Fin 17, IntKind.u8.wrap (IntKind.u8.wrap (((x.val : Nat) : Int).tmod 16 * 16) + ((y.val : Nat) : Int).tmod 16) = ((UInt8.ofNat (x.val % 16 * 16 + y.val % 16)).toNat : Int) := by decide +kernel
  subst ha
  subst hb
  rw [key ⟨_, valN_lt c2⟩ ⟨_, valN_lt c3⟩]
  rfl
set_option maxRecDepth 20000 in
set_option maxHeartbeats 4000000 in
theorem runquote_of (s : ByteArray) (w : World) (hs : s.size ≤ 2199023255552)
    (hq : ∀ (t : ByteArray) (W : World), t.size ≤ 8796093022208 → Calls Tryd.prog 45 #[.string t] W fun e w' => e = .returned (.string (mk (quoteL (bs t)))) ∧ Below W.heap.size W w') :
    Calls Tryd.prog 48 #[.string s] w fun e w' => e = .returned (.tuple #[.string (mk ((runqO (bs s)).getD [])), .bool (runqO (bs s)).isSome]) ∧ Below w.heap.size w w' := by
  have hs' : s.size ≤ 9223372036854775807 := by omega
  have hl := bs_len s
  by_cases h2 : s.size < 2
  · have i2 : (s.size : Int) < 2 := by omega
    have HX : Hid (runqO (bs s) = none) := by show _ = _; unfold runqO; rw [if_pos (by omega)]
    go_enter Tryd.func48, Tryd.ntmps48
    go_wp2
    go_ret2
    exact ⟨by rw [HX.out]; rfl, Below.refl _ _⟩
  · have i2 : ¬ (s.size : Int) < 2 := by omega
    have HX : Hid (runqO (bs s) = if quoteL (runq ((bs s).drop 1)) = bs s then some (runq ((bs s).drop 1)) else none) := by show _ = _; unfold runqO; rw [if_neg (by omega)]
    have i21 : (s.size : Int) - 1 ≤ 9223372036854775807 := by omega
    go_enter Tryd.func48, Tryd.ntmps48
    go_wp2
    go_loopw [4, 5] (fun v i wr => ∃ (p : Nat) (out : List UInt8), p ≤ s.size ∧ i = .int .i64 (p : Int) ∧ Own w v out wr ∧ Hid (runq ((bs s).drop 1) = out ++ runq ((bs s).drop p)) ∧ out.length ≤ p) (fun _ i _ => s.size - (intOf i).toNat)
    case atStart => exact ⟨1, [], by omega, rfl, own_nil w, by simp [Hid], by simp⟩
    case round =>
      obtain ⟨p, out, hp, rfl, hO, H, hol⟩ := hrel
      have HO : Hid (Own w u4 out wr) := hO
      have hsz := hO.size
      clear hO
      by_cases hlt : p + 1 < s.size
      · have ilt : (p : Int) < (s.size : Int) - 1 := by omega
        have iP : (p : Int) < s.size := by omega
        have hP : p < s.size := by omega
        have hle := drop_more s p hlt
        have HL : Hid (((bs s).drop p).length = s.size - p) := by show _ = _; rw [List.length_drop, hl]
        obtain ⟨c0, hc0⟩ : ∃ c0, c0 = ((bs s).drop p).getD 0 0 := ⟨_, rfl⟩
        have hat0 : s[p]'hP = c0 := by rw [hc0, at_bs, getD_drop]; rfl
        by_cases h92 : c0 = 92
        · subst h92
          obtain ⟨c1, hc1⟩ : ∃ c1, c1 = ((bs s).drop p).getD 1 0 := ⟨_, rfl⟩
          have iP1 : (p : Int) + 1 < s.size := by omega
          have tn1 : ((p : Int) + 1).toNat = p + 1 := by omega
          have hat1 : s[p + 1]'hlt = c1 := by rw [hc1, at_bs, getD_drop]
          by_cases hx : c1 = 120 ∧ p + 4 < s.size
          · obtain ⟨h120, h4⟩ := hx
            obtain ⟨c2, hc2⟩ : ∃ c2, c2 = ((bs s).drop p).getD 2 0 := ⟨_, rfl⟩
            obtain ⟨c3, hc3⟩ : ∃ c3, c3 = ((bs s).drop p).getD 3 0 := ⟨_, rfl⟩
            have hat2 : s[p + 2]'(by omega) = c2 := by rw [hc2, at_bs, getD_drop]
            have hat3 : s[p + 3]'(by omega) = c3 := by rw [hc3, at_bs, getD_drop]
            have HG : Hid (runq ((bs s).drop 1) = (out ++ [vx c2 c3]) ++ runq ((bs s).drop (p + 4))) := by
              show _ = _
              rw [H.out, runq_hex _ (by rw [HL.out]; omega) hc0.symm (by rw [← hc1]; exact h120), List.drop_drop, ← hc2, ← hc3]; simp
            subst h120
            have i3 : (p : Int) + 3 < (s.size : Int) - 1 := by omega
            have iP2 : (p : Int) + 2 < s.size := by omega
            have iP3 : (p : Int) + 3 < s.size := by omega
            have tn2 : ((p : Int) + 2).toNat = p + 2 := by omega
            have tn3 : ((p : Int) + 3).toNat = p + 3 := by omega
            have i4 : (p : Int) + 4 ≤ 9223372036854775807 := by omega
            obtain ⟨x2, hx2⟩ : ∃ x2, x2 = valN c2 := ⟨_, rfl⟩
            obtain ⟨x3, hx3⟩ : ∃ x3, x3 = valN c3 := ⟨_, rfl⟩
            have hwr2 : IntKind.i64.wrap ((p : Int) + 2) = (p : Int) + 2 := wrap_i64 _ (by omega) (by omega)
            have hwr3 : IntKind.i64.wrap ((p : Int) + 3) = (p : Int) + 3 := wrap_i64 _ (by omega) (by omega)
            have iz2 : (0 : Int) ≤ (p : Int) + 2 := by omega
            have iz3 : (0 : Int) ≤ (p : Int) + 3 := by omega
            have Hx2 : Hid (x2 = valN c2) := hx2
            have Hx3 : Hid (x3 = valN c3) := hx3
            clear H HX hc0 hc1 hc2 hc3 hx2 hx3
            go_wp2
            have hmx : Tryd.prog.follows .mixedOrders = true := by kernel_rfl
            refine wp_region_G (S := SB 1000 (fun _ => True) (fun _ => True)) hmx ?_
            refine wpAnyG_takeP (i := 0) (v := ?_) rfl (by kernel_rfl) (by kernel_rfl) (by kernel_rfl) (fun _ _ _ h => h) rfl (Or.inl ⟨by rfl, ?_⟩) (SB.off (by kernel_rfl) trivial) ?_
            rotate_left
            · intro Y hY; go_simp; try with_reducible rfl
            intro hSB0
            simp only [Act.put, List.getElem_toArray, List.getElem_cons_zero, List.setIfInBounds_toArray, List.set_cons_zero, List.set_cons_succ]
            refine wpAnyG_takeP (i := 1) (v := ?_) rfl (by kernel_rfl) (by kernel_rfl) (by kernel_rfl) (fun _ _ _ h => h) rfl (Or.inl ⟨by rfl, ?_⟩) (by assumption) ?_
            rotate_left
            · intro Y hY; go_simp; try with_reducible rfl
            intro hSB1
            simp only [Act.put, List.getElem_toArray, List.getElem_cons_zero, List.getElem_cons_succ, List.setIfInBounds_toArray, List.set_cons_zero, List.set_cons_succ]
            refine wpAnyG_takeP (i := 2) (v := ?_) rfl (by kernel_rfl) (by kernel_rfl) (by kernel_rfl) (fun _ _ _ h => h) rfl (Or.inl ⟨by rfl, ?_⟩) (by assumption) ?_
            rotate_left
            · intro Y hY; go_simp; try with_reducible rfl
            intro hSB2
            simp only [Act.put, List.getElem_toArray, List.getElem_cons_zero, List.getElem_cons_succ, List.setIfInBounds_toArray, List.set_cons_zero, List.set_cons_succ]
            refine wpAnyG_takeP (i := 3) (v := ?_) rfl (by kernel_rfl) (by kernel_rfl) (by kernel_rfl) (fun _ _ _ h => h) rfl (Or.inl ⟨by rfl, ?_⟩) (by assumption) ?_
            rotate_left
            · intro Y hY; go_simp; try with_reducible rfl
            intro hSB3
            simp only [Act.put, List.getElem_toArray, List.getElem_cons_zero, List.getElem_cons_succ, List.setIfInBounds_toArray, List.set_cons_zero, List.set_cons_succ]
            refine wpAnyG_takeP (i := 4) (v := ?_) rfl (by kernel_rfl) (by kernel_rfl) (by kernel_rfl) (fun _ _ _ h => h) rfl (Or.inl ⟨by rfl, ?_⟩) (by assumption) ?_
            rotate_left
            · intro Y hY; go_simp; try with_reducible rfl
            intro hSB4
            simp only [Act.put, List.getElem_toArray, List.getElem_cons_zero, List.getElem_cons_succ, List.setIfInBounds_toArray, List.set_cons_zero, List.set_cons_succ]
            refine wpAnyG_takeP (i := 8) (v := ?_) rfl (by kernel_rfl) (by kernel_rfl) (by kernel_rfl) (fun _ _ _ h => h) rfl (Or.inl ⟨by rfl, ?_⟩) (by assumption) ?_
            rotate_left
            · intro Y hY; go_simp; try with_reducible rfl
            intro hSB8
            simp only [Act.put, List.getElem_toArray, List.getElem_cons_zero, List.getElem_cons_succ, List.setIfInBounds_toArray, List.set_cons_zero, List.set_cons_succ]
            refine wpAnyG_takeP (i := 9) (v := ?_) rfl (by kernel_rfl) (by kernel_rfl) (by kernel_rfl) (fun _ _ _ h => h) rfl (Or.inl ⟨by rfl, ?_⟩) (by assumption) ?_
            rotate_left
            · intro Y hY; go_simp; try with_reducible rfl
            intro hSB9
            simp only [Act.put, List.getElem_toArray, List.getElem_cons_zero, List.getElem_cons_succ, List.setIfInBounds_toArray, List.set_cons_zero, List.set_cons_succ]
            refine wpAnyG_takeP (i := 10) (v := ?_) rfl (by kernel_rfl) (by kernel_rfl) (by kernel_rfl) (fun _ _ _ h => h) rfl (Or.inl ⟨by rfl, ?_⟩) (by assumption) ?_
            rotate_left
            · intro Y hY; go_simp; try with_reducible rfl
            intro hSB10
            simp only [Act.put, List.getElem_toArray, List.getElem_cons_zero, List.getElem_cons_succ, List.setIfInBounds_toArray, List.set_cons_zero, List.set_cons_succ]
            refine wpAnyG_takeP (i := 11) (v := ?_) rfl (by kernel_rfl) (by kernel_rfl) (by kernel_rfl) (fun _ _ _ h => h) rfl (Or.inl ⟨by rfl, ?_⟩) (by assumption) ?_
            rotate_left
            · intro Y hY; go_simp; try with_reducible rfl
            intro hSB11
            simp only [Act.put, List.getElem_toArray, List.getElem_cons_zero, List.getElem_cons_succ, List.setIfInBounds_toArray, List.set_cons_zero, List.set_cons_succ]
            refine wpAnyG_one (i := 5) (by kernel_rfl) rfl (fun K hK => ?_)
            refine step_value _ (by rfl) _ _ (by rfl) c2 (by rfl) x2 Hx2.out ?_
            refine hK.out _ _ (SB.off (by kernel_rfl) trivial) (fun hSB5 => ?_)
            clear hK K
            simp only [Act.put, List.getElem_toArray, List.getElem_cons_zero, List.getElem_cons_succ, List.setIfInBounds_toArray, List.set_cons_zero, List.set_cons_succ]
            refine wpAnyG_takeP (i := 6) (v := ?_) rfl (by kernel_rfl) (by kernel_rfl) (by kernel_rfl) (fun _ _ _ h => h) rfl (Or.inl ⟨by rfl, ?_⟩) (by assumption) ?_
            rotate_left
            · intro Y hY; go_simp; try with_reducible rfl
            intro hSB6
            simp only [Act.put, List.getElem_toArray, List.getElem_cons_zero, List.getElem_cons_succ, List.setIfInBounds_toArray, List.set_cons_zero, List.set_cons_succ]
            refine wpAnyG_takeP (i := 7) (v := ?_) rfl (by kernel_rfl) (by kernel_rfl) (by kernel_rfl) (fun _ _ _ h => h) rfl (Or.inl ⟨by rfl, ?_⟩) (by assumption) ?_
            rotate_left
            · intro Y hY; go_simp; try with_reducible rfl
            intro hSB7
            simp only [Act.put, List.getElem_toArray, List.getElem_cons_zero, List.getElem_cons_succ, List.setIfInBounds_toArray, List.set_cons_zero, List.set_cons_succ]
            refine wpAnyG_one (i := 12) (by kernel_rfl) rfl (fun K hK => ?_)
            refine step_value _ (by rfl) _ _ (by rfl) c3 (by rfl) x3 Hx3.out ?_
            refine hK.out _ _ (SB.off (by kernel_rfl) trivial) (fun hSB12 => ?_)
            clear hK K
            simp only [Act.put, List.getElem_toArray, List.getElem_cons_zero, List.getElem_cons_succ, List.setIfInBounds_toArray, List.set_cons_zero, List.set_cons_succ]
            refine wpAnyG_takeP (i := 13) (v := ?_) rfl (by kernel_rfl) (by kernel_rfl) (by kernel_rfl) (fun _ _ _ h => h) rfl (Or.inl ⟨by rfl, ?_⟩) (by assumption) ?_
            rotate_left
            · intro Y hY; go_simp; try with_reducible rfl
            intro hSB13
            simp only [Act.put, List.getElem_toArray, List.getElem_cons_zero, List.getElem_cons_succ, List.setIfInBounds_toArray, List.set_cons_zero, List.set_cons_succ]
            refine wpAnyG_takeP (i := 14) (v := ?_) rfl (by kernel_rfl) (by kernel_rfl) (by kernel_rfl) (fun _ _ _ h => h) rfl (Or.inl ⟨by rfl, ?_⟩) (by assumption) ?_
            rotate_left
            · intro Y hY; go_simp; try with_reducible rfl
            intro hSB14
            simp only [Act.put, List.getElem_toArray, List.getElem_cons_zero, List.getElem_cons_succ, List.setIfInBounds_toArray, List.set_cons_zero, List.set_cons_succ]
            refine wpAnyG_one (i := 15) (by kernel_rfl) rfl (fun K hK => ?_)
            go_simp
            refine hK.out _ _ (SB.off (by kernel_rfl) trivial) (fun hSB15 => ?_)
            clear hK K
            refine wpAnyG_one (i := 16) (by kernel_rfl) rfl (fun K hK => ?_)
            refine step_app _ w.heap.size (by simp; omega) (by rfl) _ _ (by rfl) u4 out.length _ (by rfl) (HO.out.row.drew.alloc _) (some ⟨_, 0, none⟩) 1 1 [vx c2 c3] (by rfl) (bytes_new _ _ _ (vx_cells Hx2.out Hx3.out)) (fun h => by cases h) (by omega) ?_
            intro v' w3' hown3 hgr3 hat3
            refine hK.out _ _ (SB.off (by kernel_rfl) trivial) (fun hSB16 => ?_)
            clear hK K
            simp only [Act.put, List.getElem_toArray, List.getElem_cons_zero, List.getElem_cons_succ, List.setIfInBounds_toArray, List.set_cons_zero, List.set_cons_succ]
            refine wpAnyG_takeP (i := 17) (v := ?_) rfl (by kernel_rfl) (by kernel_rfl) (by kernel_rfl) (fun _ _ _ h => h) rfl (Or.inl ⟨by rfl, ?_⟩) (by assumption) ?_
            rotate_left
            · intro Y hY; go_simp; try with_reducible rfl
            intro hSB17
            simp only [Act.put, List.getElem_toArray, List.getElem_cons_zero, List.getElem_cons_succ, List.setIfInBounds_toArray, List.set_cons_zero, List.set_cons_succ]
            refine wpAnyG_done (by kernel_rfl) ?_ _
            have HF : Hid (Own w v' (out ++ [vx c2 c3]) w3') := ((HO.out.alloc _).drew).grown (m := [vx c2 c3]) hgr3 rfl hown3
            clear hown3 hgr3 hat3 HO hSB0 hSB1 hSB2 hSB3 hSB4 hSB5 hSB6 hSB7 hSB8 hSB9 hSB10 hSB11 hSB12 hSB13 hSB14 hSB15 hSB16 hSB17
            go_wp2
            go_roundw
            case rel => exact ⟨p + 4, out ++ [vx c2 c3], by omega, by go_num, HF.out, HG.out, by simp; omega⟩
            case measure => simp [intOf]; omega
          · have HG : Hid (runq ((bs s).drop 1) = (out ++ [if c1 = 110 then 10 else c1]) ++ runq ((bs s).drop (p + 2))) := by
              show _ = _
              rw [H.out, runq_two _ hle hc0.symm (by rw [← hc1, HL.out]; intro h; exact hx ⟨h.1, by omega⟩), List.drop_drop, ← hc1]; simp
            have hc1l : c1.toNat < 256 := UInt8.toNat_lt c1
            clear H HX hc0 hc1 hle HL hl hq
            by_cases h120 : c1 = 120
            · subst h120
              have i3 : ¬ (p : Int) + 3 < (s.size : Int) - 1 := fun e => hx ⟨rfl, by omega⟩
              have HG2 : Hid (runq ((bs s).drop 1) = (out ++ [120]) ++ runq ((bs s).drop (p + 2))) := by rw [HG.out]; rfl
              clear hx HG
              go_wp2_with (at_builtin; refine wpList_app _ w.heap.size (by simp; omega) rfl _ _ rfl u4 out.length _ rfl (HO.out.alloc _).row (some ⟨_, 0, none⟩) 1 1 [120] rfl (bytes_new _ [120] _ rfl) (fun h => by cases h) (by omega) ?_; intro v' w4 hown4 hgr4 hat4)
              have HF : Hid (Own w v' (out ++ [120]) w4) := (HO.out.alloc _).grown hgr4 rfl hown4
              clear hown4 hgr4 hat4 HO
              go_wp2
              go_roundw
              case rel => exact ⟨p + 2, out ++ [120], by omega, by go_num, HF.out, HG2.out, by simp; omega⟩
              case measure => simp [intOf]; omega
            · have hb120 : ((c1.toNat : Int) == 120) = false := beq_eq_false_iff_ne.2 (fun e => h120 (UInt8.toNat_inj.1 (by show _ = 120; omega)))
              clear hx
              by_cases h110 : c1 = 110
              · subst h110
                have HG2 : Hid (runq ((bs s).drop 1) = (out ++ [10]) ++ runq ((bs s).drop (p + 2))) := by rw [HG.out]; rfl
                clear HG hb120 h120
                go_wp2_with (at_builtin; refine wpList_app _ w.heap.size (by simp; omega) rfl _ _ rfl u4 out.length _ rfl (HO.out.alloc _).row (some ⟨_, 0, none⟩) 1 1 [10] rfl (bytes_new _ [10] _ rfl) (fun h => by cases h) (by omega) ?_; intro v' w4 hown4 hgr4 hat4)
                have HF : Hid (Own w v' (out ++ [10]) w4) := (HO.out.alloc _).grown hgr4 rfl hown4
                clear hown4 hgr4 hat4 HO
                go_wp2
                go_roundw
                case rel => exact ⟨p + 2, out ++ [10], by omega, by go_num, HF.out, HG2.out, by simp; omega⟩
                case measure => simp [intOf]; omega
              · have hb110 : ((c1.toNat : Int) == 110) = false := beq_eq_false_iff_ne.2 (fun e => h110 (UInt8.toNat_inj.1 (by show _ = 110; omega)))
                have HG2 : Hid (runq ((bs s).drop 1) = (out ++ [c1]) ++ runq ((bs s).drop (p + 2))) := by rw [HG.out, if_neg h110]; exact rfl
                clear HG h120 h110
                go_wp2_with (at_builtin; refine wpList_app _ w.heap.size (by simp; omega) rfl _ _ rfl u4 out.length _ rfl (HO.out.alloc _).row (some ⟨_, 0, none⟩) 1 1 [c1] rfl (bytes_new _ [c1] _ rfl) (fun h => by cases h) (by omega) ?_; intro v' w4 hown4 hgr4 hat4)
                have HF : Hid (Own w v' (out ++ [c1]) w4) := (HO.out.alloc _).grown hgr4 rfl hown4
                clear hown4 hgr4 hat4 HO
                go_wp2
                go_roundw
                case rel => exact ⟨p + 2, out ++ [c1], by omega, by go_num, HF.out, HG2.out, by simp; omega⟩
                case measure => simp [intOf]; omega
        · have hb : ((c0.toNat : Int) == 92) = false := beq_eq_false_iff_ne.2 (fun e => h92 (UInt8.toNat_inj.1 (by show _ = 92; omega)))
          have HG : Hid (runq ((bs s).drop 1) = (out ++ [c0]) ++ runq ((bs s).drop (p + 1))) := by
            show _ = _
            rw [H.out, runq_byte _ hle (by rw [← hc0]; exact h92), List.drop_drop, ← hc0]; simp
          clear H HX hc0 hle HL h92 hl hq
          go_wp2_with (at_builtin; refine wpList_app _ w.heap.size (by simp; omega) rfl _ _ rfl u4 out.length _ rfl (HO.out.alloc _).row (some ⟨_, 0, none⟩) 1 1 [c0] rfl (bytes_new _ [c0] _ rfl) (fun h => by cases h) (by omega) ?_; intro v' w4 hown4 hgr4 hat4)
          have HF : Hid (Own w v' (out ++ [c0]) w4) := (HO.out.alloc _).grown hgr4 rfl hown4
          clear hown4 hgr4 hat4 HO
          go_wp2
          go_roundw
          case rel => exact ⟨p + 1, out ++ [c0], by omega, by go_num, HF.out, HG.out, by simp; omega⟩
          case measure => simp [intOf]; omega
      · have ilt : ¬ (p : Int) < (s.size : Int) - 1 := by omega
        have HE : Hid (runq ((bs s).drop 1) = out) := by show _ = _; rw [H.out, runq_end ((bs s).drop p) (by rw [List.length_drop, hl]; omega), List.append_nil]
        have HR : Hid (Own w u4 out wr) := HO.out
        have hrow := HO.out.row
        obtain ⟨N, hN⟩ : ∃ N, N = out.length := ⟨_, rfl⟩
        rw [← hN] at hrow
        obtain ⟨a4, c4, hv4, _⟩ := row_shape hrow
        subst hv4
        have hcv := run_string wr a4 N c4 _ (row_bytes hrow)
        have hqq := hq (mk out) wr (by have h1 : (mk out).size = out.length := by simp [mk, ByteArray.size]
                                       omega)
        rw [bs_mk] at hqq
        have HBl : Hid (Below w.heap.size w wr) := HO.out.bel
        have HOw : Hid (Own w (.slice a4 N c4) out wr) := HO.out
        have HNo : Hid (N = out.length) := hN
        have HEq : Hid (runqO (bs s) = if quoteL out = bs s then some out else none) := by rw [HX.out, HE.out]; exact rfl
        obtain ⟨T, hTq⟩ : ∃ T, T = quoteL out := ⟨_, rfl⟩
        rw [← hTq] at hqq HEq
        clear hrow hN HR HO HX HE H hTq hq hol
        by_cases hEs : T = bs s
        · have HEq2 : Hid (runqO (bs s) = some out) := by rw [HEq.out, if_pos hEs]; exact rfl
          have hmk : mk T = s := by rw [hEs, mk_bs]
          rw [hmk] at hqq
          clear HEq
          go_wp2_with fail
          refine hqq.mono ?_
          clear hqq
          rintro e w5 ⟨rfl, hB5⟩
          have H5 : Hid (Below w.heap.size w w5) := HBl.out.trans (hB5.mono HBl.out.size)
          have hrow5 := (HOw.out.below hB5).row
          rw [← HNo.out] at hrow5
          have hcv5 := run_string w5 a4 N c4 _ (row_bytes hrow5)
          clear hB5 hrow5 hcv
          go_wp2
          go_ret2
          exact ⟨by rw [HEq2.out]; rfl, H5.out⟩
        · have HEq2 : Hid (runqO (bs s) = none) := by rw [HEq.out, if_neg hEs]; exact rfl
          have hmk : ((mk T).toList == s.toList) = false := by rw [str_beq, bs_mk]; exact decide_eq_false hEs
          clear HEq
          go_wp2_with fail
          refine hqq.mono ?_
          clear hqq
          rintro e w5 ⟨rfl, hB5⟩
          have H5 : Hid (Below w.heap.size w w5) := HBl.out.trans (hB5.mono HBl.out.size)
          clear hB5
          go_wp2
          go_ret2
          exact ⟨by rw [HEq2.out]; rfl, H5.out⟩
end Go.Proofs.YtdchmmdndgbllaaDoor
