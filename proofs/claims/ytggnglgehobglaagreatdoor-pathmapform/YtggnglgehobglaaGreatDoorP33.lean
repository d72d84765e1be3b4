import Derived.Test.YtggnglgehobglaaGreatDoorP24
/- The walk of the law's cut (gencut14.py). -/
namespace Go.Proofs.YtggnglgehobglaaGreatDoor
open Go.RowKit Go.Shelf Go.Maps

attribute [local go_sem] Oper.semAt_some

set_option maxRecDepth 20000 in
theorem step_storeS (w : World) {ops : Array Oper} {o : Oper} {a : Act} {K : Act → World → Prop} {Q : Exit → Act → World → Prop} {E : Prop} (hgd : o.guard = none) (hd : o.dst = none) (x y : Nat)
    (ho : o.op = .store 9 (.tmp x) (.tmp y)) (p : Addr) (s : ByteArray) (hx : a.tmps[x]?.getD undef = .pointer (some p)) (hy : a.tmps[y]?.getD undef = .string s) (u : Value) (hc : w.cell? p = some u) (hf : w.frozen? p = false) (hK : K a (w.setCell p (.string s))) :
    if Region.wanted o (yielded ops a.tmps) = true then Oper.wp Tryz.prog o a w K Q else E := by
  have hw : Region.wanted o (yielded ops a.tmps) = true := by simp [Region.wanted, hgd]
  rw [if_pos hw]
  unfold Oper.wp execOp
  simp [ho, go_sem, hx, hy, hc, hf, hd, Tryz.sizeOf9]
  simpa [go_sem] using hK
/-- a rule as the laws cut it -/
def c300 (r : Ru) : Ru := (r.1, r.2.1.take 300, r.2.2.take 300)
def cutR (rs : List Ru) : List Ru := (rs.take 66).map c300
theorem cut14_step (rs : List Ru) (k : Nat) (r : Ru) (h : rs[k]? = some r) : (rs.take (k + 1)).map c300 = (rs.take k).map c300 ++ [c300 r] := by
  obtain ⟨hk, rfl⟩ := List.getElem?_eq_some_iff.1 h
  rw [List.take_succ_eq_append_getElem hk, List.map_append]
  rfl
theorem bs_cut (s : ByteArray) (m : Nat) (h : m = min s.size 300) : bs (s.extract 0 m) = (bs s).take 300 := by
  rw [bs_extract, h, ← bs_len]
  simp
  omega
set_option maxRecDepth 100000 in
set_option maxHeartbeats 4000000 in
theorem cut14_any (w : World) (a : Option Addr) (n c : Nat) (rs : List Ru) (hl : Rus w a n rs) (hnb : n ≤ 100000000000000000) (hz : ∀ r ∈ rs, r.2.1.length ≤ maxLen ∧ r.2.2.length ≤ maxLen) :
    Calls Tryz.prog 19 #[.slice a n c] w fun e w' => ∃ ad c', e = .returned (.slice ad (cutR rs).length c') ∧ w'.ownsRow w.heap.size 31 3 (.slice ad (cutR rs).length c') (cutR rs).length (ruCells (cutR rs)) ∧ Below w.heap.size w w' := by
  have HL : Hid (Rus w a n rs ∧ ∀ r ∈ rs, r.2.1.length ≤ maxLen ∧ r.2.2.length ≤ maxLen) := ⟨hl, hz⟩
  have hmx : Tryz.prog.follows .mixedOrders = true := by kernel_rfl
  clear hl hz
  go_enter Tryz.func19, Tryz.ntmps19
  go_wp2_with fail
  go_loopw [8, 3] (fun i f wr => ∃ (k c' : Nat) (ad : Option Addr), k ≤ n ∧ k ≤ 66 ∧ i = .int .i64 (k : Int) ∧ f = .slice ad k c' ∧ Hid (wr.ownsRow w.heap.size 31 3 (.slice ad k c') k (ruCells ((rs.take k).map c300)) ∧ Below w.heap.size w wr)) (fun i _ _ => n - (intOf i).toNat)
  case atStart => exact ⟨0, 0, none, Nat.zero_le _, Nat.zero_le _, rfl, rfl, ⟨rfl, .inl ⟨rfl, rfl⟩⟩, Below.refl _ _⟩
  case round =>
    obtain ⟨k, c', ad, hk, hk66, rfl, rfl, H⟩ := hrel
    by_cases hlt : k < n
    · obtain ⟨r, hr⟩ : ∃ r, rs[k]? = some r := ⟨_, List.getElem?_eq_getElem (by rw [HL.out.1.1]; exact hlt)⟩
      obtain ⟨b1, o1, hae, hc1⟩ := (HL.out.1.kept H.out.2).2 (by omega)
      subst hae
      obtain ⟨q0, q1, q2⟩ := hc1 k r hr
      have hsz := HL.out.2 r (List.mem_of_getElem? hr)
      obtain ⟨f, hf⟩ : ∃ f, f = mk r.2.1 := ⟨_, rfl⟩
      obtain ⟨t, ht⟩ : ∃ t, t = mk r.2.2 := ⟨_, rfl⟩
      have hfs : f.size ≤ maxLen := by rw [← bs_len, hf, bs_mk]; exact hsz.1
      have hts : t.size ≤ maxLen := by rw [← bs_len, ht, bs_mk]; exact hsz.2
      rw [← hf] at q1
      rw [← ht] at q2
      have hbx : BoxR (wr.alloc (.cells #[.int .i64 r.1, .string f, .string t] 31)) wr.heap.size r.1 f t := BoxR.new wr r.1 f t
      have HB3 : Hid (Below wr.heap.size wr (wr.alloc (.cells #[.int .i64 r.1, .string f, .string t] 31)) ∧ BoxR (wr.alloc (.cells #[.int .i64 r.1, .string f, .string t] 31)) wr.heap.size r.1 f t) := ⟨(Below.refl _ wr).alloc (Nat.le_refl _) _, hbx⟩
      have i5 : (k : Int) < (n : Int) := by omega
      have i6 : ¬ n ≤ k := by omega
      by_cases h66 : k = 66
      · subst h66
        have HE : Hid ((cutR rs).length = 66 ∧ ∀ W, Below wr.heap.size wr W → W.ownsRow w.heap.size 31 3 (.slice ad 66 c') 66 (ruCells (cutR rs)) ∧ Below w.heap.size w W) := ⟨by
          unfold cutR
          rw [List.length_map, List.length_take, HL.out.1.1]
          omega, fun W hW => ⟨rowB H.out.1 hW, H.out.2.trans (hW.mono H.out.2.size)⟩⟩
        generalize r.1 = kk at *
        clear hc1 hr hsz hf ht hbx hfs hts H
        go_wp2
        go_ret
        refine ⟨ad, c', by rw [HE.out.1]; rfl, ?_⟩
        rw [HE.out.1]
        exact HE.out.2 _ HB3.out.1
      · have i7 : ¬ (k : Int) = 66 := by omega
        obtain ⟨fm, hfm⟩ : ∃ fm, fm = min f.size 300 := ⟨_, rfl⟩
        obtain ⟨tm, htm⟩ : ∃ tm, tm = min t.size 300 := ⟨_, rfl⟩
        have m1 : min (f.size : Int) 300 = (fm : Int) := by omega
        have m2 : (if (f.size : Int) ≤ 300 then (f.size : Int) else 300) = (fm : Int) := by split <;> omega
        have m3 : (if (300 : Int) < (f.size : Int) then 300 else (f.size : Int)) = (fm : Int) := by split <;> omega
        have m4 : (if (f.size : Int) < 300 then (f.size : Int) else 300) = (fm : Int) := by split <;> omega
        have m5 : (fm : Int) ≤ (f.size : Int) := by omega
        have m6 : fm ≤ f.size := by omega
        have n1 : min (t.size : Int) 300 = (tm : Int) := by omega
        have n2 : (if (t.size : Int) ≤ 300 then (t.size : Int) else 300) = (tm : Int) := by split <;> omega
        have n3 : (if (300 : Int) < (t.size : Int) then 300 else (t.size : Int)) = (tm : Int) := by split <;> omega
        have n4 : (if (t.size : Int) < 300 then (t.size : Int) else 300) = (tm : Int) := by split <;> omega
        have n5 : (tm : Int) ≤ (t.size : Int) := by omega
        have n6 : tm ≤ t.size := by omega
        have HF : Hid ((rs.take (k + 1)).map c300 = (rs.take k).map c300 ++ [(r.1, bs (f.extract 0 fm), bs (t.extract 0 tm))]) := by
          show _ = _
          rw [cut14_step rs k r hr, bs_cut f fm hfm, bs_cut t tm htm, hf, ht, bs_mk, bs_mk]
          rfl
        have HM : Hid ((k + 1) * 40 ≤ 140737488355328) := by
          show _ ≤ _
          omega
        generalize r.1 = kk at *
        clear hc1 hr hsz hf ht hbx hfm htm
        go_upto_region 6 with fail
        generalize wr.alloc (.cells #[.int .i64 kk, .string f, .string t] 31) = w3 at *
        generalize hbx : wr.heap.size = bx at *
        have HBX : Hid (wr.heap.size = bx) := hbx
        clear hbx
        obtain ⟨v0, v1, v2⟩ := HB3.out.2.cell
        obtain ⟨y0, y1, y2⟩ := HB3.out.2.frozen
        have HC2 : Hid ((w3.drew.setCell ⟨bx, 1, none⟩ (.string (f.extract 0 fm))).cell? ⟨bx, 2, none⟩ = some (.string t) ∧ (w3.drew.setCell ⟨bx, 1, none⟩ (.string (f.extract 0 fm))).frozen? ⟨bx, 2, none⟩ = false) := by
          have h := HB3.out.2.set1 (f.extract 0 fm)
          exact ⟨h.cell.2.2, h.frozen.2.2⟩
        refine wp_region_G (S := SB 15 (fun W => W.cell? ⟨bx, 1, none⟩ = some (.string f) ∧ W.cell? ⟨bx, 2, none⟩ = some (.string t)) (fun _ => True)) hmx ?_
        have hSB : SB 15 (fun W => W.cell? ⟨bx, 1, none⟩ = some (.string f) ∧ W.cell? ⟨bx, 2, none⟩ = some (.string t)) (fun _ => True) (Array.replicate 18 false) w3.drew := SB.on ⟨v1, v2⟩ trivial
        refine wpAnyG_takeP (i := 0) (v := ?_) rfl (by kernel_rfl) (by kernel_rfl) (by kernel_rfl) (fun _ _ _ h => h) rfl (Or.inl ⟨by rfl, ?_⟩) (by assumption) ?_
        rotate_left
        · intro Y _; go_simp; try with_reducible rfl
        intro hSB0
        try simp only [Act.put, List.getElem_toArray, List.getElem_cons_zero, List.setIfInBounds_toArray, List.set_cons_zero, List.set_cons_succ]
        refine wpAnyG_takeB (i := 1) (b := 15) (v := ?_) rfl (by kernel_rfl) (by kernel_rfl) (by kernel_rfl) (fun _ _ _ h => h) rfl (by kernel_rfl) (by rfl) (by kernel_rfl) (Or.inl ⟨by rfl, ?_⟩) (by assumption) ?_
        rotate_left
        · intro Y hY; obtain ⟨⟨a1, a2⟩, _⟩ := hY; go_simp; try with_reducible rfl
        intro hSB1
        try simp only [Act.put, List.getElem_toArray, List.getElem_cons_zero, List.getElem_cons_succ, List.setIfInBounds_toArray, List.set_cons_zero, List.set_cons_succ]
        refine wpAnyG_takeP (i := 2) (v := ?_) rfl (by kernel_rfl) (by kernel_rfl) (by kernel_rfl) (fun _ _ _ h => h) rfl (Or.inl ⟨by rfl, ?_⟩) (by assumption) ?_
        rotate_left
        · intro Y _; go_simp; try with_reducible rfl
        intro hSB2
        try simp only [Act.put, List.getElem_toArray, List.getElem_cons_zero, List.getElem_cons_succ, List.setIfInBounds_toArray, List.set_cons_zero, List.set_cons_succ]
        refine wpAnyG_takeB (i := 3) (b := 15) (v := ?_) rfl (by kernel_rfl) (by kernel_rfl) (by kernel_rfl) (fun _ _ _ h => h) rfl (by kernel_rfl) (by rfl) (by kernel_rfl) (Or.inl ⟨by rfl, ?_⟩) (by assumption) ?_
        rotate_left
        · intro Y hY; obtain ⟨⟨a1, a2⟩, _⟩ := hY; go_simp; try with_reducible rfl
        intro hSB3
        try simp only [Act.put, List.getElem_toArray, List.getElem_cons_zero, List.getElem_cons_succ, List.setIfInBounds_toArray, List.set_cons_zero, List.set_cons_succ]
        refine wpAnyG_takeP (i := 4) (v := ?_) rfl (by kernel_rfl) (by kernel_rfl) (by kernel_rfl) (fun _ _ _ h => h) rfl (Or.inl ⟨by rfl, ?_⟩) (by assumption) ?_
        rotate_left
        · intro Y _; go_simp; try with_reducible rfl
        intro hSB4
        try simp only [Act.put, List.getElem_toArray, List.getElem_cons_zero, List.getElem_cons_succ, List.setIfInBounds_toArray, List.set_cons_zero, List.set_cons_succ]
        refine wpAnyG_takeP (i := 5) (v := ?_) rfl (by kernel_rfl) (by kernel_rfl) (by kernel_rfl) (fun _ _ _ h => h) rfl (Or.inl ⟨by rfl, ?_⟩) (by assumption) ?_
        rotate_left
        · intro Y _; go_simp; try with_reducible rfl
        intro hSB5
        try simp only [Act.put, List.getElem_toArray, List.getElem_cons_zero, List.getElem_cons_succ, List.setIfInBounds_toArray, List.set_cons_zero, List.set_cons_succ]
        refine wpAnyG_takeP (i := 6) (v := ?_) rfl (by kernel_rfl) (by kernel_rfl) (by kernel_rfl) (fun _ _ _ h => h) rfl (Or.inl ⟨by rfl, ?_⟩) (by assumption) ?_
        rotate_left
        · intro Y _; go_simp; try with_reducible rfl
        intro hSB6
        try simp only [Act.put, List.getElem_toArray, List.getElem_cons_zero, List.getElem_cons_succ, List.setIfInBounds_toArray, List.set_cons_zero, List.set_cons_succ]
        refine wpAnyG_takeP (i := 7) (v := ?_) rfl (by kernel_rfl) (by kernel_rfl) (by kernel_rfl) (fun _ _ _ h => h) rfl (Or.inl ⟨by rfl, ?_⟩) (by assumption) ?_
        rotate_left
        · intro Y _; go_simp; try with_reducible rfl
        intro hSB7
        try simp only [Act.put, List.getElem_toArray, List.getElem_cons_zero, List.getElem_cons_succ, List.setIfInBounds_toArray, List.set_cons_zero, List.set_cons_succ]
        refine wpAnyG_takeB (i := 8) (b := 15) (v := ?_) rfl (by kernel_rfl) (by kernel_rfl) (by kernel_rfl) (fun _ _ _ h => h) rfl (by kernel_rfl) (by rfl) (by kernel_rfl) (Or.inl ⟨by rfl, ?_⟩) (by assumption) ?_
        rotate_left
        · intro Y hY; obtain ⟨⟨a1, a2⟩, _⟩ := hY; go_simp; try with_reducible rfl
        intro hSB8
        try simp only [Act.put, List.getElem_toArray, List.getElem_cons_zero, List.getElem_cons_succ, List.setIfInBounds_toArray, List.set_cons_zero, List.set_cons_succ]
        refine wpAnyG_takeP (i := 9) (v := ?_) rfl (by kernel_rfl) (by kernel_rfl) (by kernel_rfl) (fun _ _ _ h => h) rfl (Or.inl ⟨by rfl, ?_⟩) (by assumption) ?_
        rotate_left
        · intro Y _; go_simp; try with_reducible rfl
        intro hSB9
        try simp only [Act.put, List.getElem_toArray, List.getElem_cons_zero, List.getElem_cons_succ, List.setIfInBounds_toArray, List.set_cons_zero, List.set_cons_succ]
        refine wpAnyG_takeB (i := 10) (b := 15) (v := ?_) rfl (by kernel_rfl) (by kernel_rfl) (by kernel_rfl) (fun _ _ _ h => h) rfl (by kernel_rfl) (by rfl) (by kernel_rfl) (Or.inl ⟨by rfl, ?_⟩) (by assumption) ?_
        rotate_left
        · intro Y hY; obtain ⟨⟨a1, a2⟩, _⟩ := hY; go_simp; try with_reducible rfl
        intro hSB10
        try simp only [Act.put, List.getElem_toArray, List.getElem_cons_zero, List.getElem_cons_succ, List.setIfInBounds_toArray, List.set_cons_zero, List.set_cons_succ]
        refine wpAnyG_takeP (i := 11) (v := ?_) rfl (by kernel_rfl) (by kernel_rfl) (by kernel_rfl) (fun _ _ _ h => h) rfl (Or.inl ⟨by rfl, ?_⟩) (by assumption) ?_
        rotate_left
        · intro Y _; go_simp; try with_reducible rfl
        intro hSB11
        try simp only [Act.put, List.getElem_toArray, List.getElem_cons_zero, List.getElem_cons_succ, List.setIfInBounds_toArray, List.set_cons_zero, List.set_cons_succ]
        refine wpAnyG_takeP (i := 12) (v := ?_) rfl (by kernel_rfl) (by kernel_rfl) (by kernel_rfl) (fun _ _ _ h => h) rfl (Or.inl ⟨by rfl, ?_⟩) (by assumption) ?_
        rotate_left
        · intro Y _; go_simp; try with_reducible rfl
        intro hSB12
        try simp only [Act.put, List.getElem_toArray, List.getElem_cons_zero, List.getElem_cons_succ, List.setIfInBounds_toArray, List.set_cons_zero, List.set_cons_succ]
        refine wpAnyG_takeP (i := 13) (v := ?_) rfl (by kernel_rfl) (by kernel_rfl) (by kernel_rfl) (fun _ _ _ h => h) rfl (Or.inl ⟨by rfl, ?_⟩) (by assumption) ?_
        rotate_left
        · intro Y _; go_simp; try with_reducible rfl
        intro hSB13
        try simp only [Act.put, List.getElem_toArray, List.getElem_cons_zero, List.getElem_cons_succ, List.setIfInBounds_toArray, List.set_cons_zero, List.set_cons_succ]
        refine wpAnyG_takeP (i := 14) (v := ?_) rfl (by kernel_rfl) (by kernel_rfl) (by kernel_rfl) (fun _ _ _ h => h) rfl (Or.inl ⟨by rfl, ?_⟩) (by assumption) ?_
        rotate_left
        · intro Y _; go_simp; try with_reducible rfl
        intro hSB14
        try simp only [Act.put, List.getElem_toArray, List.getElem_cons_zero, List.getElem_cons_succ, List.setIfInBounds_toArray, List.set_cons_zero, List.set_cons_succ]
        refine wpAnyG_one (i := 15) (by kernel_rfl) rfl (fun K hK => ?_)
        refine step_storeS _ (by rfl) (by rfl) _ _ (by rfl) _ _ (by rfl) (by rfl) _ v1 y1 ?_
        refine hK.out _ _ (SB.off (by kernel_rfl) trivial) (fun hSB15 => ?_)
        clear hK K
        refine wpAnyG_takeP (i := 16) (v := ?_) rfl (by kernel_rfl) (by kernel_rfl) (by kernel_rfl) (fun _ _ _ h => h) rfl (Or.inl ⟨by rfl, ?_⟩) (by assumption) ?_
        rotate_left
        · intro Y _; go_simp; try with_reducible rfl
        intro hSB16
        try simp only [Act.put, List.getElem_toArray, List.getElem_cons_zero, List.getElem_cons_succ, List.setIfInBounds_toArray, List.set_cons_zero, List.set_cons_succ]
        refine wpAnyG_one (i := 17) (by kernel_rfl) rfl (fun K hK => ?_)
        refine step_storeS _ (by rfl) (by rfl) _ _ (by rfl) _ _ (by rfl) (by rfl) _ HC2.out.1 HC2.out.2 ?_
        refine hK.out _ _ (SB.off (by kernel_rfl) trivial) (fun hSB17 => ?_)
        clear hK K
        refine wpAnyG_done (by kernel_rfl) ?_ _
        clear hSB hSB0 hSB1 hSB2 hSB3 hSB4 hSB5 hSB6 hSB7 hSB8 hSB9 hSB10 hSB11 hSB12 hSB13 hSB14 hSB15 hSB16 hSB17
        have HE : Hid (BoxR ((w3.drew.setCell ⟨bx, 1, none⟩ (.string (f.extract 0 fm))).setCell ⟨bx, 2, none⟩ (.string (t.extract 0 tm))) bx kk (f.extract 0 fm) (t.extract 0 tm) ∧ Below bx wr ((w3.drew.setCell ⟨bx, 1, none⟩ (.string (f.extract 0 fm))).setCell ⟨bx, 2, none⟩ (.string (t.extract 0 tm)))) := by
          refine ⟨(HB3.out.2.set1 (f.extract 0 fm)).set2 (t.extract 0 tm), ?_⟩
          have h2 := (HB3.out.1.setCell (p := ⟨bx, 1, none⟩) (Nat.le_refl _) (.string (f.extract 0 fm))).setCell (p := ⟨bx, 2, none⟩) (Nat.le_refl _) (.string (t.extract 0 tm))
          exact ⟨h2.os, h2.tape, h2.output, h2.size, h2.block⟩
        clear v0 v1 v2 y0 y1 y2 HC2 HB3 m1 m2 m3 m4 m5 m6 n1 n2 n3 n4 n5 n6
        generalize (w3.drew.setCell ⟨bx, 1, none⟩ (.string (f.extract 0 fm))).setCell ⟨bx, 2, none⟩ (.string (t.extract 0 tm)) = w5 at *
        generalize hf2 : f.extract 0 fm = f2 at *
        generalize ht2 : t.extract 0 tm = t2 at *
        clear hf2 ht2
        have H6 : Hid ((w5.alloc (.cells #[.int .i64 kk, .string f2, .string t2] 31)).ownsRow w.heap.size 31 3 (.slice ad k c') k (ruCells ((rs.take k).map c300)) ∧ Rus (w5.alloc (.cells #[.int .i64 kk, .string f2, .string t2] 31)) (some ⟨w5.heap.size, 0, none⟩) 1 [(kk, bs f2, bs t2)] ∧ Below w.heap.size w (w5.alloc (.cells #[.int .i64 kk, .string f2, .string t2] 31))) := by
          have h0 : Below wr.heap.size wr w5 := by rw [HBX.out]; exact HE.out.2
          have hA : Below wr.heap.size wr (w5.alloc (.cells #[.int .i64 kk, .string f2, .string t2] 31)) := h0.alloc h0.size _
          refine ⟨rowB H.out.1 hA, ⟨rfl, fun _ => ⟨_, 0, rfl, fun j x hx => ?_⟩⟩, H.out.2.trans (hA.mono H.out.2.size)⟩
          obtain ⟨e1, e2, e3⟩ := (BoxR.new w5 kk f2 t2).cell
          match j, hx with
          | 0, hx => cases hx; exact ⟨e1, by rw [mk_bs]; exact e2, by rw [mk_bs]; exact e3⟩
        obtain ⟨e0, e1, e2⟩ := HE.out.1.cell
        go_wp2_with (at_builtin; refine wpList_appR rfl _ _ rfl w.heap.size k 1 1 _ ((rs.take k).map c300) [(kk, bs f2, bs t2)] _ rfl rfl H6.out.1 H6.out.2.1 (fun h => by cases h) HM.out H6.out.2.2.size ?_; intro ad' c'' w7 hc' hown hB7; have H7 : Hid (w7.ownsRow w.heap.size 31 3 (.slice ad' (k + 1) c'') (k + 1) (ruCells ((rs.take (k + 1)).map c300)) ∧ Below w.heap.size w w7) := ⟨by rw [HF.out]; exact hown, H6.out.2.2.trans hB7⟩; clear hown hB7 hc')
        go_roundw
        case rel => exact ⟨k + 1, c'', ad', by omega, by omega, by simp, rfl, H7.out⟩
        case measure => simp [intOf]; omega
    · obtain rfl : k = n := by omega
      have i5 : ¬ (k : Int) < (k : Int) := by omega
      have HE : Hid ((cutR rs).length = k ∧ wr.ownsRow w.heap.size 31 3 (.slice ad k c') k (ruCells (cutR rs)) ∧ Below w.heap.size w wr) := by
        have h := H.out
        have e : rs.take 66 = rs.take k := by rw [List.take_of_length_le (by rw [HL.out.1.1]; exact hk66), List.take_of_length_le (by rw [HL.out.1.1]; exact Nat.le_refl _)]
        have e2 : cutR rs = (rs.take k).map c300 := by unfold cutR; rw [e]
        refine ⟨?_, by rw [e2]; exact h.1, h.2⟩
        rw [e2, List.length_map, List.length_take, HL.out.1.1]
        omega
      clear H
      go_wp2
      go_ret
      refine ⟨ad, c', by rw [HE.out.1]; rfl, ?_⟩
      rw [HE.out.1]
      exact HE.out.2
end Go.Proofs.YtggnglgehobglaaGreatDoor
