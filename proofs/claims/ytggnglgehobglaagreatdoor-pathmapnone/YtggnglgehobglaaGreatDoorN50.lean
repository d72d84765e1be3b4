import Derived.Test.YtggnglgehobglaaGreatDoorN33
import Derived.Test.YtggnglgehobglaaGreatDoorN19
/- The walk of New. -/
namespace Go.Proofs.YtggnglgehobglaaGreatDoor
open Go.RowKit Go.Shelf Go.Maps

attribute [local go_sem] Oper.semAt_some

set_option maxRecDepth 20000 in
theorem step_beside (w : World) {ops : Array Oper} {o : Oper} {a : Act} {K : Act → World → Prop} {Q : Exit → Act → World → Prop} {E : Prop} (hgd : o.guard = none) (x y : Nat) (t1 t2 : TypeId)
    (ho : o.op = .call { callee := .value (.func 46), args := #[.tmp x, .tmp y], argTypes := #[t1, t2] }) (vx vy : Value) (hx : a.tmps[x]?.getD undef = vx) (hy : a.tmps[y]?.getD undef = vy) (R : Value → World → Prop)
    (hc : Calls Tryz.prog 46 #[vx, vy] w fun e w' => ∃ v, e = .returned v ∧ R v w') (hK : ∀ v w', R v w' → K (a.put o.dst v) w') :
    if Region.wanted o (yielded ops a.tmps) = true then Oper.wp Tryz.prog o a w K Q else E := by
  have hw : Region.wanted o (yielded ops a.tmps) = true := by simp [Region.wanted, hgd]
  rw [if_pos hw]
  unfold Oper.wp execOp
  simp [ho, resolve, invoke, go_sem, hx, hy]
  refine hc.mono ?_
  rintro e w' ⟨v, rfl, hR⟩
  have := hK v w' hR
  simpa [go_sem] using this
set_option maxRecDepth 100000 in
set_option maxHeartbeats 4000000 in
theorem new_any (w : World) (a : Option Addr) (n c : Nat) (rs : List Ru) (hl : Rus w a n rs) (hnc : n ≤ c) (hnb : n ≤ 100000000000000000) (hz : ∀ r ∈ rs, r.2.1.length ≤ 100000 ∧ r.2.2.length ≤ 100000) :
    Calls Tryz.prog 20 #[.slice a n c] w fun e w' => NewR rs n e w' ∧ Below w.heap.size w w' := by
  have HL : Hid (Rus w a n rs ∧ ∀ r ∈ rs, r.2.1.length ≤ 100000 ∧ r.2.2.length ≤ 100000) := ⟨hl, hz⟩
  have hmx : Tryz.prog.follows .mixedOrders = true := by kernel_rfl
  have hb0 := BoxF.new w 0 0
  by_cases hn : 64 < n
  · have i1 : (64 : Int) < (n : Int) := by omega
    have HE : Hid (BoxF (((w.alloc (.cells #[.int .i64 0, .int .i64 0] 45)).setCell ⟨w.heap.size, 0, none⟩ (.int .i64 3)).setCell ⟨w.heap.size, 1, none⟩ (.int .i64 (-1))) w.heap.size 3 (-1) ∧ Below w.heap.size w (((w.alloc (.cells #[.int .i64 0, .int .i64 0] 45)).setCell ⟨w.heap.size, 0, none⟩ (.int .i64 3)).setCell ⟨w.heap.size, 1, none⟩ (.int .i64 (-1)))) := ⟨hb0.set 3 (-1), ((Below.refl _ w).alloc (Nat.le_refl _) _).trans (boxF_below _ 3 (-1) (Nat.le_refl _))⟩
    have HE2 : Hid (BoxF (w.alloc (.cells #[.int .i64 3, .int .i64 (-1)] 45)) w.heap.size 3 (-1) ∧ Below w.heap.size w (w.alloc (.cells #[.int .i64 3, .int .i64 (-1)] 45))) := ⟨BoxF.new w 3 (-1), (Below.refl _ w).alloc (Nat.le_refl _) _⟩
    have HX : Hid (64 < n) := hn
    clear hl hz hb0
    go_enter Tryz.func20, Tryz.ntmps20
    go_wp2
    first
    | exact fault_ret HE.out.1 rfl rfl rfl ⟨.inl ⟨HX.out, rfl⟩, HE.out.2⟩
    | exact fault_ret HE2.out.1 rfl rfl rfl ⟨.inl ⟨HX.out, rfl⟩, HE2.out.2⟩
  have i1 : ¬ (64 : Int) < (n : Int) := by omega
  have H0 : Hid (BoxF (w.alloc (.cells #[.int .i64 0, .int .i64 0] 45)) w.heap.size 0 0 ∧ Below w.heap.size w (w.alloc (.cells #[.int .i64 0, .int .i64 0] 45)) ∧ Rus (w.alloc (.cells #[.int .i64 0, .int .i64 0] 45)) a n rs) := ⟨hb0, (Below.refl _ w).alloc (Nat.le_refl _) _, hl.kept ((Below.refl _ w).alloc (Nat.le_refl _) _)⟩
  have hn64 : n ≤ 64 := by omega
  clear hl hz hb0 hn
  go_enter Tryz.func20, Tryz.ntmps20
  go_wp2_with fail
  generalize w.alloc (.cells #[.int .i64 0, .int .i64 0] 45) = w1 at *
  generalize hbp : w.heap.size = bp at *
  have HBP : Hid (w.heap.size = bp) := hbp
  clear hbp
  go_loopw [13] (fun i wr => ∃ k : Nat, k ≤ n ∧ i = .int .i64 (k : Int) ∧ Hid (GoodU rs k ∧ Below w1.heap.size w1 wr)) (fun i _ => n - (intOf i).toNat)
  case atStart => exact ⟨0, Nat.zero_le _, rfl, fun j r hj _ => absurd hj (Nat.not_lt_zero _), Below.refl _ _⟩
  case round =>
    obtain ⟨k, hk, rfl, H⟩ := hrel
    by_cases hlt : k < n
    · obtain ⟨r, hr⟩ : ∃ r, rs[k]? = some r := ⟨_, List.getElem?_eq_getElem (by rw [HL.out.1.1]; exact hlt)⟩
      have hRr := H0.out.2.2.kept H.out.2
      obtain ⟨b1, o1, hae, hc1⟩ := hRr.2 (by omega)
      subst hae
      obtain ⟨q0, q1, q2⟩ := hc1 k r hr
      have hsz := HL.out.2 r (List.mem_of_getElem? hr)
      have hRt := rus_take hRr (Nat.le_of_lt hlt)
      have hPt := H.out.1.pth (by rw [HL.out.1.1]; exact Nat.le_of_lt hlt)
      obtain ⟨f, hf⟩ : ∃ f, f = mk r.2.1 := ⟨_, rfl⟩
      obtain ⟨t, ht⟩ : ∃ t, t = mk r.2.2 := ⟨_, rfl⟩
      have hruv : ruV r = rv r.1 f t := by rw [hf, ht]
      have hbx : BoxR (wr.alloc (.cells #[.int .i64 r.1, .string f, .string t] 31)) wr.heap.size r.1 f t := BoxR.new wr r.1 f t
      have hW3 : Below wr.heap.size wr (wr.alloc (.cells #[.int .i64 r.1, .string f, .string t] 31)) := (Below.refl _ wr).alloc (Nat.le_refl _) _
      have hbe : ∀ W, Below (wr.alloc (.cells #[.int .i64 r.1, .string f, .string t] 31)).heap.size (wr.alloc (.cells #[.int .i64 r.1, .string f, .string t] 31)) W → Calls Tryz.prog 46 #[rv r.1 f t, .slice (some ⟨b1, o1, none⟩) k c] W fun e w' => e = .returned (.int .i64 (besE r (rs.take k))) ∧ Below W.heap.size W w' := fun W hW => by
        have := beside_any r W hsz (some ⟨b1, o1, none⟩) k c (rs.take k) (hRt.kept (hW3.trans (hW.mono hW3.size))) (by omega) hPt
        rw [hruv] at this
        exact this
      have HC : Hid (∀ W, Below (wr.alloc (.cells #[.int .i64 r.1, .string f, .string t] 31)).heap.size (wr.alloc (.cells #[.int .i64 r.1, .string f, .string t] 31)) W → W.cell? ⟨wr.heap.size, 0, none⟩ = some (.int .i64 r.1) ∧ W.cell? ⟨wr.heap.size, 1, none⟩ = some (.string f) ∧ W.cell? ⟨wr.heap.size, 2, none⟩ = some (.string t)) := fun W hW => (hbx.below hW hbx.lt).cell
      have HB3 : Hid (Below wr.heap.size wr (wr.alloc (.cells #[.int .i64 r.1, .string f, .string t] 31))) := hW3
      have HR : Hid (rs[k]? = some r) := hr
      have HBE : Hid (∃ x, x = besE r (rs.take k)) := ⟨_, rfl⟩
      have i5 : (k : Int) < (n : Int) := by omega
      have i6 : ¬ n ≤ k := by omega
      have i7 : (k : Int) ≤ (c : Int) := by omega
      rw [← hf] at q1
      rw [← ht] at q2
      generalize hBE : besE r (rs.take k) = BE at *
      have HBE : Hid (besE r (rs.take k) = BE) := hBE
      generalize r.1 = kk at *
      clear hc1 hr hsz hf ht hruv hbx hW3 hRr hRt hPt hBE
      go_upto_region 6 with fail
      generalize wr.alloc (.cells #[.int .i64 kk, .string f, .string t] 31) = w3 at *
      generalize hbx : wr.heap.size = bx at *
      have HBX : Hid (wr.heap.size = bx) := hbx
      clear hbx
      have H3d : Hid (Below w3.heap.size w3 w3.drew) := ⟨rfl, rfl, rfl, Nat.le_refl _, fun _ _ => rfl⟩
      refine wp_region_G (S := SB 1000 (fun _ => True) (fun W => W.cell? ⟨bx, 0, none⟩ = some (.int .i64 kk) ∧ W.cell? ⟨bx, 1, none⟩ = some (.string f) ∧ W.cell? ⟨bx, 2, none⟩ = some (.string t))) hmx ?_
      have hSB : SB 1000 (fun _ => True) (fun W => W.cell? ⟨bx, 0, none⟩ = some (.int .i64 kk) ∧ W.cell? ⟨bx, 1, none⟩ = some (.string f) ∧ W.cell? ⟨bx, 2, none⟩ = some (.string t)) (Array.replicate 6 false) w3.drew := SB.off (by kernel_rfl) (HC.out _ H3d.out)
      refine wpAnyG_takeP (i := 0) (v := ?_) rfl (by kernel_rfl) (by kernel_rfl) (by kernel_rfl) (fun _ _ _ h => h) rfl (Or.inl ⟨by rfl, ?_⟩) (by assumption) ?_
      rotate_left
      · intro Y hY; obtain ⟨a0, a1, a2⟩ := hY; go_simp; try with_reducible rfl
      intro hSB0
      try simp only [Act.put, List.getElem_toArray, List.getElem_cons_zero, List.setIfInBounds_toArray, List.set_cons_zero, List.set_cons_succ]
      refine wpAnyG_takeP (i := 1) (v := ?_) rfl (by kernel_rfl) (by kernel_rfl) (by kernel_rfl) (fun _ _ _ h => h) rfl (Or.inl ⟨by rfl, ?_⟩) (by assumption) ?_
      rotate_left
      · intro Y hY; obtain ⟨a0, a1, a2⟩ := hY; go_simp; try with_reducible rfl
      intro hSB1
      try simp only [Act.put, List.getElem_toArray, List.getElem_cons_zero, List.getElem_cons_succ, List.setIfInBounds_toArray, List.set_cons_zero, List.set_cons_succ]
      refine wpAnyG_takeP (i := 2) (v := ?_) rfl (by kernel_rfl) (by kernel_rfl) (by kernel_rfl) (fun _ _ _ h => h) rfl (Or.inl ⟨by rfl, ?_⟩) (by assumption) ?_
      rotate_left
      · intro Y hY; obtain ⟨a0, a1, a2⟩ := hY; go_simp; try with_reducible rfl
      intro hSB2
      try simp only [Act.put, List.getElem_toArray, List.getElem_cons_zero, List.getElem_cons_succ, List.setIfInBounds_toArray, List.set_cons_zero, List.set_cons_succ]
      refine wpAnyG_takeP (i := 3) (v := ?_) rfl (by kernel_rfl) (by kernel_rfl) (by kernel_rfl) (fun _ _ _ h => h) rfl (Or.inl ⟨by rfl, ?_⟩) (by assumption) ?_
      rotate_left
      · intro Y hY; obtain ⟨a0, a1, a2⟩ := hY; go_simp; try with_reducible rfl
      intro hSB3
      try simp only [Act.put, List.getElem_toArray, List.getElem_cons_zero, List.getElem_cons_succ, List.setIfInBounds_toArray, List.set_cons_zero, List.set_cons_succ]
      refine wpAnyG_one (i := 4) (by kernel_rfl) rfl (fun K hK => ?_)
      refine step_beside _ (by rfl) _ _ _ _ (by rfl) _ _ (by rfl) (by rfl) _ (ret_calls (hbe _ H3d.out)) ?_
      rintro v u4 ⟨rfl, hBu4⟩
      have Hu4 : Hid (Below w3.heap.size w3 u4) := H3d.out.trans (hBu4.mono H3d.out.size)
      refine hK.out _ _ (SB.off (by kernel_rfl) (HC.out _ Hu4.out)) (fun hSB4 => ?_)
      clear hK K hBu4
      try simp only [Act.put, List.getElem_toArray, List.getElem_cons_zero, List.getElem_cons_succ, List.setIfInBounds_toArray, List.set_cons_zero, List.set_cons_succ]
      refine wpAnyG_takeP (i := 5) (v := ?_) rfl (by kernel_rfl) (by kernel_rfl) (by kernel_rfl) (fun _ _ _ h => h) rfl (Or.inl ⟨by rfl, ?_⟩) (by assumption) ?_
      rotate_left
      · intro Y hY; obtain ⟨a0, a1, a2⟩ := hY; go_simp; try with_reducible rfl
      intro hSB5
      try simp only [Act.put, List.getElem_toArray, List.getElem_cons_zero, List.getElem_cons_succ, List.setIfInBounds_toArray, List.set_cons_zero, List.set_cons_succ]
      refine wpAnyG_done (by kernel_rfl) ?_ _
      clear hSB hSB0 hSB1 hSB2 hSB3 hSB4 hSB5 hbe
      have H4 : Hid (Below w1.heap.size w1 u4) := by
        show Below _ _ _
        have h1 := HB3.out
        rw [← HBX.out] at h1
        have h2 := h1.trans (Hu4.out.mono h1.size)
        exact H.out.2.trans (h2.mono H.out.2.size)
      by_cases hB0 : BE = 0
      · subst hB0
        have HG : Hid (GoodU rs (k + 1)) := H.out.1.step HR.out HBE.out
        go_wp2
        go_roundw
        case rel => exact ⟨k + 1, by omega, by simp, HG.out, H4.out⟩
        case measure => simp [intOf]; omega
      · have HF4 : Hid (BoxF ((u4.setCell ⟨bp, 0, none⟩ (.int .i64 BE)).setCell ⟨bp, 1, none⟩ (.int .i64 (k : Int))) bp BE k ∧ Below bp w ((u4.setCell ⟨bp, 0, none⟩ (.int .i64 BE)).setCell ⟨bp, 1, none⟩ (.int .i64 (k : Int)))) := ⟨(H0.out.1.below H4.out H0.out.1.lt).set BE k, (H0.out.2.1.trans (H4.out.mono (Nat.le_of_lt H0.out.1.lt))).trans (boxF_below _ _ _ (Nat.le_refl _))⟩
        obtain ⟨e0, e1⟩ := (H0.out.1.below H4.out H0.out.1.lt).cell
        obtain ⟨z0, z1⟩ := (H0.out.1.below H4.out H0.out.1.lt).frozen
        go_wp2_with fail
        exact fault_ret HF4.out.1 rfl rfl rfl ⟨.inr (.inl ⟨hn64, k, r, HR.out, by rw [HBE.out]; exact hB0, H.out.1, by rw [HBE.out]; rfl⟩), by rw [HBP.out]; exact HF4.out.2⟩
    · obtain rfl : k = n := by omega
      have i5 : ¬ (k : Int) < (k : Int) := by omega
      have htb := tableOf_any wr a k c rs (H0.out.2.2.kept H.out.2) (by omega) (fun r hr => by have := (HL.out.2 r hr).1; omega)
      go_wp2_with fail
      refine htb.mono ?_
      clear htb
      rintro e w5 ⟨b, rfl, hT5, _, hB5⟩
      have hof := oneForm_any w5 b k (tabL rs) hT5 (by omega) (fun x r hr => by
        obtain ⟨h1, h2⟩ := tabL_mem rs x r hr
        exact ⟨h2, by rw [← h2]; have := (HL.out.2 r h1).1; omega⟩)
      have H5 : Hid (Below w1.heap.size w1 w5) := H.out.2.trans (hB5.mono H.out.2.size)
      clear hT5 hB5
      go_wp2_with fail
      refine hof.mono ?_
      clear hof
      rintro e w6 ⟨ks, ad, c6, rfl, hKL, hkn, hrow, hB6⟩
      have H6 : Hid (Below w1.heap.size w1 w6) := H5.out.trans (hB6.mono H5.out.size)
      have hfo := formT_ok (tabL_pth HL.out.1.1 H.out.1) ks hKL
      obtain ⟨ad', c', e', hnc', hnil'⟩ := row_shapeR hrow
      cases e'
      have hfl := formT_len (tabL rs) ks
      have hmo := mapOf_any w6 ad (formT (tabL rs) ks).length c6 (formT (tabL rs) ks) (own_rus hrow rfl) hnc' (by omega) hnil' hfo
      have HKL : Hid (KeyL (tabL rs) ks) := hKL
      clear hKL hkn hrow hB6 hfo hnc' hnil' hfl
      go_wp2_with fail
      refine hmo.mono ?_
      clear hmo
      rintro e w7 ⟨⟨m, rfl, hM, _⟩, hB7⟩
      have H7 : Hid (BoxF w7 bp 0 0 ∧ Below bp w w7 ∧ MpAt w7 m (formT (tabL rs) ks)) := by
        have h1 := H6.out.trans (hB7.mono H6.out.size)
        exact ⟨H0.out.1.below h1 H0.out.1.lt, H0.out.2.1.trans (h1.mono (Nat.le_of_lt H0.out.1.lt)), hM⟩
      clear hM hB7
      obtain ⟨e0, e1⟩ := H7.out.1.cell
      obtain ⟨z0, z1⟩ := H7.out.1.frozen
      go_wp2_with fail
      rw [H7.out.1.id]
      exact fault_ret H7.out.1 rfl rfl rfl ⟨.inr (.inr ⟨hn64, H.out.1, m, ks, rfl, H7.out.2.2, HKL.out⟩), by rw [HBP.out]; exact H7.out.2.1⟩
end Go.Proofs.YtggnglgehobglaaGreatDoor

/- The walk of the law's wakes. -/
namespace Go.Proofs.YtggnglgehobglaaGreatDoor
open Go.RowKit Go.Shelf Go.Maps

attribute [local go_sem] Oper.semAt_some

def rsW : List Ru := [(3, [97], [98, 47, 99]), (2, [97, 47, 120], [])]
theorem wake_good : GoodU rsW 2 := fun j r hj hr => by
  match j, hr with
  | 0, hr => cases hr; decide +kernel
  | 1, hr => cases hr; decide +kernel
  | j + 2, _ => omega
theorem wake_keys {ks : List (List UInt8)} (h : KeyL (tabL rsW) ks) : ks = [[97], [97, 47, 120]] ∨ ks = [[97, 47, 120], [97]] := by
  have hm : ∀ x, x ∈ ks ↔ x ∈ [[97], [97, 47, 120]] := fun x => by
    rw [h.mem]
    show (setT (setT (fun _ => none) [97] (3, [97], [98, 47, 99])) [97, 47, 120] (2, [97, 47, 120], []) x).isSome = true ↔ _
    unfold setT
    by_cases h1 : x = [97, 47, 120]
    · simp [h1]
    · by_cases h2 : x = [97]
      · simp [h2]
      · simp [h1, h2]
  have hp : ks.Perm [[97], [97, 47, 120]] := (List.perm_ext_iff_of_nodup h.nd (by decide)).2 hm
  have hl := hp.length_eq
  match ks, hl, h.nd, hm with
  | [x, y], _, hn, hm =>
    have h1 := (hm x).1 (by simp)
    have h2 := (hm y).1 (by simp)
    have h3 : x ≠ y := by simpa using hn
    simp only [List.mem_cons, List.not_mem_nil, or_false] at h1 h2
    rcases h1 with rfl | rfl <;> rcases h2 with rfl | rfl
    · exact absurd rfl h3
    · exact .inl rfl
    · exact .inr rfl
    · exact absurd rfl h3
theorem wake_img {ks : List (List UInt8)} (h : KeyL (tabL rsW) ks) : thr [97, 47, 121] (imgL (formT (tabL rsW) ks) [97, 47, 121]) = ([98, 47, 99, 47, 121], 0) ∧ thr [97, 47, 120, 47, 122] (imgL (formT (tabL rsW) ks) [97, 47, 120, 47, 122]) = ([], 4) := by
  rcases wake_keys h with rfl | rfl
  · exact ⟨by decide +kernel, by decide +kernel⟩
  · exact ⟨by decide +kernel, by decide +kernel⟩
theorem wake_new {w : World} {e : Ending} (h : NewR rsW 2 e w) : ∃ m ks, e = .returned (.tuple #[.pointer (some ⟨m, 0, none⟩), .agg #[.int .i64 0, .int .i64 0]]) ∧ MpAt w m (formT (tabL rsW) ks) ∧ KeyL (tabL rsW) ks := by
  rcases h with ⟨h, _⟩ | ⟨_, k, r, hr, hb, _⟩ | ⟨_, _, h⟩
  · omega
  · exfalso
    have hk : k < 2 := (List.getElem?_eq_some_iff.1 hr).1
    exact hb (wake_good k r hk hr)
  · exact h
theorem eqF (w : World) (a b c d : Int) : (binOp .eql 45 (.agg #[.int .i64 a, .int .i64 b]) (.agg #[.int .i64 c, .int .i64 d])).run Tryz.prog w = .ok (.bool (a == c && b == d)) w := by
  have u3 := Tryz.underlying3
  have u4 := Tryz.underlying25
  have hS : Tryz.prog.underlying 45 = some (.struct (Tryz.prog.fieldsOf 45)) := by kernel_rfl
  have hp : Tryz.prog.stoodInHeld 45 = false := by kernel_rfl
  rw [run_eql_struct, show (10000 : Nat) = 9999 + 1 from rfl, run_equalIn_agg w 9999 45 _ _ hS hp]
  simp only [Program.fieldsOf, Tryz.underlying45]
  go_simp
  cases h1 : (a == c) <;> cases h2 : (b == d) <;> simp_all
theorem wake_rus (w : World) : Rus (w.alloc (.cells #[.int .i64 3, .string ⟨#[97]⟩, .string ⟨#[98, 47, 99]⟩, .int .i64 2, .string ⟨#[97, 47, 120]⟩, .string ⟨#[]⟩] 31)) (some ⟨w.heap.size, 0, none⟩) 2 rsW := by
  refine ⟨rfl, fun _ => ⟨_, 0, rfl, fun j x hx => ?_⟩⟩
  have h : (w.alloc (.cells #[.int .i64 3, .string ⟨#[97]⟩, .string ⟨#[98, 47, 99]⟩, .int .i64 2, .string ⟨#[97, 47, 120]⟩, .string ⟨#[]⟩] 31)).heap[w.heap.size]? = some (.cells #[.int .i64 3, .string ⟨#[97]⟩, .string ⟨#[98, 47, 99]⟩, .int .i64 2, .string ⟨#[97, 47, 120]⟩, .string ⟨#[]⟩] 31 (0, 0)) := World.alloc_heap_new w _
  match j, hx with
  | 0, hx => cases hx; refine ⟨?_, ?_, ?_⟩ <;> (simp only [World.cell?, h]; rfl)
  | 1, hx => cases hx; refine ⟨?_, ?_, ?_⟩ <;> (simp only [World.cell?, h]; rfl)
  | j + 2, hx => simp [rsW] at hx
set_option maxRecDepth 100000 in
set_option maxHeartbeats 4000000 in
theorem wakes14_any (w : World) : Calls Tryz.prog 6 #[] w fun e w' => e = .returned (.bool true) ∧ Below w.heap.size w w' := by
  have hnw := new_any (w.alloc (.cells #[.int .i64 3, .string ⟨#[97]⟩, .string ⟨#[98, 47, 99]⟩, .int .i64 2, .string ⟨#[97, 47, 120]⟩, .string ⟨#[]⟩] 31)) (some ⟨w.heap.size, 0, none⟩) 2 2 rsW (wake_rus w) (Nat.le_refl _) (by omega) (fun r hr => by
    simp only [rsW, List.mem_cons, List.not_mem_nil, or_false] at hr
    rcases hr with rfl | rfl <;> simp)
  have hef := fun W => eqF W 0 0 0 0
  have H0 : Hid (Below w.heap.size w (w.alloc (.cells #[.int .i64 3, .string ⟨#[97]⟩, .string ⟨#[98, 47, 99]⟩, .int .i64 2, .string ⟨#[97, 47, 120]⟩, .string ⟨#[]⟩] 31))) := (Below.refl _ w).alloc (Nat.le_refl _) _
  go_enter Tryz.func6, Tryz.ntmps6
  go_wp2_with fail
  refine hnw.mono ?_
  clear hnw
  rintro e w1 ⟨hN, hB1⟩
  obtain ⟨m, ks, rfl, hM, hK⟩ := wake_new hN
  clear hN
  obtain ⟨j1, j2⟩ := wake_img hK
  have H1 : Hid (Below w.heap.size w w1) := H0.out.trans (hB1.mono H0.out.size)
  have H2 : Hid (Below w.heap.size w (w1.alloc (.cells #[.int .i64 0, .int .i64 0] 45)) ∧ BoxF (w1.alloc (.cells #[.int .i64 0, .int .i64 0] 45)) w1.heap.size 0 0) := ⟨H1.out.alloc H1.out.size _, BoxF.new w1 0 0⟩
  have hM2 := hM.below ((Below.refl _ w1).alloc (Nat.le_refl _) (.cells #[.int .i64 0, .int .i64 0] 45))
  have hi1 := Iimage_any _ m _ ⟨#[97, 47, 121]⟩ hM2 (by decide)
  have hi2 := fun W hW => Iimage_any W m _ ⟨#[97, 47, 120, 47, 122]⟩ (hM2.below hW) (by decide)
  rw [show bs ⟨#[97, 47, 121]⟩ = [97, 47, 121] from rfl, j1] at hi1
  rw [show bs ⟨#[97, 47, 120, 47, 122]⟩ = [97, 47, 120, 47, 122] from rfl, j2] at hi2
  clear hM hM2 hK j1 j2 hB1 H0
  go_wp2_with fail
  refine hi1.mono ?_
  clear hi1
  generalize w1.alloc (.cells #[.int .i64 0, .int .i64 0] 45) = w2 at *
  rintro e w3 ⟨rfl, hB3⟩
  have hi3 := hi2 w3 hB3
  clear hi2
  have H3 : Hid (Below w.heap.size w w3 ∧ BoxF w3 w1.heap.size 0 0) := ⟨H2.out.1.trans (hB3.mono H2.out.1.size), H2.out.2.below hB3 H2.out.2.lt⟩
  clear hB3 H2
  generalize w1.heap.size = bf at *
  go_wp2_with fail
  refine hi3.mono ?_
  clear hi3
  rintro e w4 ⟨rfl, hB4⟩
  have H4 : Hid (Below w.heap.size w w4 ∧ BoxF w4 bf 0 0) := ⟨H3.out.1.trans (hB4.mono H3.out.1.size), H3.out.2.below hB4 H3.out.2.lt⟩
  clear hB4 H3
  obtain ⟨c0, c1⟩ := H4.out.2.cell
  have hbq : ((mk [98, 47, 99, 47, 121]).toList == [98, 47, 99, 47, 121]) = true := by
    rw [toList_bs, bs_mk]
    rfl
  go_wp2
  go_ret
  exact ⟨by rw [← hbq]; rfl, H4.out.1⟩
end Go.Proofs.YtggnglgehobglaaGreatDoor
