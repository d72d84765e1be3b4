import Derived.Test.YtgcbbnmjomhngaaK35
import Derived.Test.YtgcbbnmjomhngaaK26
import Derived.Test.YtgcbbnmjomhngaaK21
import Derived.Test.YtgcbbnmjomhngaaK33
import Derived.Test.YtgcbbnmjomhngaaK06
/- The walk of RunMakes. -/
namespace Go.Proofs.Ytgcbbnmjomhngaa
open Go.RowKit Go.Shelf Go.Maps Go.Lib

attribute [local go_sem] Oper.semAt_some

set_option maxRecDepth 20000 in
theorem vstep_bytesG (w : World) {ops : Array Oper} {o : Oper} {a : Act} {K : Act → World → Prop} {Q : Exit → Act → World → Prop} {E : Prop} (hw : Region.wanted o (yielded ops a.tmps) = true) (x : Nat) (t1 : TypeId)
    (ho : o.op = .call { callee := .value (.func 13), args := #[.tmp x], argTypes := #[t1] }) (vx : Value) (hx : a.tmps[x]?.getD undef = vx) (R : Value → World → Prop)
    (hc : Calls Try.prog 13 #[vx] w fun e w' => ∃ v, e = .returned v ∧ R v w') (hK : ∀ v w', R v w' → K (a.put o.dst v) w') :
    if Region.wanted o (yielded ops a.tmps) = true then Oper.wp Try.prog o a w K Q else E := by
  rw [if_pos hw]
  unfold Oper.wp execOp
  simp [ho, resolve, invoke, go_sem, hx]
  refine hc.mono ?_
  rintro e w' ⟨v, rfl, hR⟩
  have := hK v w' hR
  simpa [go_sem] using this
set_option maxRecDepth 20000 in
theorem vstep_toldG (w : World) {ops : Array Oper} {o : Oper} {a : Act} {K : Act → World → Prop} {Q : Exit → Act → World → Prop} {E : Prop} (hw : Region.wanted o (yielded ops a.tmps) = true) (x y : Nat) (t1 t2 : TypeId)
    (ho : o.op = .call { callee := .value (.func 14), args := #[.tmp x, .tmp y], argTypes := #[t1, t2] }) (vx vy : Value) (hx : a.tmps[x]?.getD undef = vx) (hy : a.tmps[y]?.getD undef = vy) (R : Value → World → Prop)
    (hc : Calls Try.prog 14 #[vx, vy] w fun e w' => ∃ v, e = .returned v ∧ R v w') (hK : ∀ v w', R v w' → K (a.put o.dst v) w') :
    if Region.wanted o (yielded ops a.tmps) = true then Oper.wp Try.prog o a w K Q else E := by
  rw [if_pos hw]
  unfold Oper.wp execOp
  simp [ho, resolve, invoke, go_sem, hx, hy]
  refine hc.mono ?_
  rintro e w' ⟨v, rfl, hR⟩
  have := hK v w' hR
  simpa [go_sem] using this
theorem vstep_strG (w : World) {ops : Array Oper} {o : Oper} {a : Act} {K : Act → World → Prop} {Q : Exit → Act → World → Prop} {E : Prop} (hw : Region.wanted o (yielded ops a.tmps) = true) (x : Nat)
    (ho : o.op = .convert 25 9 (.tmp x)) (vx : Value) (hx : a.tmps[x]?.getD undef = vx) (v : Value) (hr : (convert 25 9 vx).run Try.prog w = .ok v w) (hK : K (a.put o.dst v) w) :
    if Region.wanted o (yielded ops a.tmps) = true then Oper.wp Try.prog o a w K Q else E := by
  rw [if_pos hw]
  unfold Oper.wp execOp
  simp [ho, go_sem, hx, hr]
  simpa [go_sem] using hK
theorem mk_zero {l : List Pr} (h : ∃ p ∈ l, p.1 = 0) : ∃ j : Nat, idxF l 0 0 = (j : Int) := by
  cases hl : lookP l 0 with
  | none =>
    obtain ⟨p, hp, e⟩ := h
    exact absurd e ((look_none l 0).1 hl p hp)
  | some y =>
    obtain ⟨j, hj, _⟩ := idxF_some l 0 0 y hl
    exact ⟨0 + j, hj⟩
theorem mk_none {l : List Pr} (h : ∀ p ∈ l, p.1 ≠ 0) : idxF l 0 0 = -1 := idxF_none l 0 0 ((look_none l 0).2 h)

set_option maxRecDepth 100000 in
set_option maxHeartbeats 4000000 in
theorem runMakes_walk (w : World) (a : Option Addr) (n c : Nat) (l : List Pr) (h : Prs w a n l) (hok : PrOk l) (hnil : a = none → n = 0 ∧ c = 0) (hcap : n ≤ c) :
    Calls Try.prog 3 #[.slice a n c] w fun e w' => e = .returned (.bool true) ∧ Below w.heap.size w w' := by
  have hmx : Try.prog.follows .mixedOrders = true := by kernel_rfl
  have hsm := fun W => some_any W a n c 200 hcap
  obtain ⟨k, hk⟩ : ∃ k, k = min n 200 := ⟨_, rfl⟩
  rw [← hk] at hsm
  have hk200 : k ≤ 200 := by omega
  have hkn : k ≤ n := by omega
  have HA : Hid (Prs w a k (l.take k) ∧ PrOk (l.take k) ∧ (a = none → k = 0)) := ⟨prs_take h k hkn, hok.take k, fun e => by have := (hnil e).1; omega⟩
  have HNl : Hid (a = none → k = 0 ∧ c = 0) := fun e => ⟨by have := (hnil e).1; omega, (hnil e).2⟩
  have HW : Hid (∀ W, Calls Try.prog 8 #[] W fun e w' => e = .returned (.bool true) ∧ Below W.heap.size W w') := vwakes_any
  have HSm : Hid (∀ W, Calls Try.prog 9 #[.slice a n c, .int .i64 200] W fun e w' => e = .returned (.slice a k c) ∧ w' = W) := hsm
  clear hk hsm h hok hnil hcap
  generalize l.take k = L at *
  go_enter Try.func3, Try.ntmps3
  go_upto_region 6 with first
    | (go_at_call 8; refine (HW.out _).mono ?_; rintro e w1 ⟨rfl, hB1⟩; have H1 : Hid (Below w.heap.size w w1) := hB1; clear hB1)
    | (go_at_call 9; refine (HSm.out _).mono ?_; clear HSm; rintro e w2 ⟨rfl, hw2⟩; subst hw2; have HP : Hid (Prs (w2.alloc (.cells #[] 47)) a k L ∧ Below w.heap.size w (w2.alloc (.cells #[] 47))) := ⟨HA.out.1.kept (H1.out.alloc H1.out.size _), H1.out.alloc H1.out.size _⟩; have hr0 : (w2.alloc (.cells #[] 47)).ownsRow w.heap.size 47 2 (.slice (some ⟨w2.heap.size, 0, none⟩) 0 0) 0 (prCells []) := row_emptyV w2 w.heap.size H1.out.size)
    | (at_builtin; refine wpList_appV rfl _ _ rfl w.heap.size 0 k c (.slice (some ⟨w2.heap.size, 0, none⟩) 0 0) [] L a rfl rfl hr0 HP.out.1 HNl.out (by omega) HP.out.2.size ?_; intro a' c' w3 hnc hown hB3; simp only [Nat.zero_add, List.nil_append] at hnc hown; have H3 : Hid (w3.ownsRow w.heap.size 47 2 (.slice a' k c') k (prCells L) ∧ Below w.heap.size w w3) := ⟨hown, HP.out.2.trans hB3⟩; clear hown hB3 hr0 HP H1)
    | (go_at_call 10; refine (make_any w3 a' k c' L (own_prs H3.out.1 HA.out.1.1) HA.out.2.1 (fun e => (by obtain ⟨ad, c0, e0, _, e2⟩ := row_shapeV H3.out.1; cases e0; exact e2 e)) (by omega)).mono ?_; rintro e w4 ⟨v, er, rfl, hE, hB4⟩; have H4 : Hid (MakeE L w3 v er w4 ∧ Below w.heap.size w w4) := ⟨hE, H3.out.2.trans (hB4.mono H3.out.2.size)⟩; clear hE hB4)
    | (go_at_call 11; refine (rsorted_any w4 a k c L (HA.out.1.kept H4.out.2) (by omega)).mono ?_; rintro e w5 ⟨sa, sm, sc, rfl, hS⟩; obtain ⟨l', hPV, hSR, hB5⟩ := hS; have H5 : Hid (PrV w5 sa sm sc l' ∧ SortR L l' ∧ Below w4.heap.size w4 w5 ∧ Below w.heap.size w w5) := ⟨hPV, hSR, hB5, H4.out.2.trans (hB5.mono H4.out.2.size)⟩; clear hPV hSR hB5)
  have hLk : L.length = k := HA.out.1.1
  have hSl : l'.length = sm := H5.out.1.prs.1
  have hfd : ∀ W, Below w.heap.size w W → Calls Try.prog 12 #[.slice a k c, .int .u64 0] W fun e w' => e = .returned (.int .i64 (idxF L 0 0)) ∧ w' = W := fun W hB => rfind_any W a k c 0 L (HA.out.1.kept hB) (by omega)
  rcases H4.out.1 with ⟨hz, rfl, rfl⟩ | ⟨hnz, hno, rfl, rfl⟩ | ⟨d, ad, cp, hg, hp, hnz, hon, rfl, rfl, hown⟩
  · obtain ⟨j, hj⟩ := mk_zero hz
    rw [hj] at hfd
    have i1 : (0 : Int) ≤ (j : Int) := by omega
    have HF : Hid (∀ W, Below w.heap.size w W → Calls Try.prog 12 #[.slice a k c, .int .u64 0] W fun e w' => e = .returned (.int .i64 (j : Int)) ∧ w' = W) := hfd
    clear hfd hj hz hLk hSl
    go_wp2_with first
      | (go_at_call 8; refine (HW.out _).mono ?_; rintro e w6 ⟨rfl, hB6⟩; have H6 : Hid (Below w.heap.size w w6) := H5.out.2.2.2.trans (hB6.mono H5.out.2.2.2.size); clear hB6)
      | (go_at_call 12; refine (HF.out _ H6.out).mono ?_; rintro e w7 ⟨rfl, hw7⟩; subst hw7)
    go_ret
    exact ⟨rfl, H6.out⟩
  · rw [mk_none hnz] at hfd
    have HF : Hid (∀ W, Below w.heap.size w W → Calls Try.prog 12 #[.slice a k c, .int .u64 0] W fun e w' => e = .returned (.int .i64 (-1)) ∧ w' = W) := hfd
    have hne : ¬ sm = k := fun e => hno (H5.out.2.1.one.1 (by omega))
    have e1 : ((sm : Int) == (k : Int)) = false := by simp; omega
    have e2 : ((sm : Int) != (k : Int)) = true := by simp; omega
    clear hfd hnz hno hLk hSl hne
    go_wp2_with first
      | (go_at_call 8; refine (HW.out _).mono ?_; rintro e w6 ⟨rfl, hB6⟩; have H6 : Hid (Below w.heap.size w w6) := H5.out.2.2.2.trans (hB6.mono H5.out.2.2.2.size); clear hB6)
      | (go_at_call 12; refine (HF.out _ H6.out).mono ?_; rintro e w7 ⟨rfl, hw7⟩; subst hw7)
    go_ret
    exact ⟨rfl, H6.out⟩
  · rw [mk_none hnz] at hfd
    have HF : Hid (∀ W, Below w.heap.size w W → Calls Try.prog 12 #[.slice a k c, .int .u64 0] W fun e w' => e = .returned (.int .i64 (-1)) ∧ w' = W) := hfd
    obtain rfl : d = l' := H5.out.2.1.uniq ((risF_iff d 0).1 hg.ris).1 (fun x => look_perm (hon.perm hp.symm) hp x)
    have hsk : sm = k := by rw [← hSl, ← hLk]; exact hp.length_eq
    subst hsk
    obtain ⟨hby, hbn, hbc⟩ := own_slice hown
    have HG : Hid (Good d ∧ eachL (runB d) = d ∧ d.length = sm ∧ (runB d).length ≤ 100000) := ⟨hg, by unfold eachL; rw [pairs_runB hg]; rfl, hSl, by
      show _ ≤ _
      have h1 := short_len d.length
      have h2 : d.length ≤ 200 := by omega
      rw [runB_len]
      omega⟩
    have H8 : Hid (Bytes w5 ad (runB d).length (runB d) ∧ (ad = none → (runB d).length = 0) ∧ (runB d).length ≤ cp) := ⟨vbytes_below hby H5.out.2.2.1, fun e => (hbn e).1, hbc⟩
    clear hfd hnz hLk hSl hby hbn hbc hown hp hon hg H4
    obtain ⟨N, hN⟩ : ∃ N, N = (runB d).length := ⟨_, rfl⟩
    have HN : Hid (N = (runB d).length) := hN
    rw [← hN] at H8 ⊢
    clear hN
    go_upto_region 12 with first
      | (go_at_call 8; refine (HW.out _).mono ?_; rintro e w6 ⟨rfl, hB6⟩; have H6 : Hid (Below w.heap.size w w6 ∧ Bytes w6 ad N (runB d) ∧ Prs w6 sa sm d) := ⟨H5.out.2.2.2.trans (hB6.mono H5.out.2.2.2.size), vbytes_below H8.out.1 hB6, H5.out.1.prs.kept hB6⟩; clear hB6)
      | (go_at_call 12; refine (HF.out _ H6.out.1).mono ?_; rintro e w7 ⟨rfl, hw7⟩; subst hw7)
    have HC : Hid (∀ Y, Below w7.heap.size w7 Y → (convert 25 9 (.slice ad N cp)).run Try.prog Y = .ok (.string ⟨(runB d).toArray⟩) Y) := fun Y hY => run_string Y ad N cp (runB d) (vbytes_below H6.out.2.1 hY)
    have hbb := fun Y (hY : Below w7.heap.size w7 Y) => rbytes_any Y sa sm sc d (H6.out.2.2.kept hY) HG.out.1.ok (by omega)
    have HBb : Hid (∀ Y, Below w7.heap.size w7 Y → Calls Try.prog 13 #[.slice sa sm sc] Y fun e w' => ∃ ad cp, e = .returned (.slice ad N cp) ∧ w'.ownsRow Y.heap.size 5 1 (.slice ad N cp) N (cellsOf (runB d)) ∧ Below Y.heap.size Y w') := by
      rw [← HN.out] at hbb
      exact hbb
    clear hbb
    have HTd : Hid (∀ Y, Below w7.heap.size w7 Y → Calls Try.prog 14 #[.slice ad N cp, .slice sa sm sc] Y fun e w' => e = .returned (.bool true) ∧ Below Y.heap.size Y w') := fun Y hY => by
      have := told_any Y ad N cp (runB d) (vbytes_below H6.out.2.1 hY) H8.out.2.1 H8.out.2.2 (by have := HG.out.2.2.2; have := HN.out; omega) sa sm sc d (H6.out.2.2.kept hY) (by omega)
      rw [HG.out.2.1, decide_eq_true rfl] at this
      exact this
    have HB : Hid (Below w.heap.size w w7) := H6.out.1
    clear H6 H8 HG HN H5 HF H3 HA HNl
    obtain ⟨st, hst⟩ : ∃ st : ByteArray, ⟨(runB d).toArray⟩ = st := ⟨_, rfl⟩
    rw [hst] at HC
    refine wp_region_G (S := SB 1000 (fun _ => True) (fun Y => Below w7.heap.size w7 Y)) hmx ?_
    have hBd : Below w7.heap.size w7 w7.drew := ⟨rfl, rfl, rfl, Nat.le_refl _, fun _ _ => rfl⟩
    have hSB : SB 1000 (fun _ => True) (fun Y => Below w7.heap.size w7 Y) (Array.replicate 16 false) w7.drew := SB.on trivial hBd
    refine wpAnyG_takeP (i := 0) (v := ?_) rfl (by kernel_rfl) (by kernel_rfl) (by kernel_rfl) (fun _ _ _ h => h) rfl (Or.inl ⟨by rfl, ?_⟩) (by assumption) ?_
    rotate_left
    · intro Y _; go_simp; try with_reducible rfl
    intro hSB0
    try simp only [Act.put, List.getElem_toArray, List.getElem_cons_zero, List.setIfInBounds_toArray, List.set_cons_zero, List.set_cons_succ]
    refine wpAnyG_takeP (i := 1) (v := ?_) rfl (by kernel_rfl) (by kernel_rfl) (by kernel_rfl) (fun _ _ _ h => h) rfl (Or.inl ⟨by rfl, ?_⟩) (by assumption) ?_
    rotate_left
    · intro Y _; go_simp; try with_reducible rfl
    intro hSB1
    try simp only [Act.put, List.getElem_toArray, List.getElem_cons_zero, List.getElem_cons_succ, List.setIfInBounds_toArray, List.set_cons_zero, List.set_cons_succ]
    refine wpAnyG_takeP (i := 2) (v := ?_) rfl (by kernel_rfl) (by kernel_rfl) (by kernel_rfl) (fun _ _ _ h => h) rfl (Or.inl ⟨by rfl, ?_⟩) (by assumption) ?_
    rotate_left
    · intro Y _; go_simp; try with_reducible rfl
    intro hSB2
    try simp only [Act.put, List.getElem_toArray, List.getElem_cons_zero, List.getElem_cons_succ, List.setIfInBounds_toArray, List.set_cons_zero, List.set_cons_succ]
    refine wpAnyG_takeP (i := 3) (v := ?_) rfl (by kernel_rfl) (by kernel_rfl) (by kernel_rfl) (fun _ _ _ h => h) rfl (Or.inl ⟨by rfl, ?_⟩) (by assumption) ?_
    rotate_left
    · intro Y _; go_simp; try with_reducible rfl
    intro hSB3
    try simp only [Act.put, List.getElem_toArray, List.getElem_cons_zero, List.getElem_cons_succ, List.setIfInBounds_toArray, List.set_cons_zero, List.set_cons_succ]
    refine wpAnyG_takeP (i := 5) (v := ?_) rfl (by kernel_rfl) (by kernel_rfl) (by kernel_rfl) (fun _ _ _ h => h) rfl (Or.inl ⟨by rfl, ?_⟩) (by assumption) ?_
    rotate_left
    · intro Y _; go_simp; try with_reducible rfl
    intro hSB5
    try simp only [Act.put, List.getElem_toArray, List.getElem_cons_zero, List.getElem_cons_succ, List.setIfInBounds_toArray, List.set_cons_zero, List.set_cons_succ]
    refine wpAnyG_takeP (i := 4) (v := ?_) rfl (by kernel_rfl) (by kernel_rfl) (by kernel_rfl) (fun _ _ _ h => h) rfl (Or.inl ⟨by rfl, ?_⟩) (by assumption) ?_
    rotate_left
    · intro Y hY; have h4 := HC.out Y hY; go_simp; try with_reducible rfl
    intro hSB4
    try simp only [Act.put, List.getElem_toArray, List.getElem_cons_zero, List.getElem_cons_succ, List.setIfInBounds_toArray, List.set_cons_zero, List.set_cons_succ]
    refine wpAnyG_one (i := 6) (by kernel_rfl) rfl (fun K hK => ?_)
    refine vstep_bytesG _ (by rfl) _ _ (by rfl) _ (by rfl) (fun v W => ∃ ba bc, v = .slice ba N bc ∧ W.ownsRow w7.drew.heap.size 5 1 (.slice ba N bc) N (cellsOf (runB d)) ∧ Below w7.heap.size w7 W) ((HBb.out w7.drew hBd).mono (fun e w' ⟨ba, bc, h1, h2, h3⟩ => ⟨_, h1, ba, bc, rfl, h2, hBd.trans (h3.mono hBd.size)⟩)) ?_
    rintro v w8 ⟨ba, bc, rfl, ho8, hB8⟩
    refine hK.out _ _ (SB.on trivial hB8) (fun hSB6 => ?_)
    clear hK K
    try simp only [Act.put, List.getElem_toArray, List.getElem_cons_zero, List.getElem_cons_succ, List.setIfInBounds_toArray, List.set_cons_zero, List.set_cons_succ]
    have hr8 : (convert 25 9 (.slice ba N bc)).run Try.prog w8 = .ok (.string st) w8 := by
      rw [← hst]
      exact run_string w8 ba N bc (runB d) (own_slice ho8).1
    refine wpAnyG_one (i := 7) (by kernel_rfl) rfl (fun K hK => ?_)
    refine vstep_strG _ (by rfl) _ (by rfl) _ (by rfl) _ hr8 ?_
    refine hK.out _ _ (SB.on trivial hB8) (fun hSB7 => ?_)
    clear hK K
    try simp only [Act.put, List.getElem_toArray, List.getElem_cons_zero, List.getElem_cons_succ, List.setIfInBounds_toArray, List.set_cons_zero, List.set_cons_succ]
    refine wpAnyG_takeP (i := 8) (v := ?_) rfl (by kernel_rfl) (by kernel_rfl) (by kernel_rfl) (fun _ _ _ h => h) rfl (Or.inl ⟨by rfl, ?_⟩) (by assumption) ?_
    rotate_left
    · intro Y _; go_simp; try with_reducible rfl
    intro hSB8
    try simp only [Act.put, List.getElem_toArray, List.getElem_cons_zero, List.getElem_cons_succ, List.setIfInBounds_toArray, List.set_cons_zero, List.set_cons_succ]
    try simp only [beq_self_eq_true]
    refine wpAnyG_takeP (i := 9) (v := ?_) rfl (by kernel_rfl) (by kernel_rfl) (by kernel_rfl) (fun _ _ _ h => h) rfl (Or.inl ⟨by rfl, ?_⟩) (by assumption) ?_
    rotate_left
    · intro Y _; go_simp; try with_reducible rfl
    intro hSB9
    try simp only [Act.put, List.getElem_toArray, List.getElem_cons_zero, List.getElem_cons_succ, List.setIfInBounds_toArray, List.set_cons_zero, List.set_cons_succ]
    refine wpAnyG_takeP (i := 10) (v := ?_) rfl (by kernel_rfl) (by kernel_rfl) (by kernel_rfl) (fun _ _ _ h => h) rfl (Or.inl ⟨by rfl, ?_⟩) (by assumption) ?_
    rotate_left
    · intro Y _; go_simp; try with_reducible rfl
    intro hSB10
    try simp only [Act.put, List.getElem_toArray, List.getElem_cons_zero, List.getElem_cons_succ, List.setIfInBounds_toArray, List.set_cons_zero, List.set_cons_succ]
    refine wpAnyG_takeP (i := 11) (v := ?_) rfl (by kernel_rfl) (by kernel_rfl) (by kernel_rfl) (fun _ _ _ h => h) rfl (Or.inl ⟨by rfl, ?_⟩) (by assumption) ?_
    rotate_left
    · intro Y _; go_simp; try with_reducible rfl
    intro hSB11
    try simp only [Act.put, List.getElem_toArray, List.getElem_cons_zero, List.getElem_cons_succ, List.setIfInBounds_toArray, List.set_cons_zero, List.set_cons_succ]
    refine wpAnyG_takeP (i := 12) (v := ?_) rfl (by kernel_rfl) (by kernel_rfl) (by kernel_rfl) (fun _ _ _ h => h) rfl (Or.inl ⟨by rfl, ?_⟩) (by assumption) ?_
    rotate_left
    · intro Y _; go_simp; try with_reducible rfl
    intro hSB12
    try simp only [Act.put, List.getElem_toArray, List.getElem_cons_zero, List.getElem_cons_succ, List.setIfInBounds_toArray, List.set_cons_zero, List.set_cons_succ]
    refine wpAnyG_one (i := 13) (by kernel_rfl) rfl (fun K hK => ?_)
    refine vstep_toldG _ (by rfl) _ _ _ _ (by rfl) _ _ (by rfl) (by rfl) (fun v W => v = .bool true ∧ Below w8.heap.size w8 W) ((HTd.out w8 hB8).mono (fun e w' h => ⟨_, h.1, rfl, h.2⟩)) ?_
    rintro v w9 ⟨rfl, hB9⟩
    refine hK.out _ _ (SB.on trivial (hB8.trans (hB9.mono hB8.size))) (fun hSB13 => ?_)
    clear hK K
    try simp only [Act.put, List.getElem_toArray, List.getElem_cons_zero, List.getElem_cons_succ, List.setIfInBounds_toArray, List.set_cons_zero, List.set_cons_succ]
    refine wpAnyG_takeP (i := 14) (v := ?_) rfl (by kernel_rfl) (by kernel_rfl) (by kernel_rfl) (fun _ _ _ h => h) rfl (Or.inl ⟨by rfl, ?_⟩) (by assumption) ?_
    rotate_left
    · intro Y _; go_simp; try with_reducible rfl
    intro hSB14
    try simp only [Act.put, List.getElem_toArray, List.getElem_cons_zero, List.getElem_cons_succ, List.setIfInBounds_toArray, List.set_cons_zero, List.set_cons_succ]
    refine wpAnyG_takeP (i := 15) (v := ?_) rfl (by kernel_rfl) (by kernel_rfl) (by kernel_rfl) (fun _ _ _ h => h) rfl (Or.inl ⟨by rfl, ?_⟩) (by assumption) ?_
    rotate_left
    · intro Y _; go_simp; try with_reducible rfl
    intro hSB15
    try simp only [Act.put, List.getElem_toArray, List.getElem_cons_zero, List.getElem_cons_succ, List.setIfInBounds_toArray, List.set_cons_zero, List.set_cons_succ]
    refine wpAnyG_done (by kernel_rfl) ?_ _
    clear hSB hSB0 hSB1 hSB2 hSB3 hSB4 hSB5 hSB6 hSB7 hSB8 hSB9 hSB10 hSB11 hSB12 hSB13 hSB14 hSB15
    go_wp2
    go_ret
    exact ⟨rfl, HB.out.trans ((hB8.trans (hB9.mono hB8.size)).mono HB.out.size)⟩
theorem runMakes_law (w : World) (a : Option Addr) (n c : Nat) (l : List Pr) (h : PrIn w a n c l) :
    Calls Try.prog 3 #[.slice a n c] w fun e w' => e = .returned (.bool true) ∧ Below w.heap.size w w' :=
  runMakes_walk w a n c l h.prs h.ok h.nil h.cap
end Go.Proofs.Ytgcbbnmjomhngaa
