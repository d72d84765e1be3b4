/- The walk of Common. -/
import Derived.Test.YtadmpobnpnbgoaaDoorNMove
namespace Go.Proofs.YtadmpobnpnbgoaaDoor
open Go.RowKit Go.Shelf

attribute [local go_sem] Oper.semAt_some

theorem glue_pre (A B : List (List UInt8)) (h : A <+: B) : glue A <+: glue B := by
  obtain ⟨C, rfl⟩ := h
  by_cases hA : A = []
  · subst hA; exact List.nil_prefix
  · by_cases hC : C = []
    · subst hC; rw [List.append_nil]; exact List.prefix_refl _
    · rw [glue_append _ _ hA hC]; exact List.prefix_append _ _
theorem take_ne (ns : List (List UInt8)) (k : Nat) (h0 : 0 < k) (hk : k < ns.length) : ns.take k ≠ [] := fun e => by
  have := congrArg List.length e
  rw [List.length_take, List.length_nil] at this; omega
theorem glue_take_succ (ns : List (List UInt8)) (k : Nat) (n : List UInt8) (hn : ns[k]? = some n) (h0 : k ≠ 0) : (glue (ns.take (k + 1))).length = (glue (ns.take k)).length + 1 + n.length := by
  have hk : k < ns.length := (List.getElem?_eq_some_iff.1 hn).1
  rw [List.take_add_one, hn, Option.toList_some, glue_append _ _ (take_ne ns k (by omega) hk) (by simp), glue_one]
  simp; omega
theorem offs_get (ns : List (List UInt8)) : ∀ (p k : Nat), (offs p ns)[k]? = (ns[k]?).map fun n => (p + (if k = 0 then 0 else (glue (ns.take k)).length + 1), n) := by
  induction ns with
  | nil => intro p k; simp [offs]
  | cons n r ih =>
    intro p k
    cases k with
    | zero => simp [offs]
    | succ k =>
      rw [offs, List.getElem?_cons_succ, List.getElem?_cons_succ, ih]
      cases hr : r[k]? with
      | none => rfl
      | some m =>
        simp only [Option.map_some]
        congr 2
        rw [if_neg (Nat.succ_ne_zero _)]
        cases k with
        | zero => simp [glue_one]; omega
        | succ j =>
          have hj : j + 1 < r.length := (List.getElem?_eq_some_iff.1 hr).1
          rw [if_neg (Nat.succ_ne_zero _), List.take_succ_cons, glue_cons n _ (take_ne r (j + 1) (by omega) hj)]
          simp; omega
theorem offs_end (ns : List (List UInt8)) (k : Nat) (x : Nat × List UInt8) (hx : (offs 0 ns)[k]? = some x) : ns[k]? = some x.2 ∧ x.1 + x.2.length = (glue (ns.take (k + 1))).length := by
  rw [offs_get] at hx
  cases hn : ns[k]? with
  | none => rw [hn] at hx; cases hx
  | some n =>
    rw [hn] at hx
    simp only [Option.map_some, Option.some.injEq] at hx
    subst hx
    refine ⟨rfl, ?_⟩
    cases k with
    | zero =>
      cases ns with
      | nil => cases hn
      | cons m r => simp at hn; subst hn; simp [glue_one]
    | succ j =>
      rw [glue_take_succ ns (j + 1) n hn (Nat.succ_ne_zero _), if_neg (Nat.succ_ne_zero _)]
      show 0 + ((glue (List.take (j + 1) ns)).length + 1) + n.length = _
      omega

theorem lcp_all : ∀ A B, A <+: B → lcp A B = A
  | [], _, _ => by simp [lcp]
  | a :: s, [], h => by simp at h
  | a :: s, b :: t, h => by
    have e := List.cons_prefix_cons.1 h
    unfold lcp
    rw [if_pos e.1, lcp_all s t e.2]
theorem lcp_take : ∀ (k : Nat) (A B : List (List UInt8)), k < A.length → A.take k <+: B → ¬ A.take (k + 1) <+: B → lcp A B = A.take k
  | 0, [], _, h, _, _ => by simp at h
  | 0, a :: s, [], _, _, _ => by simp [lcp]
  | 0, a :: s, b :: t, _, _, h => by
    unfold lcp
    rw [if_neg (fun e => h (by subst e; simp))]; rfl
  | k + 1, [], _, h, _, _ => by simp at h
  | k + 1, a :: s, [], _, h, _ => by simp at h
  | k + 1, a :: s, b :: t, hk, h1, h2 => by
    rw [List.take_succ_cons] at h1 h2
    have e := List.cons_prefix_cons.1 h1
    unfold lcp
    rw [if_pos e.1, lcp_take k s t (by simpa using hk) e.2 (fun h => h2 (List.cons_prefix_cons.2 ⟨e.1, h⟩))]; rfl

/-- the path up to the end of that piece -/
def upto (s : ByteArray) (x : Pc s) : ByteArray := s.extract 0 (x.1.1 + x.1.2.size)
def comS {s : ByteArray} (pre : List (Pc s)) : ByteArray := match pre.getLast? with
  | none => ⟨#[]⟩
  | some x => upto s x

theorem upto_bs (s : ByteArray) (x : Pc s) (k : Nat) (h : (pcs (bs s))[k]? = some (Pc.at x)) : bs (upto s x) = glue ((parts (bs s)).take (k + 1)) := by
  obtain ⟨h1, h2⟩ := offs_end _ k _ h
  unfold upto
  rw [bs_extract, List.drop_zero]
  have e : x.1.1 + x.1.2.size = (glue ((parts (bs s)).take (k + 1))).length := by rw [← h2]; show _ = x.1.1 + (bs x.1.2).length; rw [bs_len]
  rw [e]
  have hp := glue_pre _ _ (List.take_prefix (k + 1) (parts (bs s)))
  rw [glue_parts] at hp
  exact (List.prefix_iff_eq_take.1 hp).symm
theorem comS_bs {s : ByteArray} (pre : List (Pc s)) (rest : List (Nat × List UInt8)) (h : pre.map Pc.at ++ rest = pcs (bs s)) : bs (comS pre) = glue ((parts (bs s)).take pre.length) := by
  unfold comS
  rcases List.eq_nil_or_concat pre with rfl | ⟨q, x, rfl⟩
  · simp [glue_nil, bs]
  · rw [List.concat_eq_append, List.getLast?_concat]
    simp only
    rw [upto_bs s x q.length (by rw [← h, List.concat_eq_append]; simp), List.length_append]; rfl

/-- does b lie in what has come? -/
def AllIn {s : ByteArray} (b : ByteArray) (pre : List (Pc s)) : Prop := ∀ x ∈ pre, restB b (upto s x) = true
theorem restB_take (s b : ByteArray) (x : Pc s) (k : Nat) (ha : isP (bs s) = true) (hb : isP (bs b) = true) (h : (pcs (bs s))[k]? = some (Pc.at x)) : restB b (upto s x) = true ↔ (parts (bs s)).take (k + 1) <+: parts (bs b) := by
  unfold restB
  have hg : Good ((parts (bs s)).take (k + 1)) := (isP_good ha).sub (fun n hn => List.mem_of_mem_take hn)
  have := restP_glue (parts (bs b)) ((parts (bs s)).take (k + 1)) (isP_good hb) hg
  rw [glue_parts] at this
  rw [upto_bs s x k h, this]
  split
  · rename_i hh; exact ⟨fun _ => hh, fun _ => rfl⟩
  · rename_i hh; exact ⟨fun e => (by cases e), fun e => absurd e hh⟩
theorem AllIn.take {s b : ByteArray} {pre : List (Pc s)} (h : AllIn b pre) (ha : isP (bs s) = true) (hb : isP (bs b) = true) (rest : List (Nat × List UInt8)) (hs : pre.map Pc.at ++ rest = pcs (bs s)) : (parts (bs s)).take pre.length <+: parts (bs b) := by
  rcases List.eq_nil_or_concat pre with rfl | ⟨q, x, rfl⟩
  · simp
  · rw [List.concat_eq_append] at hs h ⊢
    rw [List.length_append, List.length_singleton]
    exact (restB_take s b x q.length ha hb (by rw [← hs]; simp)).1 (h x (by simp))
theorem com_done {s b : ByteArray} {xs : List (Pc s)} (h : AllIn b xs) (ha : isP (bs s) = true) (hb : isP (bs b) = true) (hs : xs.map Pc.at = pcs (bs s)) : bs (comS xs) = comP (bs s) (bs b) := by
  have hs' : xs.map Pc.at ++ [] = pcs (bs s) := by rw [List.append_nil]; exact hs
  have hl : xs.length = (parts (bs s)).length := by rw [← pcs_len, ← hs, List.length_map]
  have h1 := h.take ha hb [] hs'
  rw [hl, List.take_length] at h1
  rw [comS_bs xs [] hs', hl, List.take_length]
  unfold comP
  rw [ha, hb, lcp_all _ _ h1]; rfl
theorem com_stop {s b : ByteArray} {q : List (Pc s)} {x : Pc s} (h : AllIn b q) (hx : restB b (upto s x) = false) (ha : isP (bs s) = true) (hb : isP (bs b) = true) (rest : List (Nat × List UInt8)) (hs : (q ++ [x]).map Pc.at ++ rest = pcs (bs s)) : bs (comS q) = comP (bs s) (bs b) := by
  have hs' : q.map Pc.at ++ (Pc.at x :: rest) = pcs (bs s) := by rw [← hs]; simp
  have hk : (pcs (bs s))[q.length]? = some (Pc.at x) := by rw [← hs']; simp
  have hlt : q.length < (parts (bs s)).length := by rw [← pcs_len, ← hs']; simp
  have h1 := h.take ha hb _ hs'
  have h2 : ¬ (parts (bs s)).take (q.length + 1) <+: parts (bs b) := fun hh => by
    have := (restB_take s b x q.length ha hb hk).2 hh
    rw [hx] at this; cases this
  rw [comS_bs q _ hs']
  unfold comP
  rw [ha, hb, lcp_take q.length _ _ hlt h1 h2]; rfl
theorem comS_snoc {s : ByteArray} (pre : List (Pc s)) (x : Pc s) : comS (pre ++ [x]) = upto s x := by
  unfold comS
  rw [List.getLast?_concat]

structure ComI {s : ByteArray} (w : World) (b : ByteArray) (c p : Nat) (pre : List (Pc s)) (W : World) : Prop where
  fa : Boxed W w.heap.size 9 (.string s)
  fb : Boxed W (w.heap.size + 1) 9 (.string b)
  fc : Boxed W c 9 (.string (comS pre))
  fp : Boxed W p 9 (.string s)
  fw : Below w.heap.size w W
  ok : AllIn b pre
theorem comI_own {s : ByteArray} (w : World) (b : ByteArray) (c p b0 : Nat) (h0 : w.heap.size ≤ b0) : OwnFrom b0 (ComI (s := s) w b c p) := fun _ _ _ _ hs hg hr =>
  ⟨boxed_keep hs.fa hg hr, boxed_keep hs.fb hg hr, boxed_keep hs.fc hg hr, boxed_keep hs.fp hg hr, below_keep hs.fw (Nat.le_refl _) h0 hg hr, hs.ok⟩
def ComX {s : ByteArray} (w : World) (b : ByteArray) (c p : Nat) (e : Code) (pre : List (Pc s)) (W : World) : Prop := ∃ q x, pre = q ++ [x] ∧ e = .exit 0 ∧ restB b (upto s x) = false ∧ ComI w b c p q W
theorem comX_own {s : ByteArray} (w : World) (b : ByteArray) (c p b0 : Nat) (h0 : w.heap.size ≤ b0) (e : Code) : OwnFrom b0 (ComX (s := s) w b c p e) := fun _ _ _ _ hs hg hr => by
  obtain ⟨q, x, e1, e2, e3, hs⟩ := hs
  exact ⟨q, x, e1, e2, e3, comI_own w b c p b0 h0 _ _ _ _ hs hg hr⟩

theorem ret_m {n : Nat} {f : Func} {W : World} {v : Value} {tmps : Array Value} {P : Ending → World → Prop} (hr : (results f tmps).run Tryd.prog W = .ok v W) (hP : P (.returned v) W) :
    bodyPostM Fence.wide n Tryd.prog f P Exit.ret { tmps := tmps, defers := [] } W := ⟨v, hr, hP⟩

set_option maxRecDepth 100000 in
set_option maxHeartbeats 4000000 in
theorem Common_any (s b : ByteArray) (w : World) (hs' : s.size ≤ 200000) (hb' : b.size ≤ 200000) :
    Calls Tryd.prog 28 #[.string s, .string b] w fun e w' => e = .returned (.string (mk (comP (bs s) (bs b)))) ∧ Below w.heap.size w w' := by
  have hs : s.size ≤ maxLen := by unfold maxLen; omega
  have hb : b.size ≤ maxLen := by unfold maxLen; omega
  obtain ⟨w2, hw2⟩ : ∃ w2, w2 = (w.alloc (.cells #[.string s] 9)).alloc (.cells #[.string b] 9) := ⟨_, rfl⟩
  have hB2 : Below w.heap.size w w2 := by rw [hw2]; exact ((Below.refl _ w).alloc (Nat.le_refl _) _).alloc (by simp) _
  have hs2 : w2.heap.size = w.heap.size + 2 := by rw [hw2]; simp
  have bA : Boxed w2 w.heap.size 9 (.string s) := by rw [hw2]; exact (Boxed.new w _ _).alloc _
  have bB : Boxed w2 (w.heap.size + 1) 9 (.string b) := by
    have := Boxed.new (w.alloc (.cells #[.string s] 9)) 9 (.string b)
    rw [World.size_alloc] at this
    rw [hw2]; exact this
  refine (callsIn_wide (n := 5)).1 ?_
  refine callsIn_of_wp_marks Tryd.func28 rfl trivial ?_ rfl
  simp only [Tryd.ntmps28, List.size_toArray, List.length_cons, List.length_nil, Nat.reduceAdd, Nat.reduceSub, Array.replicate_succ, Array.replicate_zero, List.push_toArray, List.append_toArray, List.nil_append, List.cons_append]
  refine wpIn_wide.2 ?_
  have cA := bA.cell
  have cB := bB.cell
  have hx := isPath_any s w2 hs
  have HB : Hid (Boxed w2 w.heap.size 9 (.string s) ∧ Boxed w2 (w.heap.size + 1) 9 (.string b) ∧ Below w.heap.size w w2) := ⟨bA, bB, hB2⟩
  obtain ⟨m2, hm2⟩ : ∃ m2, m2 = w2.heap.size := ⟨_, rfl⟩
  have HW : Hid (w2 = (w.alloc (.cells #[.string s] 9)).alloc (.cells #[.string b] 9) ∧ m2 = w2.heap.size) := ⟨hw2, hm2⟩
  rw [← hm2] at hx
  rw [hw2] at cA cB hx
  clear bA bB hB2 hw2 hm2
  cases ha1 : isP (bs s) with
  | false =>
    have HE : Hid (mk (comP (bs s) (bs b)) = ⟨#[]⟩) := by show _ = _; unfold comP; rw [ha1]; rfl
    rw [ha1] at hx
    go_wp2_with (go_at_call 38; refine hx.mono ?_; clear hx; rintro e w3 ⟨rfl, hB3⟩)
    refine ret_m (v := .string ⟨#[]⟩) (by simp [results, Tryd.results28, go_sem]) ⟨by rw [HE.out], ?_⟩
    rw [← HW.out.1, HW.out.2] at hB3
    exact HB.out.2.2.trans (hB3.mono HB.out.2.2.size)
  | true =>
    rw [ha1] at hx
    have HY : Hid (∀ w3, Below m2 w2 w3 → Boxed w3 w.heap.size 9 (.string s) ∧ Boxed w3 (w.heap.size + 1) 9 (.string b) ∧ Below w.heap.size w w3 ∧ m2 ≤ w3.heap.size ∧ w.heap.size + 2 = m2) := fun w3 h => by
      rw [HW.out.2] at h ⊢
      exact ⟨(h.block _ HB.out.1.lt).trans HB.out.1, (h.block _ HB.out.2.1.lt).trans HB.out.2.1, HB.out.2.2.trans (h.mono HB.out.2.2.size), h.size, hs2.symm⟩
    have hy := fun w => isPath_any b w hb
    cases hb1 : isP (bs b) with
    | false =>
      have HE : Hid (mk (comP (bs s) (bs b)) = ⟨#[]⟩) := by show _ = _; unfold comP; rw [ha1, hb1]; rfl
      rw [hb1] at hy
      go_wp2_with first
        | (go_at_call 38; refine hx.mono ?_; clear hx; rintro e w3 ⟨rfl, hB3⟩; rw [← HW.out.1] at hB3; have h3 := HY.out w3 hB3; replace hy := hy w3; have cB3 := h3.2.1.cell)
        | (go_at_call 38; refine hy.mono ?_; clear hy; rintro e w4 ⟨rfl, hB4⟩)
      refine ret_m (v := .string ⟨#[]⟩) (by simp [results, Tryd.results28, go_sem]) ⟨by rw [HE.out], ?_⟩
      exact h3.2.2.1.trans (hB4.mono h3.2.2.1.size)
    | true =>
      rw [hb1] at hy
      go_wp2_with first
        | (go_at_call 38; refine hx.mono ?_; clear hx; rintro e w3 ⟨rfl, hB3⟩; rw [← HW.out.1] at hB3; have h3 := HY.out w3 hB3; replace hy := hy w3; have cB3 := h3.2.1.cell)
        | (go_at_call 38; refine hy.mono ?_; clear hy; rintro e w4 ⟨rfl, hB4⟩; have bA4 : Boxed w4 w.heap.size 9 (.string s) := (hB4.block _ h3.1.lt).trans h3.1; have cA5 := (bA4.alloc (.cells #[.string ⟨#[]⟩] 9)).cell)
        | (go_at_call 35; refine (pieces_any s _).mono ?_; rintro e w' ⟨rfl, rfl⟩)
      have bB4 : Boxed w4 (w.heap.size + 1) 9 (.string b) := (hB4.block _ h3.2.1.lt).trans h3.2.1
      have hBw4 : Below w.heap.size w w4 := h3.2.2.1.trans (hB4.mono h3.2.2.1.size)
      have hm4 : w.heap.size + 2 ≤ w4.heap.size := by have := h3.2.2.2; have := hB4.size; omega
      obtain ⟨w6, hw6⟩ : ∃ w6, w6 = (w4.alloc (.cells #[.string ⟨#[]⟩] 9)).alloc (.cells #[.string s] 9) := ⟨_, rfl⟩
      have hs6 : w6.heap.size = w4.heap.size + 2 := by rw [hw6]; simp
      have hB6 : Below w4.heap.size w4 w6 := by rw [hw6]; exact ((Below.refl _ w4).alloc (Nat.le_refl _) _).alloc (by simp) _
      have bC6 : Boxed w6 w4.heap.size 9 (.string ⟨#[]⟩) := by rw [hw6]; exact (Boxed.new w4 9 (.string ⟨#[]⟩)).alloc _
      have bP6 : Boxed w6 (w4.heap.size + 1) 9 (.string s) := by
        have := Boxed.new (w4.alloc (.cells #[.string ⟨#[]⟩] 9)) 9 (.string s)
        rw [World.size_alloc] at this
        rw [hw6]; exact this
      have bA6 : Boxed w6 w.heap.size 9 (.string s) := (hB6.block _ bA4.lt).trans bA4
      have bB6 : Boxed w6 (w.heap.size + 1) 9 (.string b) := (hB6.block _ bB4.lt).trans bB4
      have hBw6 : Below w.heap.size w w6 := hBw4.trans (hB6.mono hBw4.size)
      rw [← hw6]
      clear hw6 cA5 cB3 cA cB HY HW HB h3 hB3 hB4 bA4 bB4 hBw4 hB6 hs2
      obtain ⟨N4, hN4⟩ : ∃ N4, N4 = w4.heap.size := ⟨_, rfl⟩
      rw [← hN4] at hs6 bC6 bP6 hm4 ⊢
      clear hN4 w4 w3 w2
      refine (wpIn_wide (n := 5)).1 ?_
      refine wpIn_rangeFunc_ownG (w := w6) (w0 := w6) rfl (by omega) (gf := 52) (lb := #[.pointer (some ⟨N4 + 1, 0, none⟩)]) rfl trivial (enters_of Tryd.func52 (by kernel_rfl) rfl)
        (pieces_stops s hs w6 (N4 + 1) bP6 4 (by omega)) KpB.t (fun W l o o' hl ho _ hw => ⟨KeepsWalks.putObj _ ho hw, World.putObj_heap_other (by omega)⟩) (Below.refl _ _) (fun _ => rfl)
        (ComI w b N4 (N4 + 1)) (ComX w b N4 (N4 + 1)) (comI_own w b _ _ _ (by omega)) (comX_own w b _ _ _ (by omega))
        ⟨bA6, bB6, bC6, bP6, hBw6, fun x hx => by cases hx⟩ ?act ?assign ?body ?done ?stop
      case assign =>
        intro l x W K hK
        gi_wp2
        exact hK
      case body =>
        rintro l pre x W hI hlen
        have cA := hI.fa.cell
        have cB := hI.fb.cell
        have cC := hI.fc.cell
        have fC := hI.fc.frozen
        have H : Hid (ComI w b N4 (N4 + 1) pre W) := hI
        have hd : 1 ≤ 5 - 1 - 1 := by omega
        have hx := x.2
        have hr := fun w => rest_any b (upto s x) w (by omega) (by unfold upto; simp; omega)
        have hsl := x.2
        have i1 : (x.1.1 : Int) + x.1.2.size ≤ s.size := by omega
        have HU : Hid (upto s x = s.extract 0 (x.1.1 + x.1.2.size)) := rfl
        clear hI bA6 bB6 bC6 bP6 hBw6
        cases hrb : restB b (upto s x) with
        | true =>
          rw [hrb] at hr
          gi_wp2_with (refine ⟨trivial, ?_⟩; gi_at_call 44; refine (CallsIn.inRound l (callsIn_wide.2 (hr _))).mono ?_; rintro e W1 ⟨rfl, rfl⟩)
          have hp := H.out.fp.other (B' := N4) (by omega) (.string (s.extract 0 (x.1.1 + x.1.2.size)))
          refine ⟨(KeepsOthers.setCell _ _ _).from _, ⟨(KeepsOthers.setCell _ _ _).walks, hp.trans H.out.fp.symm⟩, H.out.fa.other (by omega) _, H.out.fb.other (by omega) _, ?_, hp, H.out.fw.setCell (p := ⟨N4, 0, none⟩) (by show w.heap.size ≤ N4; omega) _, ?_⟩
          · rw [comS_snoc]; exact H.out.fc.set _
          · intro y hy
            rcases List.mem_append.1 hy with hy | hy
            · exact H.out.ok y hy
            · rw [List.mem_singleton.1 hy]; exact hrb
        | false =>
          rw [hrb] at hr
          gi_wp2_with (refine ⟨trivial, ?_⟩; gi_at_call 44; refine (CallsIn.inRound l (callsIn_wide.2 (hr _))).mono ?_; rintro e W1 ⟨rfl, rfl⟩)
          exact ⟨KeepsFrom.refl _ _, pre, x, rfl, rfl, hrb, H.out⟩
      case done =>
        rintro D xs W hD hS hI hK
        have cC := hI.fc.cell
        have hcs : comS xs = mk (comP (bs s) (bs b)) := bs_inj (by rw [com_done hI.ok ha1 hb1 hS, bs_mk])
        rw [hcs] at cC
        have H : Hid (Below w.heap.size w W ∧ W.heap[D]? = some (.deferred (some [])) ∧ w6.heap.size ≤ D) := ⟨hI.fw, hK, hD⟩
        clear hI hS hK hD bA6 bB6 bC6 bP6 hBw6 hcs
        gi_wp2
        go_wp2_with fail
        obtain ⟨hb, hK, hD⟩ := H.out
        refine ⟨by simp, .inl ⟨_, _, rfl, run_takeDeferred hK, ?_⟩⟩
        refine ⟨.string (mk (comP (bs s) (bs b))), ?_, rfl, hb.trans (belowK_b (w := w) (Nat.le_refl _) _ D _ _ (by omega) hK rfl rfl)⟩
        simp [results, Tryd.results28, go_sem]
      case stop =>
        rintro D c pre W hD ⟨rest, hS⟩ ⟨q, x, rfl, rfl, hx, hI⟩ hK
        have cC := hI.fc.cell
        have hcs : comS q = mk (comP (bs s) (bs b)) := bs_inj (by rw [com_stop hI.ok hx ha1 hb1 rest hS, bs_mk])
        rw [hcs] at cC
        have H : Hid (Below w.heap.size w W ∧ W.heap[D]? = some (.deferred (some [])) ∧ w6.heap.size ≤ D) := ⟨hI.fw, hK, hD⟩
        clear hI hS hK hD bA6 bB6 bC6 bP6 hBw6 hcs hx
        gi_wp2
        go_wp2_with fail
        obtain ⟨hb, hK, hD⟩ := H.out
        refine ⟨by simp, .inl ⟨_, _, rfl, run_takeDeferred hK, ?_⟩⟩
        refine ⟨.string (mk (comP (bs s) (bs b))), ?_, rfl, hb.trans (belowK_b (w := w) (Nat.le_refl _) _ D _ _ (by omega) hK rfl rfl)⟩
        simp [results, Tryd.results28, go_sem]
end Go.Proofs.YtadmpobnpnbgoaaDoor
