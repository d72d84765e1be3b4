import Derived.Test.YtdjodigimhgklaaGreatDoorN42
import Derived.Test.YtdjodigimhgklaaGreatDoorN38
/- The memo's first Add on an empty disk. -/
namespace Go.Proofs.YtdjodigimhgklaaGreatDoor
open Go.RowKit Go.Shelf Go.Maps

theorem layR_free {g : Me} {news : List Pr} {rs : List (List UInt8)} {sz : Nat} {S : DG} {er : Int} {g' : Me} {rs' : List (List UInt8)} {sz' : Nat} {jc' : Bool} {S' S1 S2 : DG} (h4 : g.runs.length < 4) (h1 : layS1 g news S = (S1, 0)) (h2 : layS2 g news S = (S2, 0)) (h : LayR g news rs sz S er g' rs' sz' jc' S') :
    er = 0 ∧ g' = layG g news ∧ rs' = rs ++ [encR (layR g)] ∧ sz' = sz + (recB (encR (layR g))).length ∧ jc' = false ∧ S' = S2 := by
  unfold LayR at h
  rw [h1, h2] at h
  rcases h with ⟨h, _⟩ | ⟨_, h, _⟩ | ⟨_, _, l', hp, _, he, hg, hr, hs, hj, hS⟩
  · exact absurd rfl h
  · exact absurd rfl h
  · have : layO g = [] := by unfold layO; rw [if_neg (by omega)]
    rw [this] at hp
    have hl : l' = [] := List.Perm.eq_nil hp
    subst hl
    exact ⟨he, hg, hr, hs, hj, hS⟩
theorem mergeM_nil : ∀ d : List Pr, Ris d → ∀ x, lookP (mergeM [] d) x = lookP d x := fun d hd x => by
  rw [mergeM_look List.Pairwise.nil hd (fun p _ => rfl)]
  rfl
/-- the first Add of a memo that knows nothing, on an empty disk, of pairs that may be a run -/
theorem add_first {l : List Pr} {key : Nat} {er : Int} {g' : Me} {rs' : List (List UInt8)} {sz' : Nat} {jc' : Bool} {S' : DG} (h0 : ∀ p ∈ l, p.1 ≠ 0) (ho : Once l) (hne : l ≠ []) (hR : (recB (encR [1])).length ≤ 100000) (hR0 : recB (encR [1]) ≠ []) (h : AddR ⟨key, [], 0, [], false⟩ l [] 0 false emD er g' rs' sz' jc' S') :
    er = 0 ∧ g'.ps.length = l.length ∧ (∀ x, lookP g'.ps x = lookP l x) ∧ g'.failed = false := by
  rcases h with ⟨_, h⟩ | ⟨_, _, _, d, news, g1, hg, hp, hnw, hn0, hlen, hL, rfl⟩
  · rcases h with ⟨h, _⟩ | ⟨_, ⟨p, hp, h⟩, _⟩ | ⟨_, _, h, _⟩ | ⟨_, _, _, d, hg, hp, h⟩
    · cases h
    · exact absurd h (h0 p hp)
    · exact absurd ho h
    · rcases h with ⟨h, _⟩ | ⟨h, _⟩ | ⟨news, h, _, hbig, _⟩
      · rw [newsR_nil] at h; cases h
      · rw [newsR_nil] at h
        simp at h
        subst h
        exact absurd (List.Perm.eq_nil hp.symm) hne
      · rw [newsR_nil] at h
        simp at h
        subst h
        have := hg.len
        simp at hbig
        omega
  · rw [newsR_nil] at hnw
    simp at hnw
    subst hnw
    have hris := ((risF_iff d 0).1 hg.ris).1
    have hlay := lay_free (g := ⟨key, [], 0, [], false⟩) (news := d) (S := emD) rfl (by show 0 + 1 < 100; omega) rfl (by show d.length ≤ 65536; exact hg.len) (by decide) (Nat.zero_le _) hR hR0
    obtain ⟨rfl, rfl, _⟩ := layR_free (by show 0 < 4; omega) hlay.1 hlay.2 hL
    refine ⟨rfl, ?_, fun x => ?_, rfl⟩
    · show (mergeM [] d).length = l.length
      rw [mergeM_len, ← hp.length_eq]
      simp
    · show lookP (mergeM [] d) x = lookP l x
      rw [mergeM_nil d hris]
      exact look_perm hris.once hp x
end Go.Proofs.YtdjodigimhgklaaGreatDoor

/- wakes: a memo on a new disk. -/
namespace Go.Proofs.YtdjodigimhgklaaGreatDoor
open Go.RowKit Go.Shelf Go.Maps

attribute [local go_sem] Oper.semAt_some

theorem rec1_small : (recB (encR [1])).length ≤ 100000 ∧ recB (encR [1]) ≠ [] := by
  have h1 := recB_pos (encR [1])
  have h2 : (encR [1]).length ≤ 20 := by
    have := numsB_len [1]
    have := short_len ([1] : List Nat).length
    unfold encR
    rw [List.length_append]
    have : ([1] : List Nat).length = 1 := rfl
    omega
  refine ⟨by omega, fun e => ?_⟩
  rw [e] at h1
  simp at h1
theorem MS.look {Q : Nat → Prop} {w : World} {m d j : Nat} {g : Me} {rs : List (List UInt8)} {sz : Nat} {jc : Bool} {S : DG} (h : MS Q w m d j g rs sz jc S) (c : Nat) :
    Calls Tryz.prog 27 #[.pointer (some ⟨m, 0, none⟩), .int .u64 (c : Int)] w fun e w' => e = .returned (stdV (lookP g.ps c)) ∧ Below w.heap.size w w' := by
  obtain ⟨vr, pa, pc, FM, FJ, G, h1, _⟩ := h
  exact standin_any w m d j g vr pa pc FM h1 c
theorem MS.length {Q : Nat → Prop} {w : World} {m d j : Nat} {g : Me} {rs : List (List UInt8)} {sz : Nat} {jc : Bool} {S : DG} (h : MS Q w m d j g rs sz jc S) :
    Calls Tryz.prog 30 #[.pointer (some ⟨m, 0, none⟩)] w fun e w' => e = .returned (nV g.ps.length) ∧ w' = w := by
  obtain ⟨vr, pa, pc, FM, FJ, G, h1, _⟩ := h
  exact mlen_any w m d j g vr pa pc FM h1

set_option maxRecDepth 100000 in
set_option maxHeartbeats 4000000 in
theorem wakes18 (w : World) : Calls Tryz.prog 8 #[] w fun e w' => e = .returned (.bool true) ∧ Below w.heap.size w w' := by
  have hnw := new_any w
  go_enter Tryz.func8, Tryz.ntmps8
  go_wp2_with fail
  refine hnw.mono ?_
  clear hnw
  rintro e w1 ⟨rfl, hd1, hB1⟩
  have hop : Calls Tryz.prog 10 #[.pointer (some ⟨w.heap.size + 1, 0, none⟩), .int .u64 255] w1 _ := emD_open w1 (w.heap.size + 1) 255 _ hd1 (by decide) (by decide)
  have H1 : Hid (Below w.heap.size w w1 ∧ ∀ k, (k = w.heap.size ∨ k = w.heap.size + 1) → w.heap.size ≤ k ∧ k < w1.heap.size) := ⟨hB1, fun k hk => ⟨by omega, hd1.lt k hk⟩⟩
  clear hd1 hB1
  go_wp2_with fail
  refine hop.mono ?_
  clear hop
  rintro e w2 ⟨hT2, m, j, rfl, hM2⟩
  obtain ⟨Q, hQ⟩ : ∃ Q, Q = grow (fun k => k = w.heap.size ∨ k = w.heap.size + 1) w1 w2 := ⟨_, rfl⟩
  have H2 : Hid (MS Q w2 m (w.heap.size + 1) j ⟨255, [], 0, [], false⟩ [] 0 false emD ∧ Below w.heap.size w w2 ∧ ∀ k, Q k → w.heap.size ≤ k ∧ k < w2.heap.size) := by
    have hs1 := H1.out.1.size
    have hs2 := hT2.size
    refine ⟨by rw [hQ]; exact hM2, H1.out.1.trans (hT2.below H1.out.1.size (fun k hk => (H1.out.2 k hk).1)), fun k hk => ?_⟩
    rw [hQ] at hk
    rcases hk with hk | hk
    · have := H1.out.2 k hk; omega
    · omega
  clear hT2 hM2 hQ
  go_wp2_with fail
  obtain ⟨w3, hw3⟩ : ∃ w3, w3 = w2.alloc (.cells #[.int .u64 7, .int .u64 0, .int .u64 3, .int .u64 9] 39) := ⟨_, rfl⟩
  have hB3 : Below w2.heap.size w2 w3 := by rw [hw3]; exact (Below.refl _ _).alloc (Nat.le_refl _) _
  have hbx : w3.heap[w2.heap.size]? = some (.cells #[.int .u64 7, .int .u64 0, .int .u64 3, .int .u64 9] 39) := by rw [hw3]; exact World.alloc_heap_new w2 _
  have hp3 : PrV w3 (some ⟨w2.heap.size, 0, none⟩) 2 2 [(7, 0), (3, 9)] := by
    refine ⟨⟨rfl, fun _ => ⟨w2.heap.size, 0, rfl, fun q x hx => ?_⟩⟩, fun e => (by cases e), Nat.le_refl _⟩
    match q, hx with
    | 0, hx => cases hx; exact ⟨by simp [World.cell?, hbx], by simp [World.cell?, hbx]⟩
    | 1, hx => cases hx; exact ⟨by simp [World.cell?, hbx], by simp [World.cell?, hbx]⟩
  have had := yadd_any Q w3 m (w.heap.size + 1) j ⟨255, [], 0, [], false⟩ [] 0 false emD (H2.out.1.below hB3) (fun k hk => by have := H2.out.2.2 k hk; have := hB3.size; omega) (fun _ => rfl)
    (some ⟨w2.heap.size, 0, none⟩) 2 2 [(7, 0), (3, 9)] hp3 (fun p hp => by simp at hp; rcases hp with rfl | rfl <;> decide) (fun p hp => by cases hp) (by decide) (by decide) (by decide) (fun x hx => by cases hx) (by decide) (Nat.zero_le _) (by decide) (by decide)
    (fun news _ hn => by
      have hl := lay_free (g := ⟨255, [], 0, [], false⟩) (news := news) (S := emD) rfl (by decide) rfl (by show news.length ≤ 65536; omega) (by decide) (Nat.zero_le _) rec1_small.1 rec1_small.2
      rw [hl.1, hl.2]
      have h1 := runB_len news
      have h2 := short_len news.length
      have h3 := rec1_small.1
      refine ⟨fun _ => ⟨?_, Nat.zero_le _, ?_, ?_⟩, fun _ => ?_⟩
      · show ((emD.freeApp _ _).bs _).length ≤ _
        rw [freeApp_bs]
        split
        · show ((([] : List UInt8) ++ runB news).length) ≤ _
          rw [List.nil_append]
          omega
        · exact Nat.zero_le _
      · show (1 : Nat) ≤ 256
        omega
      · show 0 + ((runB news).length + 31) / 32 < _
        omega
      · show 0 + ((runB news).length + 31) / 32 + ((recB (encR [1])).length + 31) / 32 < _
        omega)
  have HB3 : Hid (Below w.heap.size w w3) := H2.out.2.1.trans (hB3.mono H2.out.2.1.size)
  rw [← hw3]
  clear hw3 hbx hp3 hB3
  refine had.mono ?_
  clear had
  rintro e w4 ⟨hT4, er, g', rs', sz', jc', S', rfl, hR, hM4⟩
  obtain ⟨rfl, hlen, hlook, _⟩ := add_first (by decide) (by decide) (by decide) rec1_small.1 rec1_small.2 hR
  have hB4 : Below w.heap.size w w4 := HB3.out.trans (hT4.below HB3.out.size (fun k hk => (H2.out.2.2 k hk).1))
  have l3 : lookP g'.ps 3 = some 9 := hlook 3
  have l7 : lookP g'.ps 7 = some 0 := hlook 7
  have l5 : lookP g'.ps 5 = none := hlook 5
  have HM : Hid (MS (grow Q w3 w4) w4 m (w.heap.size + 1) j g' rs' sz' jc' S' ∧ Below w.heap.size w w4) := ⟨hM4, hB4⟩
  have s3 : ∀ W, Below w4.heap.size w4 W → Calls Tryz.prog 27 #[.pointer (some ⟨m, 0, none⟩), .int .u64 3] W fun e w' => e = .returned (.tuple #[.int .u64 9, .bool true]) ∧ Below W.heap.size W w' := fun W hW => by
    have := (HM.out.1.below hW).look 3
    rwa [l3] at this
  have s7 : ∀ W, Below w4.heap.size w4 W → Calls Tryz.prog 27 #[.pointer (some ⟨m, 0, none⟩), .int .u64 7] W fun e w' => e = .returned (.tuple #[.int .u64 0, .bool true]) ∧ Below W.heap.size W w' := fun W hW => by
    have := (HM.out.1.below hW).look 7
    rwa [l7] at this
  have s5 : ∀ W, Below w4.heap.size w4 W → Calls Tryz.prog 27 #[.pointer (some ⟨m, 0, none⟩), .int .u64 5] W fun e w' => e = .returned (.tuple #[.int .u64 0, .bool false]) ∧ Below W.heap.size W w' := fun W hW => by
    have := (HM.out.1.below hW).look 5
    rwa [l5] at this
  have sl : ∀ W, Below w4.heap.size w4 W → Calls Tryz.prog 30 #[.pointer (some ⟨m, 0, none⟩)] W fun e w' => e = .returned (.int .i64 2) ∧ w' = W := fun W hW => by
    have := (HM.out.1.below hW).length
    rwa [hlen] at this
  have HS : Hid ((∀ W, Below w4.heap.size w4 W → Calls Tryz.prog 27 #[.pointer (some ⟨m, 0, none⟩), .int .u64 7] W fun e w' => e = .returned (.tuple #[.int .u64 0, .bool true]) ∧ Below W.heap.size W w') ∧ (∀ W, Below w4.heap.size w4 W → Calls Tryz.prog 27 #[.pointer (some ⟨m, 0, none⟩), .int .u64 5] W fun e w' => e = .returned (.tuple #[.int .u64 0, .bool false]) ∧ Below W.heap.size W w') ∧ ∀ W, Below w4.heap.size w4 W → Calls Tryz.prog 30 #[.pointer (some ⟨m, 0, none⟩)] W fun e w' => e = .returned (.int .i64 2) ∧ w' = W) := ⟨s7, s5, sl⟩
  have hs3 := s3 w4 (Below.refl _ _)
  clear hT4 hR hM4 hlen hlook hB4 l3 l7 l5 s3 s7 s5 sl
  go_wp2_with fail
  refine hs3.mono ?_
  clear hs3
  rintro e w5 ⟨rfl, hB5⟩
  have HB5 : Hid (Below w4.heap.size w4 w5) := hB5
  have hs7 := HS.out.1 w5 hB5
  clear hB5
  go_wp2_with fail
  refine hs7.mono ?_
  clear hs7
  rintro e w6 ⟨rfl, hB6⟩
  have HB6 : Hid (Below w4.heap.size w4 w6) := HB5.out.trans (hB6.mono HB5.out.size)
  have hs5 := HS.out.2.1 w6 HB6.out
  clear hB6
  go_wp2_with fail
  refine hs5.mono ?_
  clear hs5
  rintro e w7 ⟨rfl, hB7⟩
  have HB7 : Hid (Below w4.heap.size w4 w7) := HB6.out.trans (hB7.mono HB6.out.size)
  have hsl := HS.out.2.2 w7 HB7.out
  clear hB7
  go_wp2_with fail
  refine hsl.mono ?_
  clear hsl
  rintro e w8 ⟨rfl, hw8⟩
  subst hw8
  go_wp2
  go_ret
  exact ⟨rfl, HM.out.2.trans (HB7.out.mono HM.out.2.size)⟩
end Go.Proofs.YtdjodigimhgklaaGreatDoor

/- The walk of MemoNone. -/
namespace Go.Proofs.YtdjodigimhgklaaGreatDoor
open Go.RowKit Go.Shelf Go.Maps

attribute [local go_sem] Oper.semAt_some

set_option maxRecDepth 100000 in
set_option maxHeartbeats 8000000 in
theorem memoNone_walk (key : Int) (x y : Nat) (w : World) : Calls Tryz.prog 5 #[.int .u64 key, .agg #[.int .u64 (x : Int), .int .u64 (y : Int)]] w fun e w' => e = .returned (.bool true) ∧ Below w.heap.size w w' := by
  obtain ⟨w0, hw0⟩ : ∃ w0, w0 = (w.alloc (.cells #[.int .u64 (x : Int), .int .u64 (y : Int)] 39)).alloc (.cells #[.bool false] 4) := ⟨_, rfl⟩
  have hB0 : Below w.heap.size w w0 := by rw [hw0]; exact ((Below.refl _ w).alloc (Nat.le_refl _) _).alloc (by simp) _
  have hs0 : w0.heap.size = w.heap.size + 2 := by rw [hw0]; simp
  have bp0 : w0.heap[w.heap.size]? = some (.cells #[.int .u64 (x : Int), .int .u64 (y : Int)] 39) := by
    rw [hw0]
    exact (Below.heap_alloc _ _ _ (by simp)).trans (World.alloc_heap_new w _)
  have br0 : Boxed w0 (w.heap.size + 1) 4 (.bool false) := by
    rw [hw0]
    have := Boxed.new (w.alloc (.cells #[.int .u64 (x : Int), .int .u64 (y : Int)] 39)) 4 (.bool false)
    rwa [World.size_alloc] at this
  have H0 : Hid (Below w.heap.size w w0 ∧ w0.heap.size = w.heap.size + 2 ∧ w0.heap[w.heap.size]? = some (.cells #[.int .u64 (x : Int), .int .u64 (y : Int)] 39) ∧ Boxed w0 (w.heap.size + 1) 4 (.bool false)) := ⟨hB0, hs0, bp0, br0⟩
  have hwk := wakes18 w0
  clear hB0 hs0 bp0 br0
  refine (callsIn_wide (n := 5)).1 ?_
  refine callsIn_of_wp_marks Tryz.func5 rfl trivial ?_ rfl
  simp only [Tryz.ntmps5, List.size_toArray, List.length_cons, List.length_nil, Nat.reduceAdd, Nat.reduceSub, Array.replicate_succ, Array.replicate_zero, List.push_toArray, List.append_toArray, List.nil_append, List.cons_append]
  refine wpIn_wide.2 ?_
  go_wp2_with fail
  rw [← hw0]
  clear hw0
  refine hwk.mono ?_
  clear hwk
  rintro e w1 ⟨rfl, hB1⟩
  have hop := yopen_nil w1 (.int .u64 key)
  go_wp2_with fail
  refine hop.mono ?_
  clear hop
  rintro e w2 ⟨rfl, hw2⟩
  subst hw2
  have hnw := new_any w2
  go_wp2_with fail
  refine hnw.mono ?_
  clear hnw
  rintro e w3 ⟨rfl, _, hB3⟩
  have hoz := yopen_zero w3 ⟨w2.heap.size + 1, 0, none⟩
  have HB3 : Hid (Below w0.heap.size w0 w3) := hB1.trans (hB3.mono hB1.size)
  clear hB1 hB3
  go_wp2_with fail
  refine hoz.mono ?_
  clear hoz
  rintro e w4 ⟨rfl, hw4⟩
  subst hw4
  have hp4 : w4.heap[w.heap.size]? = some (.cells #[.int .u64 (x : Int), .int .u64 (y : Int)] 39) := (HB3.out.block _ (by rw [H0.out.2.1]; omega)).trans H0.out.2.2.1
  have cp0 : w4.cell? ⟨w.heap.size, 0, none⟩ = some (.int .u64 (x : Int)) := by simp [World.cell?, hp4]
  go_wp2_with fail
  have hst : Calls Tryz.prog 27 #[.pointer none, .int .u64 (x : Int)] w4 fun e w' => e = .returned (.tuple #[.int .u64 0, .bool false]) ∧ w' = w4 := standin_nil w4 x
  refine hst.mono ?_
  clear hst
  rintro e w5 ⟨rfl, hw5⟩
  subst hw5
  go_wp2_with fail
  refine (meach_any _ _).mono ?_
  rintro e w' ⟨rfl, hw'⟩
  have hB6 : Below w0.heap.size w0 w' := by rw [hw']; exact HB3.out.alloc HB3.out.size _
  have bx6 : Boxed w' w5.heap.size 28 (.pointer none) := by rw [hw']; exact Boxed.new w5 _ _
  have hs6 : w'.heap.size = w5.heap.size + 1 := by rw [hw']; simp
  have H6 : Hid (Below w0.heap.size w0 w' ∧ Boxed w' w5.heap.size 28 (.pointer none) ∧ w'.heap.size = w5.heap.size + 1) := ⟨hB6, bx6, hs6⟩
  clear hw' hB6 bx6 hs6 hp4 cp0
  go_wp2_with fail
  refine (wpIn_wide (n := 5)).1 ?_
  refine range_both (w := w') rfl (by omega) (gf := 66) (lb := #[.pointer (some ⟨w5.heap.size, 0, none⟩)]) rfl trivial (enters_of Tryz.func66 (by kernel_rfl) rfl)
    (meach_tells_nil w' w5.heap.size H6.out.2.1 4) (fun _ => rfl) (fun k hk => by have := H6.out.2.2; omega)
    (fun _ W => Turn (fun _ => False) w' W) (fun _ _ _ => False)
    (vturn_own (β := List Pr)) (fun _ _ _ _ _ h _ _ => h) (fun _ _ _ _ _ _ h _ _ => h) (Turn.refl _ _)
    ?act ?assign ?body ?done ?stop
  case body =>
    intro l pre x W hl3 hT hx
    exact hx.elim
  case assign =>
    intro l x W K hK
    unfold prE
    gi_wp2
    exact hK
  case stop => exact fun D c pre W hD h hK => h.elim
  case done =>
    rintro D xs W hD hxs hTW hK
    have hBW : Below w0.heap.size w0 W := H6.out.1.trans (hTW.below H6.out.1.size (fun k e => e.elim))
    have hsW := hTW.size
    have HW : Hid (Below w0.heap.size w0 W ∧ W.heap[D]? = some (.deferred (some [])) ∧ w.heap.size + 2 ≤ D ∧ D < W.heap.size) := ⟨hBW, hK, by have h1 := H6.out.1.size; have h2 := H0.out.2.1; omega, (Array.getElem?_eq_some_iff.1 hK).1⟩
    have hpb : ∀ Y, Below w0.heap.size w0 Y → Y.cell? ⟨w.heap.size, 0, none⟩ = some (.int .u64 (x : Int)) ∧ Y.cell? ⟨w.heap.size, 1, none⟩ = some (.int .u64 (y : Int)) ∧ Boxed Y (w.heap.size + 1) 4 (.bool false) := fun Y hY => by
      have hp := (hY.block w.heap.size (by rw [H0.out.2.1]; omega)).trans H0.out.2.2.1
      exact ⟨by simp [World.cell?, hp], by simp [World.cell?, hp], (hY.block _ (by rw [H0.out.2.1]; omega)).trans H0.out.2.2.2⟩
    have HP : Hid (∀ Y, Below w0.heap.size w0 Y → Y.cell? ⟨w.heap.size, 0, none⟩ = some (.int .u64 (x : Int)) ∧ Y.cell? ⟨w.heap.size, 1, none⟩ = some (.int .u64 (y : Int)) ∧ Boxed Y (w.heap.size + 1) 4 (.bool false)) := hpb
    obtain ⟨cx, cy, _⟩ := hpb W hBW
    clear hpb hTW hK hBW hsW
    go_wp2_with fail
    refine (yadd_nil _ _).mono ?_
    rintro e wa ⟨rfl, hwa⟩
    have HA : Hid (Below w0.heap.size w0 wa ∧ W.heap.size ≤ wa.heap.size ∧ wa.heap[D]? = some (.deferred (some []))) := by
      rw [hwa]
      exact ⟨HW.out.1.alloc HW.out.1.size _, by simp, (Below.heap_alloc _ _ _ HW.out.2.2.2).trans HW.out.2.1⟩
    clear hwa cx cy
    obtain ⟨cx, cy, _⟩ := HP.out wa HA.out.1
    go_wp2_with fail
    refine (ysources_nil wa y).mono ?_
    rintro e wb ⟨rfl, hBb⟩
    have HB : Hid (Below w0.heap.size w0 wb ∧ wb.heap[D]? = some (.deferred (some [])) ∧ W.heap.size ≤ wb.heap.size) := ⟨HA.out.1.trans (hBb.mono HA.out.1.size), (hBb.block D (by have := HA.out.2.1; have := HW.out.2.2.2; omega)).trans HA.out.2.2, by have := HA.out.2.1; have := hBb.size; omega⟩
    clear hBb cx cy
    go_wp2_with fail
    refine (mlen_nil wb).mono ?_
    rintro e w' ⟨rfl, hw'⟩
    subst hw'
    go_wp2_with fail
    refine (mruns_nil _).mono ?_
    rintro e w' ⟨rfl, hw'⟩
    subst hw'
    go_wp2_with fail
    refine (ykeys_nil _).mono ?_
    rintro e w' ⟨rfl, hw'⟩
    subst hw'
    go_wp2_with fail
    refine (wakes18 _).mono ?_
    rintro e wz ⟨rfl, hBz⟩
    have HZ : Hid (Below w0.heap.size w0 wz ∧ wz.heap[D]? = some (.deferred (some []))) := ⟨HB.out.1.trans (hBz.mono HB.out.1.size), (hBz.block D (by have := HB.out.2.2; have := HW.out.2.2.2; omega)).trans HB.out.2.1⟩
    clear hBz
    obtain ⟨_, _, bz⟩ := HP.out wz HZ.out.1
    have cz := bz.cell
    have fz := bz.frozen
    go_wp2_with fail
    have hD2 := HW.out.2.2.1
    have hK2 : (wz.setCell ⟨w.heap.size + 1, 0, none⟩ (.bool true)).heap[D]? = some (.deferred (some [])) := by
      rw [Below.heap_setCell _ _ _ _ (by show D ≠ w.heap.size + 1; omega)]; exact HZ.out.2
    have k1 := ((bz.set (.bool true)).kept (grownBy_putObj' _ D (.deferred none)) (by simp; omega)).cell
    refine vfin_m (v := .bool true) hK2 ?_ ?_
    · simp [results, Tryz.results5, go_sem, k1]
    · have hb : Below w.heap.size w wz := H0.out.1.trans (HZ.out.1.mono H0.out.1.size)
      have hb2 : Below w.heap.size w (wz.setCell ⟨w.heap.size + 1, 0, none⟩ (.bool true)) := hb.setCell (by show w.heap.size ≤ w.heap.size + 1; omega) _
      exact ⟨rfl, (vturn_put (.deferred none) (Turn.of_below (fun _ => False) hb2) (by omega)).below (Nat.le_refl _) (fun k e => e.elim)⟩
end Go.Proofs.YtdjodigimhgklaaGreatDoor
