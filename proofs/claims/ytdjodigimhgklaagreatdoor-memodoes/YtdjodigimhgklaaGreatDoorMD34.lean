import Derived.Test.YtdjodigimhgklaaGreatDoorMD32
import Derived.Test.YtdjodigimhgklaaGreatDoorMD33
import Derived.Test.YtdjodigimhgklaaGreatDoorMD23
import Derived.Test.YtdjodigimhgklaaGreatDoorMD31
import Derived.Test.YtdjodigimhgklaaGreatDoorMD11
/- The memo's Open. -/
namespace Go.Proofs.YtdjodigimhgklaaGreatDoor
open Go.RowKit Go.Shelf Go.Maps

attribute [local go_sem] Oper.semAt_some

theorem recF_len : ∀ (rs : List (List UInt8)) (st : List Nat × Nat × Bool), st.1.length ≤ 4 → (recF st rs).1.length ≤ 4
  | [], _, h => h
  | b :: r, _, _ => recF_len r _ (decR_spec b).1
/-- what the journal's records say -/
abbrev recO (key : Nat) (S : DG) : List Nat × Nat × Bool := recF ([], 0, true) (parseL (S.bs (nmB key 0))).1
/-- the disk behind the journal's Open -/
abbrev opS (key : Nat) (S : DG) : DG := (S.opened (nmB key 0)).1
/-- what Open answers -/
def OpenA (w : World) (d key : Nat) (S : DG) (G : Nat → Prop) (e : Ending) (w' : World) : Prop :=
  Turn G w w' ∧
    (((S.opened (nmB key 0)).2 ≠ 0 ∧ e = .returned (.tuple #[.pointer none, .int .i64 (S.opened (nmB key 0)).2]) ∧ IsDisk w' d (opS key S) (grow G w w')) ∨
     ((S.opened (nmB key 0)).2 = 0 ∧ ((recO key S).2.2 = false ∨ rrL key (opS key S) (recO key S).1 [] = none) ∧ e = .returned (.tuple #[.pointer none, .int .i64 8]) ∧ IsDisk w' d (opS key S) (grow G w w')) ∨
     ((S.opened (nmB key 0)).2 = 0 ∧ (recO key S).2.2 = true ∧ ∃ P ns l', rrL key (opS key S) (recO key S).1 [] = some P ∧ (opS key S).Lists ns ∧ l'.Perm (leftL key (recO key S).1 ns) ∧ (l'.Pairwise fun p q => p ≤ q) ∧
       (((remS key (opS key S) l').2 ≠ 0 ∧ e = .returned (.tuple #[.pointer none, .int .i64 (remS key (opS key S) l').2]) ∧ IsDisk w' d (remS key (opS key S) l').1 (grow G w w')) ∨
        ((remS key (opS key S) l').2 = 0 ∧ ∃ m j, e = .returned (.tuple #[.pointer (some ⟨m, 0, none⟩), .int .i64 0]) ∧ MS (grow G w w') w' m d j ⟨key, (recO key S).1, (recO key S).2.1, P, false⟩ (parseL (S.bs (nmB key 0))).1 (parseL (S.bs (nmB key 0))).2.1 false (remS key (opS key S) l').1))))

set_option maxRecDepth 100000 in
set_option maxHeartbeats 8000000 in
theorem yopen_any (w : World) (d key : Nat) (S : DG) (G : Nat → Prop) (hd : IsDisk w d S G) (hk0 : key ≠ 0) (hkey : key < 18446744073709551616)
    (hbs : (S.bs (nmB key 0)).length ≤ 4194304) (hw : S.wr < 4000000000000000000) (hn : S.n ≤ 1000000)
    (hnm : ∀ x, ((opS key S).f x).isSome = true → x.length ≤ 32) (hn1 : (opS key S).n ≤ 1000000) (hw1 : (opS key S).wr < 4000000000000000000)
    (hruns : ∀ x ∈ (recO key S).1, x < 100) (hbr : ∀ x ∈ (recO key S).1, ((opS key S).bs (nmB key x)).length ≤ 4194304)
    (hleft : ∀ ns, (opS key S).Lists ns → (leftL key (recO key S).1 ns).length ≤ 1000 ∧ ∀ x ∈ leftL key (recO key S).1 ns, x < 100) :
    Calls Tryz.prog 10 #[.pointer (some ⟨d, 0, none⟩), .int .u64 (key : Int)] w (OpenA w d key S G) := by
  have hfn := fileName_any key 0 w hkey (by omega)
  have HD : Hid (IsDisk w d S G ∧ ∀ k, G k → k < w.heap.size) := ⟨hd, hd.lt⟩
  have i0 : ((key : Int) == 0) = false := by simp; omega
  clear hd
  go_enter Tryz.func10, Tryz.ntmps10
  go_wp2_with fail
  refine hfn.mono ?_
  clear hfn
  rintro e w1 ⟨rfl, hB1⟩
  have hjo := jopen_any w1 d S G (nm0 key) (HD.out.1.below hB1) (Nat.le_trans (nm_len key 0 (by omega)) (by decide)) (by rw [nm_list]; exact hbs) (by omega) (by unfold maxLen; omega)
  unfold Opened at hjo
  rw [nm_list] at hjo
  have HB1 : Hid (Below w.heap.size w w1) := hB1
  clear hB1
  go_wp2_with fail
  refine hjo.mono ?_
  clear hjo
  rintro e w2 ⟨hT2, G', hd2, hG', hcase⟩
  have H2 : Hid (Turn G w w2 ∧ IsDisk w2 d (opS key S) G' ∧ (∀ k, G' k → G k ∨ w.heap.size ≤ k) ∧ w.heap.size ≤ w2.heap.size ∧ ∀ k, G' k → k < w2.heap.size) := ⟨(Turn.of_below G HB1.out).trans hT2 (fun _ _ e => e), hd2, fun k hk => (hG' k hk).imp id (fun h => by have := HB1.out.size; omega), by have := HB1.out.size; have := hT2.size; omega, hd2.lt⟩
  clear hd2 hG'
  rcases hcase with ⟨hne, rfl⟩ | ⟨h0, j, FJ, rfl, hJ, hFJ, hFG⟩
  · obtain ⟨er, her⟩ : ∃ er, er = (S.opened (nmB key 0)).2 := ⟨_, rfl⟩
    rw [← her] at hne ⊢
    have i1 : (er != 0) = true := by simpa using hne
    have HZ : Hid (OpenA w d key S G (.returned (.tuple #[.pointer none, .int .i64 er])) w2) := ⟨H2.out.1, .inl ⟨by rw [← her]; exact hne, by rw [← her], H2.out.2.1.wide (fun k hk => (H2.out.2.2.1 k hk).imp id (fun h => ⟨h, H2.out.2.2.2.2 k hk⟩)) (fun k hk => by
      rcases hk with hk | hk
      · have := HD.out.2 k hk; have := H2.out.2.2.2.1; omega
      · exact hk.2)⟩⟩
    clear her hne hT2
    go_wp2
    go_ret2
    exact HZ.out
  · have HJ : Hid (JAt w2 j d (nm0 key) (parseL (S.bs (nmB key 0))).1 (parseL (S.bs (nmB key 0))).2.1 false FJ ∧ (∀ k, FJ k → w.heap.size ≤ k) ∧ (∀ k, FJ k → ¬ G' k) ∧ (S.opened (nmB key 0)).2 = 0) := ⟨hJ, fun k hk => by have := hFJ k hk; have := HB1.out.size; omega, hFG, h0⟩
    clear hJ hFJ hFG h0 hT2
    go_wp2_with fail
    have hs2 := H2.out.2.2.2.1
    obtain ⟨w3, hw3⟩ : ∃ w3, w3 = w2.alloc (.cells #[.pointer (some ⟨d, 0, none⟩), .int .u64 (key : Int), .pointer (some ⟨j, 0, none⟩), .slice none 0 0, .int .i64 0, .slice none 0 0, .bool false] 91) := ⟨_, rfl⟩
    have hB3 : Below w2.heap.size w2 w3 := by rw [hw3]; exact (Below.refl _ _).alloc (Nat.le_refl _) _
    have hs3 : w3.heap.size = w2.heap.size + 1 := by rw [hw3]; simp
    have hM3 : MeAt w3 w2.heap.size d j ⟨key, [], 0, [], false⟩ (.slice none 0 0) none 0 (fun k => k = w2.heap.size) := {
      box := by rw [hw3]; exact World.alloc_heap_new w2 _
      row := World.ownsRow_nil _ _ _ _
      prs := ⟨⟨rfl, fun h => by cases h⟩, fun _ => ⟨rfl, rfl⟩, Nat.le_refl _⟩
      ris := List.Pairwise.nil
      ok := fun p hp => by cases hp
      small := Nat.zero_le _
      fm := rfl
      fr := fun k e => by cases e
      fp := fun h0 => by cases h0
      lt := fun k e => by omega }
    have hrr : Calls Tryz.prog 38 #[.pointer (some ⟨w2.heap.size, 0, none⟩)] w3 (fun e w' => e = .returned (.bool (recO key S).2.2) ∧ Turn (fun k => k = w2.heap.size) w3 w' ∧ ∃ vr pa pc F', MeAt w' w2.heap.size d j ⟨key, (recO key S).1, (recO key S).2.1, [], false⟩ vr pa pc F' ∧ ∀ k, F' k → k = w2.heap.size ∨ w3.heap.size ≤ k) :=
      (readRecords_any w3 w2.heap.size d j ⟨key, [], 0, [], false⟩ _ none 0 _ hM3 (nm0 key) _ _ false FJ (HJ.out.1.kept hB3.size (fun k hk => hB3.block k (HJ.out.1.lt k hk))) (fun k hk hf => by have := HJ.out.1.lt k hf; omega)).mono fun e w' h => ⟨h.1, h.2.1, by obtain ⟨vr, F', h1, h2⟩ := h.2.2; exact ⟨vr, none, 0, F', h1, h2⟩⟩
    have HR4 : Hid ((recO key S).1.length ≤ 4) := recF_len _ _ (Nat.zero_le _)
    rw [← hw3]
    clear hw3 hM3
    refine hrr.mono ?_
    clear hrr
    rintro e w4 ⟨rfl, hT4, vr, pa4, pc4, F4, hM4, hF4⟩
    have H4 : Hid (Turn (fun k => k = w2.heap.size) w2 w4 ∧ MeAt w4 w2.heap.size d j ⟨key, (recO key S).1, (recO key S).2.1, [], false⟩ vr pa4 pc4 F4 ∧ (∀ k, F4 k → w2.heap.size ≤ k)) := ⟨(Turn.of_below _ hB3).trans hT4 (fun _ _ e => e), hM4, fun k hk => by have := hF4 k hk; omega⟩
    clear hT4 hM4 hF4 hB3 hs3
    have hbad : ∀ W, Turn (fun k => k = w2.heap.size) w2 W → ((recO key S).2.2 = false ∨ rrL key (opS key S) (recO key S).1 [] = none) → OpenA w d key S G (.returned (.tuple #[.pointer none, .int .i64 8])) W := fun W hT hb => by
      have hsz := hT.size
      refine ⟨H2.out.1.trans hT (fun i hi e => by omega), .inr (.inl ⟨HJ.out.2.2.2, hb, rfl, (H2.out.2.1.turn hT (fun k hk e => by have := H2.out.2.2.2.2 k hk; omega)).wide (fun k hk => (H2.out.2.2.1 k hk).imp id (fun h => ⟨h, by have := H2.out.2.2.2.2 k hk; omega⟩)) (fun k hk => ?_)⟩)⟩
      rcases hk with hk | hk
      · have := HD.out.2 k hk; omega
      · exact hk.2
    have HBAD : Hid (∀ W, Turn (fun k => k = w2.heap.size) w2 W → ((recO key S).2.2 = false ∨ rrL key (opS key S) (recO key S).1 [] = none) → OpenA w d key S G (.returned (.tuple #[.pointer none, .int .i64 8])) W) := hbad
    clear hbad
    cases hsd : (recO key S).2.2 with
    | false =>
      have HZ : Hid (OpenA w d key S G (.returned (.tuple #[.pointer none, .int .i64 8])) w4) := HBAD.out w4 H4.out.1 (.inl hsd)
      clear hsd
      go_wp2
      go_ret2
      exact HZ.out
    | true =>
      have HSD : Hid ((recO key S).2.2 = true) := hsd
      have hru := readRuns_any w4 w2.heap.size d j _ vr pa4 pc4 F4 H4.out.2.1 (opS key S) G' (H2.out.2.1.turn H4.out.1 (fun k hk e => by have := H2.out.2.2.2.2 k hk; omega)) (fun k hk hg => by have := H2.out.2.2.2.2 k hg; have := H4.out.2.2 k hk; omega) hkey hruns HR4.out (Nat.zero_le _) hbr
      simp only at hru
      clear hsd
      go_wp2_with fail
      refine hru.mono ?_
      clear hru
      rintro e w5 ⟨rfl, hT5, hP⟩
      have hT25 : Turn (fun k => k = w2.heap.size) w2 w5 := H4.out.1.trans hT5 (fun _ _ e => e)
      cases hR : rrL key (opS key S) (recO key S).1 [] with
      | none =>
        have HZ : Hid (OpenA w d key S G (.returned (.tuple #[.pointer none, .int .i64 8])) w5) := HBAD.out w5 hT25 (.inr hR)
        clear hR hP hT5 hT25
        go_wp2
        go_ret2
        exact HZ.out
      | some P =>
        obtain ⟨pa5, pc5, F5, hM5, hF5⟩ := hP P hR
        simp only at hM5
        have H5 : Hid (Turn (fun k => k = w2.heap.size) w2 w5 ∧ MeAt w5 w2.heap.size d j ⟨key, (recO key S).1, (recO key S).2.1, P, false⟩ vr pa5 pc5 F5 ∧ (∀ k, F5 k → w2.heap.size ≤ k) ∧ rrL key (opS key S) (recO key S).1 [] = some P ∧ IsDisk w5 d (opS key S) G') := ⟨hT25, hM5, fun k hk => by
          rcases hF5 k hk with h | h
          · exact H4.out.2.2 k h
          · have := H4.out.1.size; omega, hR, H2.out.2.1.turn hT25 (fun k hk e => by have := H2.out.2.2.2.2 k hk; omega)⟩
        clear hR hP hT5 hT25 hM5 hF5
        have hlf := yleft_any w5 w2.heap.size d j _ vr pa5 pc5 F5 H5.out.2.1 (opS key S) G' H5.out.2.2.2.2 hnm hn1 (by have := HR4.out; simp only; omega)
        simp only at hlf
        go_wp2_with fail
        refine hlf.mono ?_
        clear hlf
        rintro e w6 ⟨ns, ad, c, hLs, rfl, hown, hB6⟩
        obtain ⟨hl1, hl2⟩ := hleft ns hLs
        have hM6 := H5.out.2.1.below hB6
        have hrb := nrow_block hown
        have hs5 := H5.out.1.size
        have hm5 : w2.heap.size < w5.heap.size := H5.out.2.1.mlt
        have hrm := remove_anyY w6 w2.heap.size d key hkey hM6.cells.1 hM6.cells.2.1 (opS key S) G' (H5.out.2.2.2.2.below hB6) (fun hg => by have := H2.out.2.2.2.2 _ hg; omega) ad (leftL key (recO key S).1 ns).length c _ (nrow_ns hown) hl1 hl2 (fun e => by
            rcases hown.2 with ⟨_, h⟩ | ⟨z, _, _, h, _⟩
            · exact h
            · rw [e] at h; cases h) (fun x e => by
            rcases hown.2 with ⟨h, _⟩ | ⟨z, cap, cur, h, hz, hc, _⟩
            · rw [e] at h; cases h
            · rw [e] at h
              cases h
              exact ⟨rfl, (Array.getElem?_eq_some_iff.1 hc).1, fun i => by simp [World.frozen?, hc], by have h1 : w5.heap.size ≤ z := hz; show z ≠ w2.heap.size; omega, fun hg => by have h1 : w5.heap.size ≤ z := hz; have h2 : z < w2.heap.size := H2.out.2.2.2.2 z hg; omega⟩) hw1
        have H6 : Hid ((opS key S).Lists ns ∧ Below w5.heap.size w5 w6 ∧ ∀ k, ad.map (·.block) = some k → w5.heap.size ≤ k) := ⟨hLs, hB6, fun k e => by
          cases ad with
          | none => cases e
          | some x => cases e; exact (hrb x.block rfl).1⟩
        clear hLs hl1 hl2 hM6 hrb hown hB6
        generalize (leftL key (recO key S).1 ns).length = NL at *
        go_wp2_with fail
        refine hrm.mono ?_
        clear hrm
        rintro e w7 ⟨l', hpm, hsr, rfl, G7, hd7, hG7, hT7⟩
        have hs6 := H6.out.2.1.size
        have hs7 := hT7.size
        have hTT : Turn G w w7 := ((H2.out.1.trans H5.out.1 (fun i hi e => by omega)).trans (Turn.of_below G H6.out.2.1) (fun _ _ e => e)).trans hT7 (fun i hi e => by
          rcases e with e | e
          · rcases H2.out.2.2.1 i e with h | h
            · exact h
            · omega
          · have := H6.out.2.2 i e; omega)
        have hgr : ∀ k, G7 k → grow G w w7 k := fun k hk => by
          have hlt := hd7.lt k hk
          rcases hG7 k hk with h | h
          · exact (H2.out.2.2.1 k h).imp id (fun h => ⟨h, hlt⟩)
          · exact .inr ⟨by omega, hlt⟩
        obtain ⟨er, her⟩ : ∃ er, er = (remS key (opS key S) l').2 := ⟨_, rfl⟩
        rw [← her]
        by_cases he : er = 0
        · have HZ : Hid (OpenA w d key S G (.returned (.tuple #[.pointer (some ⟨w2.heap.size, 0, none⟩), .int .i64 0])) w7) := by
            have hX : ∀ k, F5 k → ¬ (G' k ∨ ad.map (·.block) = some k) := fun k hk hx => by
              have h1 := H5.out.2.2.1 k hk
              have h2 := H5.out.2.1.lt k hk
              rcases hx with hx | hx
              · have := H2.out.2.2.2.2 k hx; omega
              · have := H6.out.2.2 k hx; omega
            have hJl := HJ.out.1.lt
            refine ⟨hTT, .inr (.inr ⟨HJ.out.2.2.2, HSD.out, P, ns, l', H5.out.2.2.2.1, H6.out.1, hpm, hsr, .inr ⟨by rw [← her]; exact he, w2.heap.size, j, rfl, vr, pa5, pc5, F5, FJ, G7, (H5.out.2.1.below H6.out.2.1).turn hT7 hX, ?_, hd7, fun k hk => ⟨fun hf => ?_, fun hg => ?_⟩, fun k hk hg => ?_, fun k hk => ?_⟩⟩)⟩
            · refine HJ.out.1.kept (by omega) (fun k hk => ?_)
              have h1 := hJl k hk
              rw [hT7.block k (by omega) (fun hx => by
                rcases hx with hx | hx
                · exact HJ.out.2.2.1 k hk hx
                · have := H6.out.2.2 k hx; omega), H6.out.2.1.block k (by omega), H5.out.1.block k h1 (by omega)]
            · have := H5.out.2.2.1 k hk; have := hJl k hf; omega
            · have h1 := H5.out.2.2.1 k hk
              have h2 := H5.out.2.1.lt k hk
              rcases hG7 k hg with h | h
              · have := H2.out.2.2.2.2 k h; omega
              · omega
            · have h1 := hJl k hk
              rcases hG7 k hg with h | h
              · exact HJ.out.2.2.1 k hk h
              · omega
            · rcases hk with hk | hk | hk
              · have h1 := H5.out.2.2.1 k hk
                have h2 := H5.out.2.1.lt k hk
                exact .inr ⟨by omega, by omega⟩
              · have h1 := hJl k hk
                exact .inr ⟨HJ.out.2.1 k hk, by omega⟩
              · exact hgr k hk
          subst he
          clear hpm hsr hd7 hG7 hT7 hTT hgr her
          go_wp2
          go_ret2
          exact HZ.out
        · have HZ : Hid (OpenA w d key S G (.returned (.tuple #[.pointer none, .int .i64 er])) w7) := ⟨hTT, .inr (.inr ⟨HJ.out.2.2.2, HSD.out, P, ns, l', H5.out.2.2.2.1, H6.out.1, hpm, hsr, .inl ⟨by rw [← her]; exact he, by rw [← her], hd7.wide hgr (fun k hk => by
            rcases hk with hk | hk
            · have := HD.out.2 k hk; omega
            · exact hk.2)⟩⟩)⟩
          have i5 : (er != 0) = true := by simpa using he
          clear hpm hsr hd7 hG7 hT7 hTT hgr her
          go_wp2
          go_ret2
          exact HZ.out
end Go.Proofs.YtdjodigimhgklaaGreatDoor

/- The memo's files on a disk that nobody cuts, plain. -/
namespace Go.Proofs.YtdjodigimhgklaaGreatDoor
open Go.RowKit Go.Shelf Go.Maps

theorem newsR_nil : ∀ (d acc : List Pr), newsR [] acc d = some (acc ++ d)
  | [], acc => by simp [newsR]
  | p :: r, acc => by
    have := newsR_nil r (acc ++ [p])
    simpa [newsR, newsS, lookP] using this
/-- the disk behind bytes appended, if nobody cuts it -/
def DG.freeApp (S : DG) (nm l : List UInt8) : DG := { S with wr := S.wr + (l.length + 31) / 32 }.add nm l
theorem app_free {S : DG} {nm l : List UInt8} (hc : S.cut = false) (hnm : nameB nm = true) (hl : l ≠ []) (hfit : l.length + (S.bs nm).length ≤ 4194304) (hn : S.f nm = none → S.n < 256) : S.app nm l = (S.freeApp nm l, 0) := by
  unfold DG.app
  rw [if_neg (by rw [hnm]; decide), if_neg (by
    rintro (e | ⟨e1, e2⟩)
    · omega
    · have := hn e1; omega), if_neg (by rintro ⟨_, e⟩; exact hl e), pieces_free _ S nm l hc (Nat.le_refl _), if_neg hl]
  rfl
theorem freeApp_f (S : DG) (nm l x : List UInt8) : (S.freeApp nm l).f x = if x = nm then some (S.bs nm ++ l) else S.f x := rfl
theorem freeApp_bs (S : DG) (nm l x : List UInt8) : (S.freeApp nm l).bs x = if x = nm then S.bs nm ++ l else S.bs x := by
  unfold DG.bs
  rw [freeApp_f]
  split
  · rfl
  · rfl
theorem freeApp_cut (S : DG) (nm l : List UInt8) : (S.freeApp nm l).cut = S.cut := rfl
theorem freeApp_wr (S : DG) (nm l : List UInt8) : (S.freeApp nm l).wr = S.wr + (l.length + 31) / 32 := rfl
theorem freeApp_n (S : DG) (nm l : List UInt8) : (S.freeApp nm l).n = if (S.f nm).isSome then S.n else S.n + 1 := rfl
theorem okTo_all (l : List UInt8) (h : ∀ c ∈ l, okc (c.toNat : Int) = true) : okTo l l.length = true := by
  simp only [okTo, List.all_eq_true, List.mem_range]
  intro j hj
  have := h l[j] (List.getElem_mem hj)
  unfold bt
  rw [List.getD_eq_getElem?_getD, List.getElem?_eq_getElem hj]
  exact this
/-- what a run's number adds to a name -/
abbrev sufB (n : Nat) : List UInt8 := if n = 0 then [] else 45 :: Lib.decDigits n
theorem nmB_ok (key n : Nat) (hn : n < 100) : nameB (nmB key n) = true := by
  have h1 := nmB_len key n hn
  have hh : ∀ v : Fin 16, okc ((UInt8.ofNat (hexd v.val)).toNat : Int) = true := by decide +kernel
  have hf : ∀ c ∈ ([109, 101, 109, 111, 45] : List UInt8), okc (c.toNat : Int) = true := by decide +kernel
  have hs : ∀ n : Fin 100, ∀ c ∈ sufB n.val, okc (c.toNat : Int) = true := by decide +kernel
  have hall : ∀ c ∈ nmB key n, okc (c.toNat : Int) = true := fun c hc => by
    unfold nmB at hc
    rcases List.mem_append.1 hc with hc | hc
    · rcases List.mem_append.1 hc with hc | hc
      · exact hf c hc
      · unfold hexOf at hc
        obtain ⟨j, _, rfl⟩ := List.mem_map.1 hc
        exact hh ⟨key / 16 ^ (15 - j) % 16, Nat.mod_lt _ (by omega)⟩
    · exact hs ⟨n, hn⟩ c hc
  have h0 : 1 ≤ (nmB key n).length := by
    unfold nmB
    rw [List.length_append, List.length_append, hexOf_len]
    omega
  unfold nameB
  rw [okTo_all _ hall, decide_eq_true h0, decide_eq_true (by omega : (nmB key n).length ≤ 32)]
  rfl
theorem nmB_num {key n m : Nat} (hn : n < 100) (hm : m < 100) (h : nmB key n = nmB key m) : n = m := by
  have hs : ∀ n m : Fin 100, sufB n.val = sufB m.val → n = m := by decide +kernel
  unfold nmB at h
  have := (List.append_inj h rfl).2
  exact congrArg Fin.val (hs ⟨n, hn⟩ ⟨m, hm⟩ this)
theorem run_ne (l : List Pr) : runB l ≠ [] := fun e => by
  have := congrArg List.length e
  rw [runB_len] at this
  simp at this
/-- one Add's writing on a disk that nobody cuts, while fewer than four runs count or as many: what it leaves -/
theorem lay_free {g : Me} {news : List Pr} {S : DG} (hc : S.cut = false) (htop : g.top + 1 < 100) (hbs : S.bs (nmB g.key (g.top + 1)) = []) (hN : (layN g news).length ≤ 65536) (hn : S.n < 255)
    (hjs : (S.bs (nmB g.key 0)).length ≤ 100000) (hR : (recB (encR (layR g))).length ≤ 100000) (hR0 : recB (encR (layR g)) ≠ []) :
    layS1 g news S = (S.freeApp (nmB g.key (g.top + 1)) (runB (layN g news)), 0) ∧ layS2 g news S = ((S.freeApp (nmB g.key (g.top + 1)) (runB (layN g news))).freeApp (nmB g.key 0) (recB (encR (layR g))), 0) := by
  have h1 : layS1 g news S = (S.freeApp (nmB g.key (g.top + 1)) (runB (layN g news)), 0) := by
    unfold layS1
    refine app_free hc (nmB_ok _ _ htop) (run_ne _) ?_ (fun _ => by omega)
    rw [hbs, runB_len]
    have := short_len (layN g news).length
    simp only [List.length_nil]
    omega
  refine ⟨h1, ?_⟩
  unfold layS2
  rw [h1]
  refine app_free hc (nmB_ok _ _ (by omega)) hR0 ?_ (fun _ => ?_)
  · rw [freeApp_bs, if_neg (fun e => by have := nmB_num (by omega) htop e; omega)]
    omega
  · rw [freeApp_n]
    split <;> omega
theorem nmB_drop21 (key n : Nat) : (nmB key n).drop 21 = sufB n := by
  unfold nmB
  rw [List.drop_append_of_le_length (by rw [List.length_append, hexOf_len]; decide)]
  rw [List.drop_eq_nil_of_le (by rw [List.length_append, hexOf_len]; decide), List.nil_append]
theorem nmB_mid (key n : Nat) : ((nmB key n).drop 5).take 16 = hexOf key := by
  unfold nmB
  rw [List.append_assoc, List.drop_append_of_le_length (by decide), List.drop_eq_nil_of_le (by decide), List.nil_append, List.take_append_of_le_length (Nat.le_of_eq (hexOf_len key).symm), List.take_of_length_le (Nat.le_of_eq (hexOf_len key))]
theorem suf_who : ∀ n : Fin 100, okTill (sufB n.val) (sufB n.val).length = true ∧ numTo (sufB n.val) (sufB n.val).length = n.val := by decide +kernel
theorem who_nm (key n : Nat) (hkey : key < 18446744073709551616) (hn : n < 100) : whoP (nmB key n) = (key, n) := by
  have h1 := hexOK_hexOf key
  have h2 : (unhexTo (hexOf key) 16).toNat = key := by rw [unhex_hex key hkey]; rfl
  unfold whoP
  rw [nmB_drop21, nmB_mid]
  have h3 := suf_who ⟨n, hn⟩
  have hl : ¬ (nmB key n).length < 21 := by
    unfold nmB
    rw [List.length_append, List.length_append, hexOf_len]
    simp
  have ht : (nmB key n).take 5 = [109, 101, 109, 111, 45] := by
    unfold nmB
    rw [List.append_assoc]
    rfl
  rw [if_neg (by
    rintro (e | e | e)
    · exact hl e
    · exact e ht
    · exact e h1), if_pos h3.1, h2, h3.2]
/-- a disk without files -/
abbrev emD : DG := ⟨fun _ => none, 0, 0, false, 0⟩
theorem emD_bs (x : List UInt8) : emD.bs x = [] := rfl
theorem emD_opened (nm : List UInt8) : emD.opened nm = (emD, 0) := by
  unfold DG.opened
  rw [emD_bs, parseL_nil]
  rfl
theorem emD_lists {ns : List (List UInt8)} (h : emD.Lists ns) : ns = [] := by
  obtain ⟨ks, _, _, hn, _, rfl⟩ := h
  rw [List.eq_nil_of_length_eq_zero hn]
  simp
theorem emD_rec (key : Nat) : recO key emD = ([], 0, true) := by
  show recF ([], 0, true) (parseL []).1 = _
  rw [parseL_nil]
  rfl
/-- Open of a disk without files: a memo that knows nothing -/
theorem open_empty {w w' : World} {d key : Nat} {G : Nat → Prop} {e : Ending} (h : OpenA w d key emD G e w') : Turn G w w' ∧ ∃ m j, e = .returned (.tuple #[.pointer (some ⟨m, 0, none⟩), .int .i64 0]) ∧ MS (grow G w w') w' m d j ⟨key, [], 0, [], false⟩ [] 0 false emD := by
  obtain ⟨hT, h⟩ := h
  have ho := emD_opened (nmB key 0)
  have hr := emD_rec key
  have hp : (parseL (emD.bs (nmB key 0))) = ([], 0, false) := parseL_nil
  have hs : opS key emD = emD := by
    show (emD.opened (nmB key 0)).1 = emD
    rw [ho]
  rw [ho, hr, hs, hp] at h
  refine ⟨hT, ?_⟩
  rcases h with ⟨h1, _⟩ | ⟨_, h1, _⟩ | ⟨_, _, P, ns, l', h1, h2, h3, _, h4⟩
  · exact absurd rfl h1
  · rcases h1 with h1 | h1
    · cases h1
    · cases h1
  · cases h1
    rw [emD_lists h2] at h3
    have hl : l' = [] := List.Perm.eq_nil h3
    subst hl
    rcases h4 with ⟨h4, _⟩ | ⟨_, h4⟩
    · exact absurd rfl h4
    · exact h4
theorem emD_open (w : World) (d key : Nat) (G : Nat → Prop) (hd : IsDisk w d emD G) (hk0 : key ≠ 0) (hkey : key < 18446744073709551616) :
    Calls Tryz.prog 10 #[.pointer (some ⟨d, 0, none⟩), .int .u64 (key : Int)] w fun e w' => Turn G w w' ∧ ∃ m j, e = .returned (.tuple #[.pointer (some ⟨m, 0, none⟩), .int .i64 0]) ∧ MS (grow G w w') w' m d j ⟨key, [], 0, [], false⟩ [] 0 false emD := by
  have hs : opS key emD = emD := by
    show (emD.opened (nmB key 0)).1 = emD
    rw [emD_opened]
  have hr := emD_rec key
  refine (yopen_any w d key emD G hd hk0 hkey (by rw [emD_bs]; decide) (by decide) (by decide) (by rw [hs]; intro x hx; cases hx) (by rw [hs]; decide) (by rw [hs]; decide) (by rw [hr]; intro x hx; cases hx) (by rw [hr]; intro x hx; cases hx) (by
    rw [hs, hr]
    intro ns hns
    rw [emD_lists hns]
    exact ⟨Nat.zero_le _, fun x hx => by cases hx⟩)).mono fun e w' h => open_empty h
end Go.Proofs.YtdjodigimhgklaaGreatDoor

/- The memo's first Add on an empty disk. -/
namespace Go.Proofs.YtdjodigimhgklaaGreatDoor
open Go.RowKit Go.Shelf Go.Maps

theorem layR_free {g : Me} {news : List Pr} {rs : List (List UInt8)} {sz : Nat} {S : DG} {er : Int} {g' : Me} {rs' : List (List UInt8)} {sz' : Nat} {jc' : Bool} {S' S1 S2 : DG} (h4 : g.runs.length < 4) (h1 : layS1 g news S = (S1, 0)) (h2 : layS2 g news S = (S2, 0)) (h : LayR g news rs sz S er g' rs' sz' jc' S') :
    er = 0 ∧ g' = layG g news ∧ rs' = rs ++ [encR (layR g)] ∧ sz' = sz + (recB (encR (layR g))).length ∧ jc' = false ∧ S' = S2 := by
  unfold LayR at h
  rw [h1, h2] at h
  rcases h with ⟨h, _⟩ | ⟨_, h, _⟩ | ⟨_, _, l', hp, _, he, hg, hr, hs, hj, hS⟩
  · exact absurd rfl h
  · exact absurd rfl h
  · have : layO g = [] := by unfold layO; rw [if_neg (by omega)]
    rw [this] at hp
    have hl : l' = [] := List.Perm.eq_nil hp
    subst hl
    exact ⟨he, hg, hr, hs, hj, hS⟩
theorem mergeM_nil : ∀ d : List Pr, Ris d → ∀ x, lookP (mergeM [] d) x = lookP d x := fun d hd x => by
  rw [mergeM_look List.Pairwise.nil hd (fun p _ => rfl)]
  rfl
/-- the first Add of a memo that knows nothing, on an empty disk, of pairs that may be a run -/
theorem add_first {l : List Pr} {key : Nat} {er : Int} {g' : Me} {rs' : List (List UInt8)} {sz' : Nat} {jc' : Bool} {S' : DG} (h0 : ∀ p ∈ l, p.1 ≠ 0) (ho : Once l) (hne : l ≠ []) (hR : (recB (encR [1])).length ≤ 100000) (hR0 : recB (encR [1]) ≠ []) (h : AddR ⟨key, [], 0, [], false⟩ l [] 0 false emD er g' rs' sz' jc' S') :
    er = 0 ∧ g'.ps.length = l.length ∧ (∀ x, lookP g'.ps x = lookP l x) ∧ g'.failed = false := by
  rcases h with ⟨_, h⟩ | ⟨_, _, _, d, news, g1, hg, hp, hnw, hn0, hlen, hL, rfl⟩
  · rcases h with ⟨h, _⟩ | ⟨_, ⟨p, hp, h⟩, _⟩ | ⟨_, _, h, _⟩ | ⟨_, _, _, d, hg, hp, h⟩
    · cases h
    · exact absurd h (h0 p hp)
    · exact absurd ho h
    · rcases h with ⟨h, _⟩ | ⟨h, _⟩ | ⟨news, h, _, hbig, _⟩
      · rw [newsR_nil] at h; cases h
      · rw [newsR_nil] at h
        simp at h
        subst h
        exact absurd (List.Perm.eq_nil hp.symm) hne
      · rw [newsR_nil] at h
        simp at h
        subst h
        have := hg.len
        simp at hbig
        omega
  · rw [newsR_nil] at hnw
    simp at hnw
    subst hnw
    have hris := ((risF_iff d 0).1 hg.ris).1
    have hlay := lay_free (g := ⟨key, [], 0, [], false⟩) (news := d) (S := emD) rfl (by show 0 + 1 < 100; omega) rfl (by show d.length ≤ 65536; exact hg.len) (by decide) (Nat.zero_le _) hR hR0
    obtain ⟨rfl, rfl, _⟩ := layR_free (by show 0 < 4; omega) hlay.1 hlay.2 hL
    refine ⟨rfl, ?_, fun x => ?_, rfl⟩
    · show (mergeM [] d).length = l.length
      rw [mergeM_len, ← hp.length_eq]
      simp
    · show lookP (mergeM [] d) x = lookP l x
      rw [mergeM_nil d hris]
      exact look_perm hris.once hp x
end Go.Proofs.YtdjodigimhgklaaGreatDoor
