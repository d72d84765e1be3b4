import Derived.Test.YtiafhbpklddlnaaR46
/- The walk of the law's wakes. -/
namespace Go.Proofs.Ytiafhbpklddlnaa
open Go.RowKit Go.Shelf Go.Maps

attribute [local go_sem] Oper.semAt_some

theorem refNm_name : nameB refNm.data.toList = true := by decide
theorem refNm_size : refNm.size ≤ maxLen := by simp [refNm, ByteArray.size, maxLen]
/-- Refs of a new disk -/
theorem ropen_new (w : World) (d : Nat) (S : DG) (G : Nat → Prop) (hd : IsDisk w d S G) (hg : JGd S refNm.data.toList []) :
    Calls Try.prog 7 #[.pointer (some ⟨d, 0, none⟩)] w fun e w' => ∃ r j b M FJ F G', e = .returned (.tuple #[.pointer (some ⟨r, 0, none⟩), .int .i64 0]) ∧ RfAt w' r d j b M [] (fun _ => 0) 0 0 false FJ F ∧ IsDisk w' d S G' ∧ Turn G w w' ∧ (∀ k, F k → w.heap.size ≤ k) ∧ (∀ k, G' k → G k ∨ w.heap.size ≤ k) ∧ (∀ k, F k → ¬ G' k) := by
  have hSn := hg.n
  have hwr := hg.wr
  have hf0 : (fileB []).length = 0 := rfl
  obtain ⟨ho, hpa⟩ := hg.opened
  refine (ropen_any w d S G (fun _ => none) (by rw [hpa]; intro p hp; cases hp) hd (by rw [hg.get]; simp [fileB]) (by omega) (by unfold maxLen; omega)).mono ?_
  rintro e w' ⟨hT, G', hd', hG', hc⟩
  rw [ho] at hd' hc
  rw [hpa] at hc
  rcases hc with ⟨h0, _⟩ | ⟨_, h0, _⟩ | ⟨_, g, n, r, j, b, M, FJ, F, h0, h1, he, hR, hF, hFG⟩
  · exact absurd rfl h0
  · cases h0
  · have h2 : noR = (g, n) := Option.some.inj h0
    obtain ⟨rfl, rfl⟩ : (fun _ => (0 : Int)) = g ∧ 0 = n := ⟨congrArg Prod.fst h2, congrArg Prod.snd h2⟩
    exact ⟨r, j, b, M, FJ, F, G', he, hR, hd', hT, hF, hG', hFG⟩
/-- "a/b" -/
def abS : ByteArray := ⟨#[97, 47, 98]⟩
theorem ab_chk : chkR (fun _ => 0) 0 [(abS, 7)] = 0 := by kernel_rfl
theorem ab_news : newsR (fun _ => 0) [(abS, 7)] = [(abS, 7)] := by decide
theorem ab_apply : applyR (fun _ => 0, 0) [(abS, 7)] = (setR (fun _ => 0) (bs abS) 7, 1) := by simp [applyR, stepR]
theorem ab_len : (encR [(abS, 7)]).length ≤ 1000 := by decide
theorem rset_ab (w2 : World) (r d j b : Nat) (M : DataW Value) (FJ F G : Nat → Prop) (h : RfAt w2 r d j b M [] (fun _ => 0) 0 0 false FJ F) (hd : IsDisk w2 d ⟨fun _ => none, 0, 0, false, 0⟩ G) (hFG : ∀ k, F k → ¬ G k) :
    Calls Try.prog 8 #[.pointer (some ⟨r, 0, none⟩), .slice (some ⟨w2.heap.size, 0, none⟩) 1 1] (w2.alloc (.cells #[.string abS, .int .u64 7] 31)) fun e w' => e = .returned (.int .i64 0) ∧ Turn (fun k => F k ∨ G k) (w2.alloc (.cells #[.string abS, .int .u64 7] 31)) w' ∧ ∃ M' rs sz FJ' F', RfAt w' r d j b M' rs (setR (fun _ => 0) (bs abS) 7) 1 sz false FJ' F' := by
  have hB : Below w2.heap.size w2 (w2.alloc (.cells #[.string abS, .int .u64 7] 31)) := (Below.refl _ w2).alloc (Nat.le_refl _) _
  have hg := JGd.new refNm.data.toList
  obtain ⟨S', ha, _⟩ := hg.app refNm_name (encR [(abS, 7)]) (by have := ab_len; omega) (by have h1 := (recB_pos (encR [(abS, 7)])).2; have h2 := ab_len; have h3 : (fileB []).length = 0 := rfl; omega)
  have d0 : (w2.alloc (.cells #[.string abS, .int .u64 7] 31)).cell? ⟨w2.heap.size, 0, none⟩ = some (.string abS) := by simp only [World.cell?, World.alloc_heap_new]; rfl
  have d1 : (w2.alloc (.cells #[.string abS, .int .u64 7] 31)).cell? ⟨w2.heap.size, 1, none⟩ = some (.int .u64 7) := by simp only [World.cell?, World.alloc_heap_new]; rfl
  have hx := rset_new _ r d j b M [] (fun _ => 0) 0 0 FJ F (h.below hB) _ G (hd.below hB) hFG (some ⟨w2.heap.size, 0, none⟩) 1 1 [(abS, 7)] ⟨rfl, fun _ => ⟨w2.heap.size, 0, rfl, fun k x hx => by
      match k, hx with
      | 0, hx => simp at hx; subst hx; exact ⟨d0, d1⟩
      | k + 1, hx => simp at hx⟩⟩ (fun k x hx => by
      match k, hx with
      | 0, hx => simp at hx; subst hx; decide
      | k + 1, hx => simp at hx) (fun x hx => by simp at hx; subst hx; decide) (by omega) (by omega) ab_chk (by rw [ab_news]; simp) (by rw [hg.get]; simp [fileB]) (by omega) (by simp) (by simp)
  rw [ab_news, ha] at hx
  refine hx.mono ?_
  rintro e w' ⟨he, hT, M', FJ', G', hd', _, _, _, hc⟩
  refine ⟨he, hT.wide (fun k hk => ?_), ?_⟩
  · rcases hk with hk | hk | hk
    · exact .inl (h.fj k hk)
    · exact .inr hk
    · exact .inl (hk ▸ h.fs.2)
  · rcases hc with ⟨_, hR⟩ | ⟨h0, _⟩
    · rw [ab_apply] at hR
      exact ⟨M', _, _, FJ', _, hR⟩
    · exact absurd rfl h0

set_option maxRecDepth 100000 in
set_option maxHeartbeats 4000000 in
theorem rwakes_any (w : World) : Calls Try.prog 6 #[] w fun e w' => e = .returned (.bool true) ∧ Below w.heap.size w w' := by
  have hn := new_any w
  have HOP : Hid (∀ W d S G, IsDisk W d S G → JGd S refNm.data.toList [] → Calls Try.prog 7 #[.pointer (some ⟨d, 0, none⟩)] W fun e w' => ∃ r j b M FJ F G', e = .returned (.tuple #[.pointer (some ⟨r, 0, none⟩), .int .i64 0]) ∧ RfAt w' r d j b M [] (fun _ => 0) 0 0 false FJ F ∧ IsDisk w' d S G' ∧ Turn G W w' ∧ (∀ k, F k → W.heap.size ≤ k) ∧ (∀ k, G' k → G k ∨ W.heap.size ≤ k) ∧ (∀ k, F k → ¬ G' k)) := fun W d S G hd hg => ropen_new W d S G hd hg
  have HSET : Hid (∀ (w2 : World) (r d j b : Nat) (M : DataW Value) (FJ F G : Nat → Prop), RfAt w2 r d j b M [] (fun _ => 0) 0 0 false FJ F → IsDisk w2 d ⟨fun _ => none, 0, 0, false, 0⟩ G → (∀ k, F k → ¬ G k) → Calls Try.prog 8 #[.pointer (some ⟨r, 0, none⟩), .slice (some ⟨w2.heap.size, 0, none⟩) 1 1] (w2.alloc (.cells #[.string ⟨#[97, 47, 98]⟩, .int .u64 7] 31)) fun e w' => e = .returned (.int .i64 0) ∧ Turn (fun k => F k ∨ G k) (w2.alloc (.cells #[.string ⟨#[97, 47, 98]⟩, .int .u64 7] 31)) w' ∧ ∃ M' rs sz FJ' F', RfAt w' r d j b M' rs (setR (fun _ => 0) (bs abS) 7) 1 sz false FJ' F') := rset_ab
  go_enter Try.func6, Try.ntmps6
  go_wp2_with first
    | (go_at_call 13; refine hn.mono ?_; clear hn; rintro e w1 ⟨rfl, hd, hB1⟩; have HD : Hid (IsDisk w1 (w.heap.size + 1) ⟨fun _ => none, 0, 0, false, 0⟩ (fun k => k = w.heap.size ∨ k = w.heap.size + 1) ∧ Below w.heap.size w w1) := ⟨hd, hB1⟩; clear hd hB1)
    | (go_at_call 7; refine (HOP.out _ _ _ _ HD.out.1 (JGd.new _)).mono ?_; clear HOP; rintro e w2 ⟨r, j, b, M, FJ, F, G2, rfl, hR, hd2, hT2, hF2, hG2, hFG2⟩; have H2 : Hid (RfAt w2 r (w.heap.size + 1) j b M [] (fun _ => 0) 0 0 false FJ F ∧ IsDisk w2 (w.heap.size + 1) ⟨fun _ => none, 0, 0, false, 0⟩ G2 ∧ (∀ k, F k ∨ G2 k → w.heap.size ≤ k) ∧ (∀ k, F k → ¬ G2 k) ∧ Below w.heap.size w w2) := ⟨hR, hd2, (fun k hk => hk.elim (fun h => Nat.le_trans HD.out.2.size (hF2 k h)) (fun h => (hG2 k h).elim (fun h => by omega) (fun h => Nat.le_trans HD.out.2.size h))), hFG2, HD.out.2.trans (hT2.below HD.out.2.size (fun k hk => by omega))⟩; clear hR hd2 hT2 hF2 hG2 hFG2)
    | (go_at_call 8; refine (HSET.out _ _ _ _ _ _ _ _ _ H2.out.1 H2.out.2.1 H2.out.2.2.2.1).mono ?_; clear HSET; rintro e w3 ⟨rfl, hT3, M3, rs3, sz3, FJ3, F3, hR3⟩; have hB23 : Below w.heap.size w (w2.alloc (.cells #[.string abS, .int .u64 7] 31)) := H2.out.2.2.2.2.alloc H2.out.2.2.2.2.size _; have hget := rget_any w3 r _ j b M3 rs3 _ _ sz3 false FJ3 F3 hR3 abS (by decide); rw [show setR (fun _ => (0 : Int)) (bs abS) 7 (bs abS) = 7 from by simp [setR], if_neg (by decide)] at hget; have hlen := rlen_any w3 r _ j b M3 rs3 _ _ sz3 false FJ3 F3 hR3; have H3 : Hid (Below w.heap.size w w3) := hB23.trans (hT3.below hB23.size H2.out.2.2.1); clear hR3 hT3 hB23; unfold abS at hget)
    | (go_at_call 9; refine hget.mono ?_; clear hget; rintro e w4 ⟨rfl, h4⟩; subst h4)
    | (go_at_call 12; refine hlen.mono ?_; clear hlen; rintro e w5 ⟨rfl, h5⟩; subst h5)
  go_ret
  exact ⟨rfl, H3.out⟩
end Go.Proofs.Ytiafhbpklddlnaa
