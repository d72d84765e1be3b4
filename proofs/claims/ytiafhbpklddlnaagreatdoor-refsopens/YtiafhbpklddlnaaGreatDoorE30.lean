import Derived.Test.YtiafhbpklddlnaaGreatDoorE29
import Derived.Test.YtiafhbpklddlnaaGreatDoorE12
import Derived.Test.YtiafhbpklddlnaaGreatDoorE28
/- Plain: what encode writes, decode reads. -/
namespace Go.Proofs.YtiafhbpklddlnaaGreatDoor
open Go.RowKit

theorem rword_of {l r : List UInt8} {p X : Nat} (h : l.drop p = wide X ++ r) (hX : X < 18446744073709551616) (hp : p ≤ l.length) : wordR l p 0 = ((X : Int), p + 8, 0) := by
  have hl := congrArg List.length h
  rw [List.length_drop, List.length_append, wide_len8] at hl
  unfold wordR
  rw [if_neg (by simp), if_neg (by omega), h, List.take_append_of_le_length (by rw [wide_len8]; omega), List.take_of_length_le (by rw [wide_len8]; omega)]
  have := wideVal_wide X [] 8 (by omega) (by omega)
  rw [List.append_nil] at this
  rw [this]
  simp
theorem ruint_of {l r : List UInt8} {p X : Nat} (h : l.drop p = short X ++ r) (hX : X < 18446744073709551616) : uintR l p 0 = ((X : Int), p + (short X).length, 0) := by
  unfold uintR
  rw [if_neg (by simp), h, num_short_app X hX r, if_pos rfl]
theorem rtext_of {l r : List UInt8} {p : Nat} {m : Int} {s : ByteArray} (h : l.drop p = (short s.size ++ s.data.toList) ++ r) (hm : (s.size : Int) ≤ m) (hs : s.size < 18446744073709551616) : textR l p 0 m = (s, p + (short s.size ++ s.data.toList).length, 0) := by
  have hsl : s.data.toList.length = s.size := Array.length_toList
  rw [List.append_assoc] at h
  have hn := num_short_app s.size hs (s.data.toList ++ r)
  have ht := txt_ok (short s.size ++ (s.data.toList ++ r)) m (by omega) (by rw [hn]) (by rw [hn]; simp only; omega) (by rw [hn]; simp only [List.length_append]; omega)
  rw [hn] at ht
  simp only [Int.toNat_natCast] at ht
  unfold textR cutT
  rw [if_neg (by simp), h, ht, if_pos rfl]
  simp only
  have e : ((short s.size ++ (s.data.toList ++ r)).take ((short s.size).length + s.size)).drop (short s.size).length = s.data.toList := by
    rw [← List.append_assoc, List.take_append_of_le_length (by simp [hsl]), List.take_of_length_le (by simp [hsl]), List.drop_append]
    simp
  rw [e, List.length_append, hsl]
/-- a change that a record may say -/
def ChOk (x : Ch) : Prop := x.1.size ≤ 200 ∧ 0 ≤ x.2 ∧ x.2 ≤ 18446744073709551615
theorem chgs_of (l : List UInt8) : ∀ (L : List Ch) (p : Nat) (acc : List Ch) (r : List UInt8), l.drop p = chsB L ++ r → p ≤ l.length → (∀ x ∈ L, ChOk x) → chgsR L.length l p 0 acc = (acc ++ L, p + (chsB L).length, 0)
  | [], p, acc, r, _, _, _ => by simp [chgsR, chsB]
  | x :: L, p, acc, r, h, hp, hok => by
    obtain ⟨o1, o2, o3⟩ := hok x (List.mem_cons_self ..)
    obtain ⟨nm, id⟩ := x
    simp only at o1 o2 o3
    obtain ⟨X, rfl⟩ := Int.eq_ofNat_of_zero_le o2
    have e0 : chsB ((nm, (X : Int)) :: L) = (short nm.size ++ nm.data.toList) ++ (wide X ++ chsB L) := by
      simp [chsB, chB]
    rw [e0] at h
    have h1 : l.drop p = (short nm.size ++ nm.data.toList) ++ (wide X ++ chsB L ++ r) := by rw [h]; simp
    have ht := rtext_of (m := 200) h1 (by omega) (by omega)
    have hlen := congrArg List.length h1
    rw [List.length_drop, List.length_append] at hlen
    have hp2 : p + (short nm.size ++ nm.data.toList).length ≤ l.length := by omega
    have h2 : l.drop (p + (short nm.size ++ nm.data.toList).length) = wide X ++ (chsB L ++ r) := by
      rw [← List.drop_drop, h1, List.drop_left, List.append_assoc]
    have hw := rword_of h2 (by omega) hp2
    have hlen2 := congrArg List.length h2
    simp only [List.length_drop, List.length_append, wide_len8] at hlen2 hp2
    have h3 : l.drop (p + (short nm.size ++ nm.data.toList).length + 8) = chsB L ++ r := by
      rw [← List.drop_drop, h2, show 8 = (wide X).length from (wide_len8 X).symm, List.drop_left]
    have ih := chgs_of l L (p + (short nm.size ++ nm.data.toList).length + 8) (acc ++ [(nm, (X : Int))]) r h3 (by simp only [List.length_append]; omega) (fun y hy => hok y (List.mem_cons_of_mem _ hy))
    rw [List.length_cons]
    unfold chgsR
    rw [ht]
    simp only
    rw [hw]
    simp only [if_true]
    rw [ih, e0]
    simp [wide_len8]
    omega
/-- what encode writes, decode reads -/
theorem decRf_encR (L : List Ch) (h0 : L ≠ []) (hok : ∀ x ∈ L, ChOk x) (hl : L.length < 18446744073709551616) : decRf (encR L) = some L := by
  have hu := ruint_of (l := encR L) (r := chsB L) (p := 0) (X := L.length) (by simp [encR]) hl
  have hc := chgs_of (encR L) L (0 + (short L.length).length) [] [] (by simp [encR]) (by simp [encR]) hok
  have hd : decP (encR L) = (L, (encR L).length, 0) := by
    unfold decP
    rw [hu]
    simp only [Int.toNat_natCast]
    rw [hc]
    simp [encR]
  unfold decRf
  rw [hd, if_pos ⟨rfl, rfl, h0⟩]
end Go.Proofs.YtiafhbpklddlnaaGreatDoor

/- The walk of the law's wakes. -/
namespace Go.Proofs.YtiafhbpklddlnaaGreatDoor
open Go.RowKit Go.Shelf Go.Maps

attribute [local go_sem] Oper.semAt_some

theorem refNm_name : nameB refNm.data.toList = true := by decide
theorem refNm_size : refNm.size ≤ maxLen := by simp [refNm, ByteArray.size, maxLen]
/-- Refs of a new disk -/
theorem ropen_new (w : World) (d : Nat) (S : DG) (G : Nat → Prop) (hd : IsDisk w d S G) (hg : JGd S refNm.data.toList []) :
    Calls Tryz.prog 7 #[.pointer (some ⟨d, 0, none⟩)] w fun e w' => ∃ r j b M FJ F G', e = .returned (.tuple #[.pointer (some ⟨r, 0, none⟩), .int .i64 0]) ∧ RfAt w' r d j b M [] (fun _ => 0) 0 0 false FJ F ∧ IsDisk w' d S G' ∧ Turn G w w' ∧ (∀ k, F k → w.heap.size ≤ k) ∧ (∀ k, G' k → G k ∨ w.heap.size ≤ k) ∧ (∀ k, F k → ¬ G' k) := by
  have hSn := hg.n
  have hwr := hg.wr
  have hf0 : (fileB []).length = 0 := rfl
  obtain ⟨ho, hpa⟩ := hg.opened
  refine (ropen_any w d S G (fun _ => none) (by rw [hpa]; intro p hp; cases hp) hd (by rw [hg.get]; simp [fileB]) (by omega) (by unfold maxLen; omega)).mono ?_
  rintro e w' ⟨hT, G', hd', hG', hc⟩
  rw [ho] at hd' hc
  rw [hpa] at hc
  rcases hc with ⟨h0, _⟩ | ⟨_, h0, _⟩ | ⟨_, g, n, r, j, b, M, FJ, F, h0, h1, he, hR, hF, hFG⟩
  · exact absurd rfl h0
  · cases h0
  · have h2 : noR = (g, n) := Option.some.inj h0
    obtain ⟨rfl, rfl⟩ : (fun _ => (0 : Int)) = g ∧ 0 = n := ⟨congrArg Prod.fst h2, congrArg Prod.snd h2⟩
    exact ⟨r, j, b, M, FJ, F, G', he, hR, hd', hT, hF, hG', hFG⟩
/-- "a/b" -/
def abS : ByteArray := ⟨#[97, 47, 98]⟩
theorem ab_chk : chkR (fun _ => 0) 0 [(abS, 7)] = 0 := by kernel_rfl
theorem ab_news : newsR (fun _ => 0) [(abS, 7)] = [(abS, 7)] := by decide
theorem ab_apply : applyR (fun _ => 0, 0) [(abS, 7)] = (setR (fun _ => 0) (bs abS) 7, 1) := by simp [applyR, stepR]
theorem ab_len : (encR [(abS, 7)]).length ≤ 1000 := by decide
theorem rset_ab (w2 : World) (r d j b : Nat) (M : DataW Value) (FJ F G : Nat → Prop) (h : RfAt w2 r d j b M [] (fun _ => 0) 0 0 false FJ F) (hd : IsDisk w2 d ⟨fun _ => none, 0, 0, false, 0⟩ G) (hFG : ∀ k, F k → ¬ G k) :
    Calls Tryz.prog 9 #[.pointer (some ⟨r, 0, none⟩), .slice (some ⟨w2.heap.size, 0, none⟩) 1 1] (w2.alloc (.cells #[.string abS, .int .u64 7] 38)) fun e w' => e = .returned (.int .i64 0) ∧ Turn (fun k => F k ∨ G k) (w2.alloc (.cells #[.string abS, .int .u64 7] 38)) w' ∧ ∃ M' rs sz FJ' F', RfAt w' r d j b M' rs (setR (fun _ => 0) (bs abS) 7) 1 sz false FJ' F' := by
  have hB : Below w2.heap.size w2 (w2.alloc (.cells #[.string abS, .int .u64 7] 38)) := (Below.refl _ w2).alloc (Nat.le_refl _) _
  have hg := JGd.new refNm.data.toList
  obtain ⟨S', ha, _⟩ := hg.app refNm_name (encR [(abS, 7)]) (by have := ab_len; omega) (by have h1 := (recB_pos (encR [(abS, 7)])).2; have h2 := ab_len; have h3 : (fileB []).length = 0 := rfl; omega)
  have d0 : (w2.alloc (.cells #[.string abS, .int .u64 7] 38)).cell? ⟨w2.heap.size, 0, none⟩ = some (.string abS) := by simp only [World.cell?, World.alloc_heap_new]; rfl
  have d1 : (w2.alloc (.cells #[.string abS, .int .u64 7] 38)).cell? ⟨w2.heap.size, 1, none⟩ = some (.int .u64 7) := by simp only [World.cell?, World.alloc_heap_new]; rfl
  have hx := rset_new _ r d j b M [] (fun _ => 0) 0 0 FJ F (h.below hB) _ G (hd.below hB) hFG (some ⟨w2.heap.size, 0, none⟩) 1 1 [(abS, 7)] ⟨rfl, fun _ => ⟨w2.heap.size, 0, rfl, fun k x hx => by
      match k, hx with
      | 0, hx => simp at hx; subst hx; exact ⟨d0, d1⟩
      | k + 1, hx => simp at hx⟩⟩ (fun k x hx => by
      match k, hx with
      | 0, hx => simp at hx; subst hx; decide
      | k + 1, hx => simp at hx) (fun x hx => by simp at hx; subst hx; decide) (by omega) (by omega) ab_chk (by rw [ab_news]; simp) (by rw [hg.get]; simp [fileB]) (by omega) (by simp) (by simp)
  rw [ab_news, ha] at hx
  refine hx.mono ?_
  rintro e w' ⟨he, hT, M', FJ', G', hd', _, _, _, hc⟩
  refine ⟨he, hT.wide (fun k hk => ?_), ?_⟩
  · rcases hk with hk | hk | hk
    · exact .inl (h.fj k hk)
    · exact .inr hk
    · exact .inl (hk ▸ h.fs.2)
  · rcases hc with ⟨_, hR⟩ | ⟨h0, _⟩
    · rw [ab_apply] at hR
      exact ⟨M', _, _, FJ', _, hR⟩
    · exact absurd rfl h0

set_option maxRecDepth 100000 in
set_option maxHeartbeats 4000000 in
theorem rwakes_any (w : World) : Calls Tryz.prog 5 #[] w fun e w' => e = .returned (.bool true) ∧ Below w.heap.size w w' := by
  have hn := new_any w
  have HOP : Hid (∀ W d S G, IsDisk W d S G → JGd S refNm.data.toList [] → Calls Tryz.prog 7 #[.pointer (some ⟨d, 0, none⟩)] W fun e w' => ∃ r j b M FJ F G', e = .returned (.tuple #[.pointer (some ⟨r, 0, none⟩), .int .i64 0]) ∧ RfAt w' r d j b M [] (fun _ => 0) 0 0 false FJ F ∧ IsDisk w' d S G' ∧ Turn G W w' ∧ (∀ k, F k → W.heap.size ≤ k) ∧ (∀ k, G' k → G k ∨ W.heap.size ≤ k) ∧ (∀ k, F k → ¬ G' k)) := fun W d S G hd hg => ropen_new W d S G hd hg
  have HSET : Hid (∀ (w2 : World) (r d j b : Nat) (M : DataW Value) (FJ F G : Nat → Prop), RfAt w2 r d j b M [] (fun _ => 0) 0 0 false FJ F → IsDisk w2 d ⟨fun _ => none, 0, 0, false, 0⟩ G → (∀ k, F k → ¬ G k) → Calls Tryz.prog 9 #[.pointer (some ⟨r, 0, none⟩), .slice (some ⟨w2.heap.size, 0, none⟩) 1 1] (w2.alloc (.cells #[.string ⟨#[97, 47, 98]⟩, .int .u64 7] 38)) fun e w' => e = .returned (.int .i64 0) ∧ Turn (fun k => F k ∨ G k) (w2.alloc (.cells #[.string ⟨#[97, 47, 98]⟩, .int .u64 7] 38)) w' ∧ ∃ M' rs sz FJ' F', RfAt w' r d j b M' rs (setR (fun _ => 0) (bs abS) 7) 1 sz false FJ' F') := rset_ab
  go_enter Tryz.func5, Tryz.ntmps5
  go_wp2_with first
    | (go_at_call 6; refine hn.mono ?_; clear hn; rintro e w1 ⟨rfl, hd, hB1⟩; have HD : Hid (IsDisk w1 (w.heap.size + 1) ⟨fun _ => none, 0, 0, false, 0⟩ (fun k => k = w.heap.size ∨ k = w.heap.size + 1) ∧ Below w.heap.size w w1) := ⟨hd, hB1⟩; clear hd hB1)
    | (go_at_call 7; refine (HOP.out _ _ _ _ HD.out.1 (JGd.new _)).mono ?_; clear HOP; rintro e w2 ⟨r, j, b, M, FJ, F, G2, rfl, hR, hd2, hT2, hF2, hG2, hFG2⟩; have H2 : Hid (RfAt w2 r (w.heap.size + 1) j b M [] (fun _ => 0) 0 0 false FJ F ∧ IsDisk w2 (w.heap.size + 1) ⟨fun _ => none, 0, 0, false, 0⟩ G2 ∧ (∀ k, F k ∨ G2 k → w.heap.size ≤ k) ∧ (∀ k, F k → ¬ G2 k) ∧ Below w.heap.size w w2) := ⟨hR, hd2, (fun k hk => hk.elim (fun h => Nat.le_trans HD.out.2.size (hF2 k h)) (fun h => (hG2 k h).elim (fun h => by omega) (fun h => Nat.le_trans HD.out.2.size h))), hFG2, HD.out.2.trans (hT2.below HD.out.2.size (fun k hk => by omega))⟩; clear hR hd2 hT2 hF2 hG2 hFG2)
    | (go_at_call 9; refine (HSET.out _ _ _ _ _ _ _ _ _ H2.out.1 H2.out.2.1 H2.out.2.2.2.1).mono ?_; clear HSET; rintro e w3 ⟨rfl, hT3, M3, rs3, sz3, FJ3, F3, hR3⟩; have hB23 : Below w.heap.size w (w2.alloc (.cells #[.string abS, .int .u64 7] 38)) := H2.out.2.2.2.2.alloc H2.out.2.2.2.2.size _; have hget := rget_any w3 r _ j b M3 rs3 _ _ sz3 false FJ3 F3 hR3 abS (by decide); rw [show setR (fun _ => (0 : Int)) (bs abS) 7 (bs abS) = 7 from by simp [setR], if_neg (by decide)] at hget; have hlen := rlen_any w3 r _ j b M3 rs3 _ _ sz3 false FJ3 F3 hR3; have H3 : Hid (Below w.heap.size w w3) := hB23.trans (hT3.below hB23.size H2.out.2.2.1); clear hR3 hT3 hB23; unfold abS at hget)
    | (go_at_call 18; refine hget.mono ?_; clear hget; rintro e w4 ⟨rfl, h4⟩; subst h4)
    | (go_at_call 19; refine hlen.mono ?_; clear hlen; rintro e w5 ⟨rfl, h5⟩; subst h5)
  go_ret
  exact ⟨rfl, H3.out⟩
end Go.Proofs.YtiafhbpklddlnaaGreatDoor

/- Refs on a disk that is not cut and has just their records. -/
namespace Go.Proofs.YtiafhbpklddlnaaGreatDoor
open Go.RowKit Go.Shelf Go.Maps

theorem chgErr_less {g : List UInt8 → Int} {A A' : List UInt8 → Bool} {s : ByteArray} {i : Int} (hA : ∀ k, A' k = true → A k = true) (h : chgErr g A s i = 0) : chgErr g A' s i = 0 := by
  unfold chgErr at h ⊢
  by_cases h1 : (pathSpot (bs s)).1 = 0
  · rw [if_neg (by simpa using h1)] at h ⊢
    by_cases h2 : bs s = []
    · rw [if_pos h2] at h; omega
    · rw [if_neg h2] at h ⊢
      by_cases h3 : A (bs s) = true
      · rw [if_pos h3] at h; omega
      · rw [if_neg h3] at h
        rw [if_neg (fun e => h3 (hA _ e))]
        exact h
  · rw [if_pos h1] at h; omega
theorem chgErr_id {g : List UInt8 → Int} {A : List UInt8 → Bool} {s : ByteArray} {i : Int} (h : chgErr g A s i = 0) (hi : g (bs s) = i) : i ≠ 0 := by
  intro e
  unfold chgErr at h
  by_cases h1 : (pathSpot (bs s)).1 = 0
  · rw [if_neg (by simpa using h1)] at h
    by_cases h2 : bs s = []
    · rw [if_pos h2] at h; omega
    · rw [if_neg h2] at h
      by_cases h3 : A (bs s) = true
      · rw [if_pos h3] at h; omega
      · rw [if_neg h3, if_pos ⟨e, hi.trans e⟩] at h; omega
  · rw [if_pos h1] at h; omega
/-- what says something new may be set, too -/
theorem chk_news (g : List UInt8 → Int) : ∀ (l : List Ch) (A A' : List UInt8 → Bool) (c : Int), (∀ k, A' k = true → A k = true) → chkFrom g A c l = 0 → chkFrom g A' c (newsR g l) = 0
  | [], _, _, _, _, h => h
  | x :: r, A, A', c, hA, h => by
    unfold chkFrom at h
    by_cases e : chgErr g A x.1 x.2 = 0
    · rw [if_neg (by simpa using e)] at h
      by_cases hx : g (bs x.1) = x.2
      · have h1 : newsR g (x :: r) = newsR g r := by simp [newsR, hx]
        have h2 : growR g x.1 x.2 = 0 := by
          have h3 := chgErr_id e hx
          unfold growR
          rw [if_neg h3, if_neg (by rw [hx]; exact h3)]
        rw [h2, Int.add_zero] at h
        rw [h1]
        exact chk_news g r _ A' c (fun k hk => by simp [addA, hA k hk]) h
      · have h1 : newsR g (x :: r) = x :: newsR g r := by simp [newsR, hx]
        rw [h1]
        unfold chkFrom
        rw [if_neg (by simpa using chgErr_less hA e)]
        exact chk_news g r _ _ _ (fun k hk => by
          simp only [addA, Bool.or_eq_true] at hk ⊢
          exact hk.imp id (hA k)) h
    · rw [if_pos e] at h; exact absurd h e
theorem chkR_news {g : List UInt8 → Int} {n : Nat} {l : List Ch} (h : chkR g n l = 0) : chkR g n (newsR g l) = 0 := chk_news g l _ _ _ (fun _ hk => hk) h
theorem loadR_snoc {rs : List (List UInt8)} {q : (List UInt8 → Int) × Nat} (h : loadR decRf rs noR = some q) (L : List Ch) (h0 : L ≠ []) (hok : ∀ x ∈ L, ChOk x) (hl : L.length < 18446744073709551616) (hc : chkR q.1 q.2 L = 0) : loadR decRf (rs ++ [encR L]) noR = some (applyR q L) := by
  rw [loadR_append, h]
  simp [loadR, decRf_encR L h0 hok hl, hc]

/-- Refs, and their disk, that has just their records -/
structure RfG (w : World) (r d : Nat) (g : List UInt8 → Int) (n : Nat) (rs : List (List UInt8)) (S : DG) (F G : Nat → Prop) : Prop where
  rf : ∃ j b M FJ, RfAt w r d j b M rs g n (fileB rs).length false FJ F
  dk : IsDisk w d S G
  dis : ∀ k, F k → ¬ G k
  gd : JGd S refNm.data.toList rs
  ld : loadR decRf rs noR = some (g, n)
theorem RfG.turn {w w' : World} {r d : Nat} {g : List UInt8 → Int} {n : Nat} {rs : List (List UInt8)} {S : DG} {F G X : Nat → Prop} (h : RfG w r d g n rs S F G) (hT : Turn X w w') (hX : ∀ k, F k ∨ G k → ¬ X k) : RfG w' r d g n rs S F G := by
  obtain ⟨j, b, M, FJ, hr⟩ := h.rf
  exact ⟨⟨j, b, M, FJ, hr.turn hT (fun k hk => hX k (.inl hk))⟩, h.dk.turn hT (fun k hk => hX k (.inr hk)), h.dis, h.gd, h.ld⟩
theorem RfG.below {w w' : World} {r d : Nat} {g : List UInt8 → Int} {n : Nat} {rs : List (List UInt8)} {S : DG} {F G : Nat → Prop} (h : RfG w r d g n rs S F G) (hB : Below w.heap.size w w') : RfG w' r d g n rs S F G := h.turn (Turn.of_below (fun _ => False) hB) (fun _ _ => id)

/-- a Set of changes that may be made and say something new -/
theorem rset_good (w : World) (r d : Nat) (g : List UInt8 → Int) (n : Nat) (rs : List (List UInt8)) (S : DG) (F G : Nat → Prop) (h : RfG w r d g n rs S F G) (a : Option Addr) (m c : Nat) (l : List Ch) (hl : Chs w a m l) (hs : ShortR l) (hi : ∀ x ∈ l, 0 ≤ x.2 ∧ x.2 ≤ 18446744073709551615) (hm : m ≤ 1000) (hn : n ≤ 1000000000000) (he : chkR g n l = 0) (hN : newsR g l ≠ []) (hfit : (recB (encR (newsR g l))).length + (fileB rs).length ≤ 4194304) :
    Calls Tryz.prog 9 #[.pointer (some ⟨r, 0, none⟩), .slice a m c] w fun e w' => e = .returned (.int .i64 0) ∧ Turn (fun k => F k ∨ G k) w w' ∧ ∃ S' F' G', RfG w' r d (applyR (g, n) (newsR g l)).1 (applyR (g, n) (newsR g l)).2 (rs ++ [encR (newsR g l)]) S' F' G' ∧ (∀ k, F' k → F k ∨ w.heap.size ≤ k) ∧ (∀ k, G' k → G k ∨ w.heap.size ≤ k) := by
  obtain ⟨j, b, M, FJ, hr⟩ := h.rf
  have hsh : ∀ x ∈ newsR g l, x.1.size ≤ 200 := fun x hx => chkFrom_short g l _ _ he x (newsR_sub g l x hx)
  have hNl : (newsR g l).length ≤ m := by rw [← hl.1]; exact List.length_filter_le _ _
  obtain ⟨S', ha, hg'⟩ := h.gd.app refNm_name (encR (newsR g l)) (encR_len _ hsh (by omega)) hfit
  have hbs : (S.bs refNm.data.toList).length = (fileB rs).length := by rw [h.gd.get]
  have hSn := h.gd.n
  have hwr := h.gd.wr
  have hld := loadR_snoc h.ld (newsR g l) hN (fun x hx => ⟨hsh x hx, hi x (newsR_sub g l x hx)⟩) (by omega) (chkR_news he)
  refine (rset_new w r d j b M rs g n _ FJ F hr S G h.dk h.dis a m c l hl hs hi hm hn he hN (by rw [hbs]; omega) (by rw [hbs]; exact Nat.le_refl _) (by omega) (by omega)).mono ?_
  rintro e w' ⟨hee, hT, M', FJ', G', hd', hF', hG', hFG', hc⟩
  rw [ha] at hee hd' hc
  rcases hc with ⟨_, hR⟩ | ⟨hne, _⟩
  · refine ⟨hee, hT.wide (fun k hk => ?_), S', _, G', ⟨⟨j, b, M', FJ', ?_⟩, hd', hFG', hg', hld⟩, fun k hk => hk.elim .inl (fun hk => (hF' k hk).imp (hr.fj k) id), hG'⟩
    · rcases hk with hk | hk | hk
      · exact .inl (hr.fj k hk)
      · exact .inr hk
      · exact .inl (hk ▸ hr.fs.2)
    · rw [fileB_snoc, List.length_append]
      exact hR
  · exact absurd rfl hne
/-- Open on a disk that has just the records of refs -/
theorem ropen_good (w : World) (d : Nat) (g : List UInt8 → Int) (n : Nat) (rs : List (List UInt8)) (S : DG) (G : Nat → Prop) (hd : IsDisk w d S G) (hg : JGd S refNm.data.toList rs) (hld : loadR decRf rs noR = some (g, n)) (hfit : (fileB rs).length ≤ 4194304) (hrl : ∀ p ∈ rs, p.length ≤ 549755813888) :
    Calls Tryz.prog 7 #[.pointer (some ⟨d, 0, none⟩)] w fun e w' => ∃ r F G', e = .returned (.tuple #[.pointer (some ⟨r, 0, none⟩), .int .i64 0]) ∧ RfG w' r d g n rs S F G' ∧ Turn G w w' ∧ (∀ k, F k → w.heap.size ≤ k) ∧ (∀ k, G' k → G k ∨ w.heap.size ≤ k) := by
  have hSn := hg.n
  have hwr := hg.wr
  obtain ⟨ho, hpa⟩ := hg.opened
  refine (ropen_any w d S G decRf (by rw [hpa]; exact decOk rs hrl) hd (by rw [hg.get]; exact hfit) (by omega) (by unfold maxLen; omega)).mono ?_
  rintro e w' ⟨hT, G', hd', hG', hc⟩
  rw [ho] at hd' hc
  rw [hpa] at hc
  simp only at hc
  rw [hld] at hc
  rcases hc with ⟨h0, _⟩ | ⟨_, h0, _⟩ | ⟨_, g', n', r, j, b, M, FJ, F, h0, h1, he, hR, hF, hFG⟩
  · exact absurd rfl h0
  · cases h0
  · cases h0
    exact ⟨r, F, G', he, ⟨⟨j, b, M, FJ, hR⟩, hd', hFG, hg, hld⟩, hT, hF, hG'⟩
end Go.Proofs.YtiafhbpklddlnaaGreatDoor
