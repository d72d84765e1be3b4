import Derived.Test.YtiafhbpklddlnaaGreatDoorD33
import Derived.Test.YtiafhbpklddlnaaGreatDoorD13
import Derived.Test.YtiafhbpklddlnaaGreatDoorD32
/- What decode answers is what Open asks of it. -/
namespace Go.Proofs.YtiafhbpklddlnaaGreatDoor
open Go.RowKit Go.Maps

theorem wideVal_in (l : List UInt8) : ∀ k, 0 ≤ wideVal l k ∧ wideVal l k < (256 : Int) ^ k
  | 0 => ⟨by simp [wideVal], by simp [wideVal]⟩
  | k + 1 => by
    have ih := wideVal_in l k
    have hb : 0 ≤ bt l k ∧ bt l k ≤ 255 := by unfold bt; have := (l.getD k 0).toNat_lt; omega
    unfold wideVal
    rw [Int.pow_succ]
    omega
theorem wordR_fits' (l : List UInt8) (p : Nat) (e : Int) : 0 ≤ (wordR l p e).1 ∧ (wordR l p e).1 ≤ 18446744073709551615 := by
  unfold wordR
  split
  · simp
  · split
    · simp
    · have := wideVal_in ((l.drop p).take 8) 8
      have h : (256 : Int) ^ 8 = 18446744073709551616 := by decide
      rw [h] at this
      exact ⟨this.1, by have := this.2; simp only; omega⟩
theorem textR_size (l : List UInt8) (p : Nat) (e m : Int) : (textR l p e m).1.size ≤ l.length := by
  unfold textR
  split
  · simp [ByteArray.size]
  · split
    · simp only [cutT, ByteArray.size, List.size_toArray, List.length_drop, List.length_take]
      omega
    · simp [ByteArray.size]
theorem wordR_ok' {l : List UInt8} {p : Nat} {e : Int} (h : (wordR l p e).2.2 = 0) : (wordR l p e).2.1 = p + 8 ∧ p + 8 ≤ l.length := by
  unfold wordR at h ⊢
  by_cases he : e ≠ 0
  · rw [if_pos he] at h; exact absurd h he
  · rw [if_neg he] at h ⊢
    by_cases hp : l.length < p + 8
    · rw [if_pos hp] at h; simp at h
    · rw [if_neg hp]; exact ⟨rfl, by omega⟩
theorem chgsR_all (l : List UInt8) (Q : Ch → Prop) (hQ : ∀ p e p' e', Q ((textR l p e 200).1, (wordR l p' e').1)) : ∀ (n p : Nat) (e : Int) (acc : List Ch), (∀ x ∈ acc, Q x) → ∀ x ∈ (chgsR n l p e acc).1, Q x
  | 0, _, _, _, h => h
  | n + 1, p, e, acc, h => by
    unfold chgsR
    split
    · refine chgsR_all l Q hQ n _ _ _ ?_
      intro x hx
      rcases List.mem_append.1 hx with hx | hx
      · exact h x hx
      · simp at hx; subst hx; exact hQ _ _ _ _
    · exact h
theorem decRf_some {l : List UInt8} {L : List Ch} (h : decRf l = some L) : (decP l).1 = L := by
  unfold decRf at h
  split at h
  · exact Option.some.inj h
  · cases h
/-- decode answers what Open asks of it -/
theorem decOk (rs : List (List UInt8)) (h : ∀ p ∈ rs, p.length ≤ 549755813888) : DecOk decRf rs := by
  intro p hp W a c hb
  have hpl := h p hp
  refine (decode_any W a c p hb hpl).mono ?_
  rintro e w' ⟨ad, cp, rfl, ho, hB, hlen⟩
  have hall : ∀ x ∈ (decP p).1, x.1.size ≤ maxLen ∧ 0 ≤ x.2 ∧ x.2 ≤ 18446744073709551615 :=
    chgsR_all p (fun x => x.1.size ≤ maxLen ∧ 0 ≤ x.2 ∧ x.2 ≤ 18446744073709551615) (fun q e q' e' => ⟨by have := textR_size p q e 200; simp only; unfold maxLen; omega, wordR_fits' p q' e'⟩) _ _ _ [] (by simp)
  refine ⟨ad, cp, (decP p).1, rfl, fun l hl => decRf_some hl, own_chs ho rfl, fun x hx => ?_, fun k x hx => (hall x (List.mem_of_getElem? hx)).1, fun x hx => (hall x hx).2, hlen, hB⟩
  subst hx
  rcases ho.2 with ⟨e, _⟩ | ⟨g', cap, cur, e, hb', _⟩
  · cases e
  · cases e
    exact hb'
end Go.Proofs.YtiafhbpklddlnaaGreatDoor

/- Plain: what encode writes, decode reads. -/
namespace Go.Proofs.YtiafhbpklddlnaaGreatDoor
open Go.RowKit

theorem rword_of {l r : List UInt8} {p X : Nat} (h : l.drop p = wide X ++ r) (hX : X < 18446744073709551616) (hp : p ≤ l.length) : wordR l p 0 = ((X : Int), p + 8, 0) := by
  have hl := congrArg List.length h
  rw [List.length_drop, List.length_append, wide_len8] at hl
  unfold wordR
  rw [if_neg (by simp), if_neg (by omega), h, List.take_append_of_le_length (by rw [wide_len8]; omega), List.take_of_length_le (by rw [wide_len8]; omega)]
  have := wideVal_wide X [] 8 (by omega) (by omega)
  rw [List.append_nil] at this
  rw [this]
  simp
theorem ruint_of {l r : List UInt8} {p X : Nat} (h : l.drop p = short X ++ r) (hX : X < 18446744073709551616) : uintR l p 0 = ((X : Int), p + (short X).length, 0) := by
  unfold uintR
  rw [if_neg (by simp), h, num_short_app X hX r, if_pos rfl]
theorem rtext_of {l r : List UInt8} {p : Nat} {m : Int} {s : ByteArray} (h : l.drop p = (short s.size ++ s.data.toList) ++ r) (hm : (s.size : Int) ≤ m) (hs : s.size < 18446744073709551616) : textR l p 0 m = (s, p + (short s.size ++ s.data.toList).length, 0) := by
  have hsl : s.data.toList.length = s.size := Array.length_toList
  rw [List.append_assoc] at h
  have hn := num_short_app s.size hs (s.data.toList ++ r)
  have ht := txt_ok (short s.size ++ (s.data.toList ++ r)) m (by omega) (by rw [hn]) (by rw [hn]; simp only; omega) (by rw [hn]; simp only [List.length_append]; omega)
  rw [hn] at ht
  simp only [Int.toNat_natCast] at ht
  unfold textR cutT
  rw [if_neg (by simp), h, ht, if_pos rfl]
  simp only
  have e : ((short s.size ++ (s.data.toList ++ r)).take ((short s.size).length + s.size)).drop (short s.size).length = s.data.toList := by
    rw [← List.append_assoc, List.take_append_of_le_length (by simp [hsl]), List.take_of_length_le (by simp [hsl]), List.drop_append]
    simp
  rw [e, List.length_append, hsl]
/-- a change that a record may say -/
def ChOk (x : Ch) : Prop := x.1.size ≤ 200 ∧ 0 ≤ x.2 ∧ x.2 ≤ 18446744073709551615
theorem chgs_of (l : List UInt8) : ∀ (L : List Ch) (p : Nat) (acc : List Ch) (r : List UInt8), l.drop p = chsB L ++ r → p ≤ l.length → (∀ x ∈ L, ChOk x) → chgsR L.length l p 0 acc = (acc ++ L, p + (chsB L).length, 0)
  | [], p, acc, r, _, _, _ => by simp [chgsR, chsB]
  | x :: L, p, acc, r, h, hp, hok => by
    obtain ⟨o1, o2, o3⟩ := hok x (List.mem_cons_self ..)
    obtain ⟨nm, id⟩ := x
    simp only at o1 o2 o3
    obtain ⟨X, rfl⟩ := Int.eq_ofNat_of_zero_le o2
    have e0 : chsB ((nm, (X : Int)) :: L) = (short nm.size ++ nm.data.toList) ++ (wide X ++ chsB L) := by
      simp [chsB, chB]
    rw [e0] at h
    have h1 : l.drop p = (short nm.size ++ nm.data.toList) ++ (wide X ++ chsB L ++ r) := by rw [h]; simp
    have ht := rtext_of (m := 200) h1 (by omega) (by omega)
    have hlen := congrArg List.length h1
    rw [List.length_drop, List.length_append] at hlen
    have hp2 : p + (short nm.size ++ nm.data.toList).length ≤ l.length := by omega
    have h2 : l.drop (p + (short nm.size ++ nm.data.toList).length) = wide X ++ (chsB L ++ r) := by
      rw [← List.drop_drop, h1, List.drop_left, List.append_assoc]
    have hw := rword_of h2 (by omega) hp2
    have hlen2 := congrArg List.length h2
    simp only [List.length_drop, List.length_append, wide_len8] at hlen2 hp2
    have h3 : l.drop (p + (short nm.size ++ nm.data.toList).length + 8) = chsB L ++ r := by
      rw [← List.drop_drop, h2, show 8 = (wide X).length from (wide_len8 X).symm, List.drop_left]
    have ih := chgs_of l L (p + (short nm.size ++ nm.data.toList).length + 8) (acc ++ [(nm, (X : Int))]) r h3 (by simp only [List.length_append]; omega) (fun y hy => hok y (List.mem_cons_of_mem _ hy))
    rw [List.length_cons]
    unfold chgsR
    rw [ht]
    simp only
    rw [hw]
    simp only [if_true]
    rw [ih, e0]
    simp [wide_len8]
    omega
/-- what encode writes, decode reads -/
theorem decRf_encR (L : List Ch) (h0 : L ≠ []) (hok : ∀ x ∈ L, ChOk x) (hl : L.length < 18446744073709551616) : decRf (encR L) = some L := by
  have hu := ruint_of (l := encR L) (r := chsB L) (p := 0) (X := L.length) (by simp [encR]) hl
  have hc := chgs_of (encR L) L (0 + (short L.length).length) [] [] (by simp [encR]) (by simp [encR]) hok
  have hd : decP (encR L) = (L, (encR L).length, 0) := by
    unfold decP
    rw [hu]
    simp only [Int.toNat_natCast]
    rw [hc]
    simp [encR]
  unfold decRf
  rw [hd, if_pos ⟨rfl, rfl, h0⟩]
end Go.Proofs.YtiafhbpklddlnaaGreatDoor

/- The walk of the law's wakes. -/
namespace Go.Proofs.YtiafhbpklddlnaaGreatDoor
open Go.RowKit Go.Shelf Go.Maps

attribute [local go_sem] Oper.semAt_some

theorem refNm_name : nameB refNm.data.toList = true := by decide
theorem refNm_size : refNm.size ≤ maxLen := by simp [refNm, ByteArray.size, maxLen]
/-- Refs of a new disk -/
theorem ropen_new (w : World) (d : Nat) (S : DG) (G : Nat → Prop) (hd : IsDisk w d S G) (hg : JGd S refNm.data.toList []) :
    Calls Tryz.prog 7 #[.pointer (some ⟨d, 0, none⟩)] w fun e w' => ∃ r j b M FJ F G', e = .returned (.tuple #[.pointer (some ⟨r, 0, none⟩), .int .i64 0]) ∧ RfAt w' r d j b M [] (fun _ => 0) 0 0 false FJ F ∧ IsDisk w' d S G' ∧ Turn G w w' ∧ (∀ k, F k → w.heap.size ≤ k) ∧ (∀ k, G' k → G k ∨ w.heap.size ≤ k) ∧ (∀ k, F k → ¬ G' k) := by
  have hSn := hg.n
  have hwr := hg.wr
  have hf0 : (fileB []).length = 0 := rfl
  obtain ⟨ho, hpa⟩ := hg.opened
  refine (ropen_any w d S G (fun _ => none) (by rw [hpa]; intro p hp; cases hp) hd (by rw [hg.get]; simp [fileB]) (by omega) (by unfold maxLen; omega)).mono ?_
  rintro e w' ⟨hT, G', hd', hG', hc⟩
  rw [ho] at hd' hc
  rw [hpa] at hc
  rcases hc with ⟨h0, _⟩ | ⟨_, h0, _⟩ | ⟨_, g, n, r, j, b, M, FJ, F, h0, h1, he, hR, hF, hFG⟩
  · exact absurd rfl h0
  · cases h0
  · have h2 : noR = (g, n) := Option.some.inj h0
    obtain ⟨rfl, rfl⟩ : (fun _ => (0 : Int)) = g ∧ 0 = n := ⟨congrArg Prod.fst h2, congrArg Prod.snd h2⟩
    exact ⟨r, j, b, M, FJ, F, G', he, hR, hd', hT, hF, hG', hFG⟩
/-- "a/b" -/
def abS : ByteArray := ⟨#[97, 47, 98]⟩
theorem ab_chk : chkR (fun _ => 0) 0 [(abS, 7)] = 0 := by kernel_rfl
theorem ab_news : newsR (fun _ => 0) [(abS, 7)] = [(abS, 7)] := by decide
theorem ab_apply : applyR (fun _ => 0, 0) [(abS, 7)] = (setR (fun _ => 0) (bs abS) 7, 1) := by simp [applyR, stepR]
theorem ab_len : (encR [(abS, 7)]).length ≤ 1000 := by decide
theorem rset_ab (w2 : World) (r d j b : Nat) (M : DataW Value) (FJ F G : Nat → Prop) (h : RfAt w2 r d j b M [] (fun _ => 0) 0 0 false FJ F) (hd : IsDisk w2 d ⟨fun _ => none, 0, 0, false, 0⟩ G) (hFG : ∀ k, F k → ¬ G k) :
    Calls Tryz.prog 9 #[.pointer (some ⟨r, 0, none⟩), .slice (some ⟨w2.heap.size, 0, none⟩) 1 1] (w2.alloc (.cells #[.string abS, .int .u64 7] 38)) fun e w' => e = .returned (.int .i64 0) ∧ Turn (fun k => F k ∨ G k) (w2.alloc (.cells #[.string abS, .int .u64 7] 38)) w' ∧ ∃ M' rs sz FJ' F', RfAt w' r d j b M' rs (setR (fun _ => 0) (bs abS) 7) 1 sz false FJ' F' := by
  have hB : Below w2.heap.size w2 (w2.alloc (.cells #[.string abS, .int .u64 7] 38)) := (Below.refl _ w2).alloc (Nat.le_refl _) _
  have hg := JGd.new refNm.data.toList
  obtain ⟨S', ha, _⟩ := hg.app refNm_name (encR [(abS, 7)]) (by have := ab_len; omega) (by have h1 := (recB_pos (encR [(abS, 7)])).2; have h2 := ab_len; have h3 : (fileB []).length = 0 := rfl; omega)
  have d0 : (w2.alloc (.cells #[.string abS, .int .u64 7] 38)).cell? ⟨w2.heap.size, 0, none⟩ = some (.string abS) := by simp only [World.cell?, World.alloc_heap_new]; rfl
  have d1 : (w2.alloc (.cells #[.string abS, .int .u64 7] 38)).cell? ⟨w2.heap.size, 1, none⟩ = some (.int .u64 7) := by simp only [World.cell?, World.alloc_heap_new]; rfl
  have hx := rset_new _ r d j b M [] (fun _ => 0) 0 0 FJ F (h.below hB) _ G (hd.below hB) hFG (some ⟨w2.heap.size, 0, none⟩) 1 1 [(abS, 7)] ⟨rfl, fun _ => ⟨w2.heap.size, 0, rfl, fun k x hx => by
      match k, hx with
      | 0, hx => simp at hx; subst hx; exact ⟨d0, d1⟩
      | k + 1, hx => simp at hx⟩⟩ (fun k x hx => by
      match k, hx with
      | 0, hx => simp at hx; subst hx; decide
      | k + 1, hx => simp at hx) (fun x hx => by simp at hx; subst hx; decide) (by omega) (by omega) ab_chk (by rw [ab_news]; simp) (by rw [hg.get]; simp [fileB]) (by omega) (by simp) (by simp)
  rw [ab_news, ha] at hx
  refine hx.mono ?_
  rintro e w' ⟨he, hT, M', FJ', G', hd', _, _, _, hc⟩
  refine ⟨he, hT.wide (fun k hk => ?_), ?_⟩
  · rcases hk with hk | hk | hk
    · exact .inl (h.fj k hk)
    · exact .inr hk
    · exact .inl (hk ▸ h.fs.2)
  · rcases hc with ⟨_, hR⟩ | ⟨h0, _⟩
    · rw [ab_apply] at hR
      exact ⟨M', _, _, FJ', _, hR⟩
    · exact absurd rfl h0

set_option maxRecDepth 100000 in
set_option maxHeartbeats 4000000 in
theorem rwakes_any (w : World) : Calls Tryz.prog 5 #[] w fun e w' => e = .returned (.bool true) ∧ Below w.heap.size w w' := by
  have hn := new_any w
  have HOP : Hid (∀ W d S G, IsDisk W d S G → JGd S refNm.data.toList [] → Calls Tryz.prog 7 #[.pointer (some ⟨d, 0, none⟩)] W fun e w' => ∃ r j b M FJ F G', e = .returned (.tuple #[.pointer (some ⟨r, 0, none⟩), .int .i64 0]) ∧ RfAt w' r d j b M [] (fun _ => 0) 0 0 false FJ F ∧ IsDisk w' d S G' ∧ Turn G W w' ∧ (∀ k, F k → W.heap.size ≤ k) ∧ (∀ k, G' k → G k ∨ W.heap.size ≤ k) ∧ (∀ k, F k → ¬ G' k)) := fun W d S G hd hg => ropen_new W d S G hd hg
  have HSET : Hid (∀ (w2 : World) (r d j b : Nat) (M : DataW Value) (FJ F G : Nat → Prop), RfAt w2 r d j b M [] (fun _ => 0) 0 0 false FJ F → IsDisk w2 d ⟨fun _ => none, 0, 0, false, 0⟩ G → (∀ k, F k → ¬ G k) → Calls Tryz.prog 9 #[.pointer (some ⟨r, 0, none⟩), .slice (some ⟨w2.heap.size, 0, none⟩) 1 1] (w2.alloc (.cells #[.string ⟨#[97, 47, 98]⟩, .int .u64 7] 38)) fun e w' => e = .returned (.int .i64 0) ∧ Turn (fun k => F k ∨ G k) (w2.alloc (.cells #[.string ⟨#[97, 47, 98]⟩, .int .u64 7] 38)) w' ∧ ∃ M' rs sz FJ' F', RfAt w' r d j b M' rs (setR (fun _ => 0) (bs abS) 7) 1 sz false FJ' F') := rset_ab
  go_enter Tryz.func5, Tryz.ntmps5
  go_wp2_with first
    | (go_at_call 6; refine hn.mono ?_; clear hn; rintro e w1 ⟨rfl, hd, hB1⟩; have HD : Hid (IsDisk w1 (w.heap.size + 1) ⟨fun _ => none, 0, 0, false, 0⟩ (fun k => k = w.heap.size ∨ k = w.heap.size + 1) ∧ Below w.heap.size w w1) := ⟨hd, hB1⟩; clear hd hB1)
    | (go_at_call 7; refine (HOP.out _ _ _ _ HD.out.1 (JGd.new _)).mono ?_; clear HOP; rintro e w2 ⟨r, j, b, M, FJ, F, G2, rfl, hR, hd2, hT2, hF2, hG2, hFG2⟩; have H2 : Hid (RfAt w2 r (w.heap.size + 1) j b M [] (fun _ => 0) 0 0 false FJ F ∧ IsDisk w2 (w.heap.size + 1) ⟨fun _ => none, 0, 0, false, 0⟩ G2 ∧ (∀ k, F k ∨ G2 k → w.heap.size ≤ k) ∧ (∀ k, F k → ¬ G2 k) ∧ Below w.heap.size w w2) := ⟨hR, hd2, (fun k hk => hk.elim (fun h => Nat.le_trans HD.out.2.size (hF2 k h)) (fun h => (hG2 k h).elim (fun h => by omega) (fun h => Nat.le_trans HD.out.2.size h))), hFG2, HD.out.2.trans (hT2.below HD.out.2.size (fun k hk => by omega))⟩; clear hR hd2 hT2 hF2 hG2 hFG2)
    | (go_at_call 9; refine (HSET.out _ _ _ _ _ _ _ _ _ H2.out.1 H2.out.2.1 H2.out.2.2.2.1).mono ?_; clear HSET; rintro e w3 ⟨rfl, hT3, M3, rs3, sz3, FJ3, F3, hR3⟩; have hB23 : Below w.heap.size w (w2.alloc (.cells #[.string abS, .int .u64 7] 38)) := H2.out.2.2.2.2.alloc H2.out.2.2.2.2.size _; have hget := rget_any w3 r _ j b M3 rs3 _ _ sz3 false FJ3 F3 hR3 abS (by decide); rw [show setR (fun _ => (0 : Int)) (bs abS) 7 (bs abS) = 7 from by simp [setR], if_neg (by decide)] at hget; have hlen := rlen_any w3 r _ j b M3 rs3 _ _ sz3 false FJ3 F3 hR3; have H3 : Hid (Below w.heap.size w w3) := hB23.trans (hT3.below hB23.size H2.out.2.2.1); clear hR3 hT3 hB23; unfold abS at hget)
    | (go_at_call 18; refine hget.mono ?_; clear hget; rintro e w4 ⟨rfl, h4⟩; subst h4)
    | (go_at_call 19; refine hlen.mono ?_; clear hlen; rintro e w5 ⟨rfl, h5⟩; subst h5)
  go_ret
  exact ⟨rfl, H3.out⟩
end Go.Proofs.YtiafhbpklddlnaaGreatDoor
