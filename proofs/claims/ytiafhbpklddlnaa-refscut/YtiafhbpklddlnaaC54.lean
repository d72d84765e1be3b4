import Derived.Test.YtiafhbpklddlnaaC53
/- The walk of the law RefsCut. -/
namespace Go.Proofs.Ytiafhbpklddlnaa
open Go.RowKit Go.Shelf Go.Maps

attribute [local go_sem] Oper.semAt_some

/-- an element of a script: a slice of changes -/
structure Els where
  x : Option Addr
  m : Nat
  c : Nat
  l : List Ch
/-- a slice of n slices of changes -/
def Scr (W : World) (a : Option Addr) (n : Nat) (E : Nat → Els) : Prop :=
  (0 < n → ∃ b off, a = some ⟨b, off, none⟩ ∧ ∀ k, k < n → W.cell? ⟨b, off + k, none⟩ = some (.slice (E k).x (E k).m (E k).c)) ∧
    ∀ k, k < n → Chs W (E k).x (E k).m (E k).l ∧ ShortR (E k).l ∧ ∀ x ∈ (E k).l, 0 ≤ x.2 ∧ x.2 ≤ 18446744073709551615
theorem Scr.below {w W : World} {a : Option Addr} {n : Nat} {E : Nat → Els} (h : Scr w a n E) (hB : Below w.heap.size w W) : Scr W a n E := by
  refine ⟨fun h0 => ?_, fun k hk => ⟨(h.2 k hk).1.kept hB, (h.2 k hk).2⟩⟩
  obtain ⟨b, off, e, hc⟩ := h.1 h0
  exact ⟨b, off, e, fun k hk => (hB.cell (p := ⟨b, off + k, none⟩) (World.block_lt_of_cell? w _ (hc k hk))).trans (hc k hk)⟩

/-- all refs, of refs on a disk that may be cut -/
theorem call_any (W : World) (r d : Nat) (g : List UInt8 → Int) (n : Nat) (rs : List (List UInt8)) (S : DG) (F G : Nat → Prop) (dead : Bool) (L : List Ch) (h : RfC W r d g n rs S F G dead) (hN : NamesR g n) (hL : AllR g n L) :
    Calls Try.prog 15 #[.pointer (some ⟨r, 0, none⟩)] W fun e w' => ∃ ad cp, e = .returned (.slice ad L.length cp) ∧ Chs w' ad L.length L ∧ (∀ y, ad = some y → W.heap.size ≤ y.block ∧ y.block < w'.heap.size) ∧ Below W.heap.size W w' := by
  obtain ⟨j, b, M', FJ, hr⟩ := h.rf
  refine (lall_any W r d j b M' rs g n _ dead FJ F hr (by have := hN.2; omega) L hL).mono ?_
  rintro e w' ⟨ad, cp, rfl, hrow, hB⟩
  obtain ⟨h1, h2⟩ := row_chs_at hrow rfl
  exact ⟨ad, cp, rfl, h1, h2, hB⟩
theorem alike_same (w : World) (a b : Option Addr) (c1 c2 : Nat) (L : List Ch) (ha : Chs w a L.length L) (hb : Chs w b L.length L) (hn : L.length ≤ 1000000) :
    Calls Try.prog 18 #[.slice a L.length c1, .slice b L.length c2] w fun e w' => e = .returned (.bool true) ∧ Below w.heap.size w w' := by
  have := lalike_any w a b _ _ c1 c2 L L ha hb hn
  rwa [decide_eq_true rfl] at this
/-- Open on a copy of the disk -/
theorem open_copy (w1 : World) (d : Nat) (g : List UInt8 → Int) (n : Nat) (rs : List (List UInt8)) (S : DG) (G : Nat → Prop) (hd : IsDisk w1 d S G) (hcg : CG S refNm.data.toList rs false) (hld : loadR decRf rs noR = some (g, n)) (hfit : (fileB rs).length ≤ 2000000) :
    Calls Try.prog 17 #[.pointer (some ⟨d, 0, none⟩)] w1 fun e w2 => ∃ q, e = .returned (.pointer (some ⟨q, 0, none⟩)) ∧ Below w1.heap.size w1 w2 ∧ Calls Try.prog 7 #[.pointer (some ⟨q, 0, none⟩)] w2 fun e w3 => ∃ r3 S3 F3 G3, e = .returned (.tuple #[.pointer (some ⟨r3, 0, none⟩), .int .i64 0]) ∧ RfC w3 r3 q g n rs S3 F3 G3 false ∧ S3.cut = false ∧ S3.wr ≤ 1 ∧ Below w1.heap.size w1 w3 ∧ ∀ z, F3 z ∨ G3 z → w1.heap.size ≤ z := by
  have hn := hcg.n
  have hlen := hcg.len
  refine (copy_any d S G w1 hd (fun l bs hb => ?_) (by omega)).mono ?_
  · by_cases e : l = refNm.data.toList
    · have : S.bs refNm.data.toList = bs := by unfold DG.bs; rw [← e, hb]; rfl
      rw [← this]; omega
    · rw [hcg.only l e] at hb; cases hb
  · rintro e w2 ⟨q, rfl, hq, hB2⟩
    refine ⟨q, rfl, hB2, ?_⟩
    have hcg' : CG S.copy refNm.data.toList rs false := hcg.same rfl rfl
    refine (ropen_c w2 q g n rs S.copy _ false hq hcg' rfl hld (by omega) (by show 0 ≤ _; omega)).mono ?_
    rintro e w3 ⟨r3, S3, F3, G3, rfl, hR, hc, hw, hT, hF, hG⟩
    have hs2 := hB2.size
    have hgr : ∀ z, grow (fun _ => False) w1 w2 z → w1.heap.size ≤ z := fun z hz => hz.elim False.elim (fun h => h.1)
    refine ⟨r3, S3, F3, G3, rfl, hR, hc, by have h0 : S.copy.wr = 0 := rfl; omega, hB2.trans (hT.below hs2 hgr), fun z hz => hz.elim (fun h => by have := hF z h; omega) (fun h => (hG z h).elim (hgr z) (fun e => by omega))⟩

theorem allR_none : AllR (fun _ => 0) 0 [] := ⟨[], List.nodup_nil, fun x => by simp, rfl, by simp⟩
theorem mod_sixty (k : Int) : ∃ j : Nat, wrap64 ((IntKind.u64.wrap k).tmod 60) = (j : Int) ∧ j < 60 := by
  have h1 : 0 ≤ IntKind.u64.wrap k := by rw [IntKind.wrap_u64]; omega
  rw [Int.tmod_eq_emod_of_nonneg h1]
  have h2 : 0 ≤ IntKind.u64.wrap k % 60 := Int.emod_nonneg _ (by omega)
  have h3 : IntKind.u64.wrap k % 60 < 60 := Int.emod_lt_of_pos _ (by omega)
  refine ⟨(IntKind.u64.wrap k % 60).toNat, ?_, by omega⟩
  generalize IntKind.u64.wrap k % 60 = x at *
  unfold wrap64
  omega

set_option maxRecDepth 100000 in
set_option maxHeartbeats 8000000 in
theorem refsCut_walk (w : World) (a : Option Addr) (m c : Nat) (E : Nat → Els) (hsc : Scr w a m E) (n0 : Int) :
    Calls Try.prog 4 #[.slice a m c, .int .i64 n0] w fun e w' => e = .returned (.bool true) ∧ Below w.heap.size w w' := by
  have hwk := rwakes_any
  have hnw := new_any
  have HOP : Hid (∀ W d S G, IsDisk W d S G → JGd S refNm.data.toList [] → Calls Try.prog 7 #[.pointer (some ⟨d, 0, none⟩)] W fun e w' => ∃ r F G', e = .returned (.tuple #[.pointer (some ⟨r, 0, none⟩), .int .i64 0]) ∧ RfG w' r d (fun _ => 0) 0 [] S F G' ∧ Turn G W w' ∧ (∀ k, F k → W.heap.size ≤ k) ∧ (∀ k, G' k → G k ∨ W.heap.size ≤ k)) := fun W d S G hd hg => ropen_good W d _ 0 [] S G hd hg rfl (by simp [fileB]) (fun p hp => by cases hp)
  have HSC : Hid (Scr w a m E) := hsc
  clear hsc
  obtain ⟨t, ht, ht60⟩ := mod_sixty n0
  go_enter Try.func4, Try.ntmps4
  go_wp2_with first
    | (go_at_call 6; refine (hwk _).mono ?_; rintro e w1 ⟨rfl, B1⟩)
    | (go_at_call 13; refine (hnw _).mono ?_; clear hnw; rintro e w2 ⟨rfl, hd2, B2⟩)
    | (go_at_call 7; refine (HOP.out _ _ _ _ hd2 (JGd.new _)).mono ?_; clear HOP; rintro e w3 ⟨r, F, G, rfl, hR3, hT3, hF3, hG3⟩; have HB3 : Hid (Below w.heap.size w w3 ∧ ∀ z, F z ∨ G z → w.heap.size ≤ z) := ⟨(B1.trans (B2.mono B1.size)).trans (hT3.below (Nat.le_trans B1.size B2.size) (fun k hk => by have := B1.size; omega)), fun z hz => hz.elim (fun h => by have := hF3 z h; have := B1.size; have := B2.size; omega) (fun h => (hG3 z h).elim (fun h => by have := B1.size; omega) (fun h => by have := B1.size; have := B2.size; omega))⟩; have HR3 : Hid (RfG w3 r (w1.heap.size + 1) (fun _ => 0) 0 [] ⟨fun _ => none, 0, 0, false, 0⟩ F G) := hR3; have hct := cut_any (w1.heap.size + 1) _ G w3 t hR3.dk (by omega); clear hR3 hT3 hF3 hG3 hd2 B1 B2)
  refine hct.mono ?_
  rintro e w4 ⟨rfl, hd4, hT4⟩
  have HR4 : Hid (RfC w4 r (w1.heap.size + 1) (fun _ => 0) 0 [] ⟨fun _ => none, 0, 0, true, t⟩ F G false ∧ Below w.heap.size w w4 ∧ ∀ z, F z ∨ G z → w.heap.size ≤ z) := (by
          obtain ⟨j, b, M, FJ, hr⟩ := HR3.out.rf
          refine ⟨⟨⟨j, b, M, FJ, hr.turn hT4 HR3.out.dis⟩, hd4, HR3.out.dis, CG.of_whole false rfl (by simp) (fun _ => rfl) (fun r hr => by cases hr) (fun _ _ => rfl), HR3.out.ld⟩, HB3.out.1.trans (hT4.below HB3.out.1.size (fun z hz => HB3.out.2 z (.inr hz))), HB3.out.2⟩ : RfC w4 r (w1.heap.size + 1) (fun _ => 0) 0 [] ⟨fun _ => none, 0, 0, true, t⟩ F G false ∧ Below w.heap.size w w4 ∧ ∀ z, F z ∨ G z → w.heap.size ≤ z)
  have hal := call_any w4 r (w1.heap.size + 1) _ 0 [] _ F G false [] HR4.out.1 ⟨fun k hk => absurd rfl hk, by omega⟩ allR_none
  clear hd4 hT4 HR3 HB3 hct
  go_wp2_with (go_at_call 15; refine hal.mono ?_; clear hal; rintro e w5 ⟨ad, cpA, rfl, hch5, hab5, hB5⟩; have HI0 : Hid (CInv w w5 r (w1.heap.size + 1) (fun _ => 0) 0 [] ⟨fun _ => none, 0, 0, true, t⟩ F G 0 ad []) := (by
          obtain ⟨h1, h2, h3⟩ := HR4.out
          refine ⟨h1.below hB5, ⟨fun k hk => absurd rfl hk, by omega⟩, by simp [fileB], by simp, h2.trans (hB5.mono h2.size), h3, fun y hy => ⟨fun e => by have := h1.lt _ e; have := (hab5 y hy).1; omega, (hab5 y hy).2⟩, hch5, allR_none⟩ : CInv w w5 r (w1.heap.size + 1) (fun _ => 0) 0 [] ⟨fun _ => none, 0, 0, true, t⟩ F G 0 ad []); clear hch5 hab5 hB5 HR4)
  generalize w1.heap.size + 1 = d at *
  go_loopw [9, 47] (fun va i wr => ∃ (k : Nat) (g : List UInt8 → Int) (n : Nat) (rs : List (List UInt8)) (S : DG) (F G : Nat → Prop) (ad : Option Addr) (cpA : Nat) (LA : List Ch), k ≤ m ∧ k ≤ 25 ∧ i = .int .i64 (k : Int) ∧ va = .slice ad LA.length cpA ∧ Hid (CInv w wr r d g n rs S F G k ad LA)) (fun _ i _ => m - (intOf i).toNat)
  case atStart => exact ⟨0, _, _, _, _, _, _, ad, cpA, [], Nat.zero_le _, Nat.zero_le _, rfl, rfl, HI0⟩
  case round =>
    clear HI0 F G ht
    obtain ⟨k, g, n, rs, S, F, G, ad, cpA, LA, hk, hk25, rfl, rfl, H⟩ := hrel
    by_cases hlt : k < m
    · obtain ⟨b1, o1, rfl, hc1⟩ := (HSC.out.below H.out.bel).1 (by omega)
      have q1 := hc1 k hlt
      have hel := (HSC.out.below H.out.bel).2 k hlt
      have i2 : (k : Int) < (m : Int) := by omega
      have i3 : ¬ m ≤ k := by omega
      clear hc1
      by_cases h25 : k = 25
      · subst h25
        go_wp2_with (go_at_call 6; refine (hwk _).mono ?_; rintro e w6 ⟨rfl, hB6⟩)
        go_ret
        exact ⟨rfl, H.out.bel.trans (hB6.mono H.out.bel.size)⟩
      · have i4 : ¬ (k : Int) = 25 := by omega
        generalize E k = ek at q1 hel
        obtain ⟨ex, em, ec, el⟩ := ek
        simp only at q1 hel
        have hcut := lcut_any wr ex em ec el hel.1 hel.2.1
        have hci := cutR_ids hel.2.2
        have hcs := cutR_short el
        have hcl := cutR_len el
        generalize cutR el = L at hcut hci hcs hcl
        have HL : Hid (L.length ≤ 80 ∧ ShortR L ∧ (∀ x ∈ L, 0 ≤ x.2 ∧ x.2 ≤ 18446744073709551615)) := ⟨by omega, fun j x hx => by have := hcs x (List.mem_of_getElem? hx); unfold maxLen; omega, hci⟩
        have hb17 : k * 17470 ≤ 24 * 17470 := Nat.mul_le_mul (by omega) (Nat.le_refl _)
        have HLA : Hid (LA.length ≤ 1000000) := (by rw [H.out.all.len]; have := H.out.nm.2; omega : LA.length ≤ 1000000)
        clear hel hci hcs hcl
        go_wp2_with first
          | (go_at_call 16; refine hcut.mono ?_; clear hcut; rintro e w1 ⟨sa, sc, rfl, hrow1, hB1⟩; have H1 : Hid (CInv w w1 r d g n rs S F G k ad LA ∧ Chs w1 sa L.length L ∧ (∀ y, sa = some y → wr.heap.size ≤ y.block ∧ y.block < w1.heap.size) ∧ (∀ z, F z ∨ G z → z < wr.heap.size) ∧ wr.heap.size ≤ w1.heap.size) := ⟨H.out.below hB1, (row_chs_at hrow1 rfl).1, (row_chs_at hrow1 rfl).2, H.out.rf.lt, hB1.size⟩; have hcop := open_copy w1 d g n rs S G H1.out.1.rf.dk H1.out.1.rf.cg H1.out.1.rf.ld (by have := H.out.len; omega); clear hrow1 hB1)
          | (go_at_call 17; refine hcop.mono ?_; clear hcop; rintro e w2 ⟨q, rfl, hB2, hopn⟩)
          | (go_at_call 7; refine hopn.mono ?_; clear hopn; rintro e w3 ⟨r3, S3, F3, G3, rfl, hR3, hc3, hw3, hB3, hY3⟩; have H3 : Hid (CT w w3 r d r3 q g g n n rs rs S S3 F G F3 G3 false ad LA sa L.length L ∧ S3.cut = false ∧ S3.wr ≤ 1) := (by
                obtain ⟨hA, hch, hsb, hlt', hs1⟩ := H1.out
                have hA3 := hA.below hB3
                have hs3 := hB3.size
                have hbw := hA.bel.size
                refine ⟨⟨hA3.rf, hR3, hA3.bel, hA3.q, fun z hz => by have := hY3 z hz; omega, fun z hz hz' => by have := hY3 z hz'; have := hlt' z hz; omega, fun y hy => ⟨(hA3.adx y hy).1, fun e => by have := hY3 _ e; have := (hA.adx y hy).2; omega, (hA3.adx y hy).2⟩, fun y hy => ⟨fun e => by have := hlt' _ e; have := (hsb y hy).1; omega, fun e => by have := hY3 _ e; have := (hsb y hy).2; omega, by have := (hsb y hy).2; omega⟩, hA3.row, hch.kept hB3, hA.nm, hA.nm, ?_, ?_⟩, hc3, hw3⟩
                · have h1 := hA.len; have h2 := hA.wrs; exact ⟨by omega, by omega⟩
                · have h1 := hA.len; exact ⟨by omega, by omega⟩ : CT w w3 r d r3 q g g n n rs rs S S3 F G F3 G3 false ad LA sa L.length L ∧ S3.cut = false ∧ S3.wr ≤ 1); have hal3 := call_any w3 r3 q g n rs S3 F3 G3 false LA H3.out.1.b H.out.nm H.out.all; clear hR3 hc3 hw3 hB3 hY3 hB2)
          | (go_at_call 15; refine hal3.mono ?_; clear hal3; rintro e w4 ⟨a4, c4, rfl, hch4, hab4, hB4⟩; have hlk4 := alike_same w4 a4 ad c4 cpA LA hch4 (H3.out.1.below hB4).adr HLA.out)
          | (go_at_call 18; refine hlk4.mono ?_; clear hlk4; rintro e w5 ⟨rfl, hB5⟩; have H5 : Hid (CT w w5 r d r3 q g g n n rs rs S S3 F G F3 G3 false ad LA sa L.length L ∧ S3.cut = false ∧ S3.wr ≤ 1) := ⟨(H3.out.1.below hB4).below hB5, H3.out.2⟩; have hst3 := rset_c w5 r3 q g n rs S3 F3 G3 H5.out.1.b H5.out.1.nm3 sa L.length sc L H5.out.1.sar HL.out.2.1 HL.out.2.2 (by have := HL.out.1; omega) (by have := H5.out.1.len3.1; omega) (by have := H5.out.1.len3.2; omega); clear H3 hch4 hab4 hB4 hB5)
          | (go_at_call 8; refine hst3.mono ?_; clear hst3; rintro e w6 ⟨er3, g3, n3, rs3, S3', F3', G3', dd, rfl, P3⟩; obtain ⟨hd3, hcut3⟩ := P3.free H5.out.2.1; subst hd3; have H6 : Hid (CT w w6 r d r3 q g g3 n n3 rs rs3 S S3' F G F3' G3' false ad LA sa L.length L ∧ er3 = chkR g n L ∧ (chkR g n L ≠ 0 → g3 = g ∧ n3 = n) ∧ (chkR g n L = 0 → (g3, n3) = applyR (g, n) (newsR g L))) := (by
                refine ⟨H5.out.1.setB P3 ?_, ?_⟩
                · have h1 := P3.len; have h2 := P3.wr; have h3 := H1.out.1.len; have h4 := H5.out.2.2; have h5 := HL.out.1
                  exact ⟨by omega, by omega⟩
                · rcases P3.res with ⟨_, h1, h2, h3⟩ | ⟨h1, _⟩
                  · exact ⟨h1, h2, h3⟩
                  · exact absurd h1 (by decide) : CT w w6 r d r3 q g g3 n n3 rs rs3 S S3' F G F3' G3' false ad LA sa L.length L ∧ er3 = chkR g n L ∧ (chkR g n L ≠ 0 → g3 = g ∧ n3 = n) ∧ (chkR g n L = 0 → (g3, n3) = applyR (g, n) (newsR g L))); have hstA := rset_c w6 r d g n rs S F G H6.out.1.a H6.out.1.nm sa L.length sc L H6.out.1.sar HL.out.2.1 HL.out.2.2 (by have := HL.out.1; omega) (by have := H6.out.1.len.1; omega) (by have := H6.out.1.len.2; omega); clear P3 H5 hcut3)
        refine hstA.mono ?_
        clear hstA
        rintro e w7 ⟨er, g', n', rs', S', F', G', dead, rfl, P⟩
        have hl7 : (fileB rs').length ≤ (k + 1) * 17470 ∧ S'.wr ≤ (k + 1) * 17470 := by
          have h1 := P.len; have h2 := P.wr; have h3 := H1.out.1.len; have h4 := H1.out.1.wrs; have h5 := HL.out.1
          rw [Nat.add_mul]
          exact ⟨by omega, by omega⟩
        have hk17 : (k + 1) * 17470 ≤ 25 * 17470 := Nat.mul_le_mul (by omega) (Nat.le_refl _)
        have H7 : Hid (CT w w7 r d r3 q g' g3 n' n3 rs' rs3 S' S3' F' G' F3' G3' dead ad LA sa L.length L ∧ (fileB rs').length ≤ (k + 1) * 17470 ∧ S'.wr ≤ (k + 1) * 17470) := ⟨H6.out.1.setA P ⟨by omega, by omega⟩, hl7⟩
        have hne6 := chkR_ne6 g n L
        rcases P.res with ⟨hd, her, hb, hg⟩ | ⟨hd, her, hc0, hg, hn⟩
        · subst hd
          obtain ⟨h61, h62, h63⟩ := H6.out.2
          obtain ⟨rfl, rfl⟩ : g' = g3 ∧ n' = n3 := by
            by_cases e : chkR g n L = 0
            · have h1 := hg e
              rw [← h63 e] at h1
              exact ⟨congrArg Prod.fst h1, congrArg Prod.snd h1⟩
            · obtain ⟨rfl, rfl⟩ := hb e
              obtain ⟨rfl, rfl⟩ := h62 e
              exact ⟨rfl, rfl⟩
          rw [← h61] at her hne6
          subst her
          have hne6' : (er == 6) = false := beq_eq_false_iff_ne.2 hne6
          obtain ⟨L', hL'⟩ := H7.out.1.a.cnt.all
          have HL' : Hid (AllR g' n' L' ∧ L'.length ≤ 1000000) := ⟨hL', by rw [hL'.len]; have := H7.out.1.nm.2; omega⟩
          have hal7 := call_any w7 r d g' n' rs' S' F' G' false L' H7.out.1.a H7.out.1.nm hL'
          clear h61 h62 h63 hb hg P H6 hne6 hL' hl7 H1 H
          go_wp2_with first
            | (go_at_call 15; refine hal7.mono ?_; clear hal7; rintro e w8 ⟨a8, c8, rfl, hch8, hab8, hB8⟩; have H8 : Hid _ := H7.out.1.below hB8; have hal8 := call_any w8 r3 q g' n' rs3 S3' F3' G3' false L' H8.out.b H8.out.nm3 HL'.out.1)
            | (go_at_call 15; refine hal8.mono ?_; clear hal8; rintro e w9 ⟨a9, c9, rfl, hch9, hab9, hB9⟩; have hlk9 := alike_same w9 a8 a9 c8 c9 L' (hch8.kept hB9) hch9 HL'.out.2)
            | (go_at_call 18; refine hlk9.mono ?_; clear hlk9; rintro e w10 ⟨rfl, hB10⟩; have H10 : Hid _ := (H8.out.below hB9).below hB10; have hal10 := call_any w10 r d g' n' rs' S' F' G' false L' H10.out.a H10.out.nm HL'.out.1; clear hB8 hB9 hB10 hch8 hch9 hab8 hab9 H8)
            | (go_at_call 15; refine hal10.mono ?_; clear hal10; rintro e w11 ⟨a11, c11, rfl, hch11, hab11, hB11⟩; have H11 : Hid (CInv w w11 r d g' n' rs' S' F' G' (k + 1) a11 L') := (by
                have h := H10.out.below hB11
                exact ⟨h.a, h.nm, H7.out.2.1, H7.out.2.2, h.bel, h.x0, fun y hy => ⟨fun e => by have := H10.out.a.lt _ e; have := (hab11 y hy).1; omega, (hab11 y hy).2⟩, hch11, HL'.out.1⟩ : CInv w w11 r d g' n' rs' S' F' G' (k + 1) a11 L'); clear hch11 hab11 hB11)
          exact ⟨⟨k + 1, _, _, _, _, _, _, a11, c11, L', by omega, by omega, by simp, rfl, H11⟩, by simp [intOf]; omega⟩
        · subst hd
          subst her
          subst hg
          subst hn
          obtain ⟨h61, _, h63⟩ := H6.out.2
          rw [hc0] at h61
          subst h61
          have HG3 : Hid ((g3, n3) = applyR (g', n') (newsR g' L) ∧ chkR g' n' L = 0 ∧ AllR g' n' LA) := ⟨h63 hc0, hc0, H.out.all⟩
          obtain ⟨L3, hL3⟩ := H7.out.1.b.cnt.all
          have HL3 : Hid (AllR g3 n3 L3 ∧ L3.length ≤ 1000000) := ⟨hL3, by rw [hL3.len]; have := H7.out.1.nm3.2; omega⟩
          have hal7 := call_any w7 r d g' n' rs' S' F' G' true LA H7.out.1.a H7.out.1.nm H.out.all
          clear h63 hb17 hc0 P H6 hne6 hL3 hl7 H1 H
          go_wp2_with first
            | (go_at_call 15; refine hal7.mono ?_; clear hal7; rintro e w8 ⟨a8, c8, rfl, hch8, hab8, hB8⟩; have H8 : Hid _ := H7.out.1.below hB8; have hlk8 := alike_same w8 a8 ad c8 cpA LA hch8 H8.out.adr HLA.out)
            | (go_at_call 18; refine hlk8.mono ?_; clear hlk8; rintro e w9 ⟨rfl, hB9⟩; have H9 : Hid _ := H8.out.below hB9; have hmd := mend_any d S' G' w9 H9.out.a.dk; clear hB8 hB9 hch8 hab8 H8)
            | (go_at_call 19; refine hmd.mono ?_; clear hmd; rintro e w10 ⟨rfl, hd10, hT10⟩; have hopn := ropen_c w10 d g' n' rs' _ G' true hd10 (H9.out.a.cg.same rfl rfl) rfl H9.out.a.ld (by have := H9.out.len.1; omega) (by have := H9.out.len.2; show S'.wr ≤ _; omega))
            | (go_at_call 7; refine hopn.mono ?_; clear hopn; rintro e w11 ⟨ra, Sa, Fa, Ga, rfl, hRa, hca, hwa, hTa, hFa, hGa⟩; have H11 : Hid (CT w w11 ra d r3 q g' g3 n' n3 rs' rs3 Sa S3' Fa Ga F3' G3' false ad LA sa L.length L ∧ Sa.cut = false) := (by
                have hs10 := hT10.size
                refine ⟨H9.out.moveA ((hT10.wide (fun z hz => .inr hz)).trans hTa (fun z _ hz => .inr hz)) hRa (fun z hz => hz.elim (fun e => .inr (by have := hFa z e; omega)) (fun e => (hGa z e).imp .inr (fun e => by omega))) H9.out.nm ⟨H9.out.len.1, ?_⟩, hca⟩
                have h1 := H7.out.2.2
                have h2 : ({ S' with cut := false, left := 0 } : DG).wr = S'.wr := rfl
                omega : CT w w11 ra d r3 q g' g3 n' n3 rs' rs3 Sa S3' Fa Ga F3' G3' false ad LA sa L.length L ∧ Sa.cut = false); have HSw : Hid (Sa.wr ≤ 25 * 17470 + 1) := (by have h1 := H7.out.2.2; have h2 : ({ S' with cut := false, left := 0 } : DG).wr = S'.wr := rfl; omega : Sa.wr ≤ 25 * 17470 + 1); have hal11 := call_any w11 ra d g' n' rs' Sa Fa Ga false LA H11.out.1.a H11.out.1.nm HG3.out.2.2; clear hd10 hT10 hRa hca hwa hTa hFa hGa H9)
            | (go_at_call 15; refine hal11.mono ?_; clear hal11; rintro e w12 ⟨a12, c12, rfl, hch12, hab12, hB12⟩; have H12 : Hid _ := H11.out.1.below hB12; have hlk12 := alike_same w12 a12 ad c12 cpA LA hch12 H12.out.adr HLA.out)
            | (go_at_call 18; refine hlk12.mono ?_; clear hlk12; rintro e w13 ⟨rfl, hB13⟩; have H13 : Hid (CT w w13 ra d r3 q g' g3 n' n3 rs' rs3 Sa S3' Fa Ga F3' G3' false ad LA sa L.length L ∧ Chs w13 a12 LA.length LA ∧ ∀ y, a12 = some y → ¬ (Fa y.block ∨ Ga y.block)) := ⟨H12.out.below hB13, hch12.kept hB13, fun y hy e => by have := H11.out.1.a.lt _ e; have := (hab12 y hy).1; omega⟩; have hst13 := rset_c w13 ra d g' n' rs' Sa Fa Ga H13.out.1.a H13.out.1.nm sa L.length sc L H13.out.1.sar HL.out.2.1 HL.out.2.2 (by have := HL.out.1; omega) (by have := H13.out.1.len.1; omega) (by have := H13.out.1.len.2; omega); clear H12 hB12 hB13 hch12 hab12)
          refine hst13.mono ?_
          clear hst13
          rintro e w14 ⟨era, ga, na, rsa, Sa', Fa', Ga', dd, rfl, PA⟩
          obtain ⟨hdd, _⟩ := PA.free H11.out.2
          subst hdd
          obtain ⟨rfl, hga⟩ : era = 0 ∧ (ga, na) = applyR (g', n') (newsR g' L) := by
            rcases PA.res with ⟨_, h1, _, h3⟩ | ⟨h1, _⟩
            · exact ⟨by rw [h1]; exact HG3.out.2.1, h3 HG3.out.2.1⟩
            · cases h1
          obtain ⟨rfl, rfl⟩ : ga = g3 ∧ na = n3 := by
            rw [← HG3.out.1] at hga
            exact ⟨congrArg Prod.fst hga, congrArg Prod.snd hga⟩
          have H14 : Hid (CT w w14 ra d r3 q ga ga na na rsa rs3 Sa' S3' Fa' Ga' F3' G3' false ad LA sa L.length L ∧ Chs w14 a12 LA.length LA) := ⟨H13.out.1.setA PA (by
            have h1 := PA.len; have h2 := PA.wr; have h3 := H7.out.2.1; have h4 := H13.out.1.len; have h5 := HL.out.1
            have h6 := H7.out.2.2
            exact ⟨by omega, by have := H13.out.1.len.2; have := HSw.out; omega⟩), H13.out.2.1.turn PA.tn H13.out.2.2⟩
          have hal14 := call_any w14 r3 q ga na rs3 S3' F3' G3' false L3 H14.out.1.b H14.out.1.nm3 HL3.out.1
          have HLK : Hid (∀ W a1 a2 c1 c2, Chs W a1 LA.length LA → Chs W a2 L3.length L3 → Calls Try.prog 18 #[.slice a1 LA.length c1, .slice a2 L3.length c2] W fun e w' => e = .returned (.bool (decide (LA = L3))) ∧ Below W.heap.size W w') := fun W a1 a2 c1 c2 h1 h2 => lalike_any W a1 a2 _ _ c1 c2 LA L3 h1 h2 HLA.out
          clear PA H13 H11 hga H7
          by_cases hLL : LA = L3
          · rw [decide_eq_true hLL] at HLK
            clear hLL
            go_wp2_with first
              | (go_at_call 15; refine hal14.mono ?_; clear hal14; rintro e w15 ⟨a15, c15, rfl, hch15, hab15, hB15⟩; have hlk15 := HLK.out w15 a12 a15 c12 c15 (H14.out.2.kept hB15) hch15)
              | (go_at_call 18; refine hlk15.mono ?_; clear hlk15; rintro e w16 ⟨rfl, hB16⟩; have hb16 := ((H14.out.1.below hB15).below hB16).bel; clear hB15 hB16 hch15 hab15)
              | (go_at_call 6; refine (hwk _).mono ?_; rintro e w20 ⟨rfl, hB20⟩)
            go_ret
            exact ⟨rfl, hb16.trans (hB20.mono hb16.size)⟩
          · rw [decide_eq_false hLL] at HLK
            clear hLL
            go_wp2_with first
              | (go_at_call 15; refine hal14.mono ?_; clear hal14; rintro e w15 ⟨a15, c15, rfl, hch15, hab15, hB15⟩; have hlk15 := HLK.out w15 a12 a15 c12 c15 (H14.out.2.kept hB15) hch15)
              | (go_at_call 18; refine hlk15.mono ?_; clear hlk15 HLK; rintro e w16 ⟨rfl, hB16⟩; have H16 : Hid _ := (H14.out.1.below hB15).below hB16; have hal16 := call_any w16 ra d ga na rsa Sa' Fa' Ga' false L3 H16.out.a H16.out.nm HL3.out.1; clear hB15 hB16 hch15 hab15 H14)
              | (go_at_call 15; refine hal16.mono ?_; clear hal16; rintro e w17 ⟨a17, c17, rfl, hch17, hab17, hB17⟩; have H17 : Hid _ := H16.out.below hB17; have hal17 := call_any w17 r3 q ga na rs3 S3' F3' G3' false L3 H17.out.b H17.out.nm3 HL3.out.1)
              | (go_at_call 15; refine hal17.mono ?_; clear hal17; rintro e w18 ⟨a18, c18, rfl, hch18, hab18, hB18⟩; have hlk18 := alike_same w18 a17 a18 c17 c18 L3 (hch17.kept hB18) hch18 HL3.out.2)
              | (go_at_call 18; refine hlk18.mono ?_; clear hlk18; rintro e w19 ⟨rfl, hB19⟩; have hb19 := ((H17.out.below hB18).below hB19).bel; clear hB17 hB18 hB19 hch17 hch18 hab17 hab18 H16 H17)
              | (go_at_call 6; refine (hwk _).mono ?_; rintro e w20 ⟨rfl, hB20⟩)
            go_ret
            exact ⟨rfl, hb19.trans (hB20.mono hb19.size)⟩
    · obtain rfl : k = m := by omega
      have i2 : ¬ (k : Int) < (k : Int) := by omega
      go_wp2_with (go_at_call 6; refine (hwk _).mono ?_; rintro e w6 ⟨rfl, hB6⟩)
      go_ret
      exact ⟨rfl, H.out.bel.trans (hB6.mono H.out.bel.size)⟩
end Go.Proofs.Ytiafhbpklddlnaa
