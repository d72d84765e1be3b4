import Derived.Test.YtcbmofapnjdmgaaDoorDD23
/- The walk of the reference disk's Append where the file is not there yet. -/
namespace Go.Proofs.YtcbmofapnjdmgaaDoor
open Go.RowKit Go.Maps

set_option maxRecDepth 20000 in
set_option maxHeartbeats 8000000 in
theorem rappend_none (p : Nat) (S : DG) (Fp : Nat → Prop) (w : World) (s : ByteArray) (a : Option Addr) (m c : Nat) (l : List UInt8) (h : IsRef w p S Fp) (hs : s.size ≤ maxLen) (hb : Bytes w a m l) (hmc : m ≤ c) (hnil : a = none → m = 0 ∧ c = 0)
    (ha : 0 < m → ∀ x, a = some x → ¬ Fp x.block ∧ x.block < w.heap.size) (_hbs : (S.bs s.data.toList).length ≤ 4194304) (hn : S.n ≤ 256) (hw : S.wr < 4000000000000000000) (hl : S.left ≤ 9223372036854775807) (hm : m ≤ 9223372036854775807) (hf : S.f s.data.toList = none) :
    Calls Tryd.prog 22 #[.pointer (some ⟨p, 0, none⟩), .string s, .slice a m c] w fun e w' => e = .returned (.int .i64 (S.app s.data.toList l).2) ∧ IsRef w' p (S.app s.data.toList l).1 (grow Fp w w') ∧ Turn Fp w w' := by
  have hlt := h.lt
  have hll := hb.1
  obtain ⟨fs, is, left, hR, hM⟩ := h
  have hname := rname_any s w hs
  have hfind := find_any p fs is S.wr left Fp w s hR
  have hisn : is.length ≤ 256 := by rw [← hM.n]; exact hn
  have HS : ∀ w1, Below w.heap.size w w1 → IsRef w1 p S (Go.Proofs.YtcbmofapnjdmgaaDoor.grow Fp w w1) ∧ Turn Fp w w1 := fun w1 B1 => ⟨IsRef.grow ⟨fs, is, left, hR.below B1, hM⟩ hlt (fun k hk => .inl hk) B1.size, Turn.of_below Fp B1⟩
  have HS' : Hid _ := HS
  clear HS
  cases hnb : nameB s.data.toList with
  | false =>
    have e : S.app s.data.toList l = (S, 2) := by simp [DG.app, hnb]
    rw [e]
    rw [hnb] at hname
    go_enter Tryd.func22, Tryd.ntmps22
    go_wp2_with fail
    refine hname.mono ?_
    rintro e w1 ⟨rfl, rfl⟩
    go_wp2
    go_ret
    exact ⟨rfl, HS'.out _ (Below.refl _ _)⟩
  | true =>
    rw [hnb] at hname
    obtain ⟨ad, cc, rfl, _, _, _, hcell⟩ := slice2 hR.row rfl
    have hc0 := hR.c0
    have hplt := hR.lt p hR.fp
    · rw [hM.ix_none s hf] at hfind
      have hbn : S.bs s.data.toList = [] := by simp [DG.bs, hf]
      by_cases hbad : 256 ≤ S.n ∨ 4194304 < m
      · have e : S.app s.data.toList l = (S, 3) := by
          unfold DG.app
          rw [hbn, if_neg (by simp [hnb]), if_pos (by rcases hbad with h1 | h1; exact .inr ⟨hf, h1⟩; exact .inl (by simp; omega))]
        rw [e]
        by_cases hfull : 256 ≤ is.length
        · have i1 : (256 : Int) ≤ (is.length : Int) := by omega
          go_enter Tryd.func22, Tryd.ntmps22
          go_wp2_with fail
          refine hname.mono ?_
          rintro e w0 ⟨rfl, rfl⟩
          go_wp2_with fail
          refine hfind.mono ?_
          rintro e w1 ⟨rfl, B1⟩
          have c01 : w1.cell? ⟨p, 0, none⟩ = some (.slice ad is.length cc) := by rw [B1.cell hplt]; exact hc0
          go_wp2
          go_ret
          exact ⟨rfl, HS'.out _ B1⟩
        · have i1 : ¬ (256 : Int) ≤ (is.length : Int) := by omega
          have i2 : (4194304 : Int) < (m : Int) := by rcases hbad with h1 | h1; rw [hM.n] at h1; omega; omega
          go_enter Tryd.func22, Tryd.ntmps22
          go_wp2_with fail
          refine hname.mono ?_
          rintro e w0 ⟨rfl, rfl⟩
          go_wp2_with fail
          refine hfind.mono ?_
          rintro e w1 ⟨rfl, B1⟩
          have c01 : w1.cell? ⟨p, 0, none⟩ = some (.slice ad is.length cc) := by rw [B1.cell hplt]; exact hc0
          go_wp2
          go_ret
          exact ⟨rfl, HS'.out _ B1⟩
      · obtain ⟨hb1, hb2⟩ := not_or.1 hbad
        have hisl : ¬ (256 : Int) ≤ (is.length : Int) := by have := hM.n; omega
        have i3 : ¬ (4194304 : Int) < (m : Int) := by omega
        have he : S.app s.data.toList l = pieces (l.length + 1) S s.data.toList l := by
          unfold DG.app
          rw [hbn, if_neg (by simp [hnb]), if_neg (by rintro (h1 | h1); (simp at h1; omega); exact hb1 h1.2), if_neg (fun h' => by simp [hf] at h')]
        obtain ⟨T, hT⟩ : ∃ T, S.app s.data.toList l = T := ⟨_, rfl⟩
        rw [hT] at he ⊢
        clear hT
        have HEQ : Hid (T = pieces (l.length + 1) S s.data.toList l) := he
        clear he
        go_enter Tryd.func22, Tryd.ntmps22
        go_wp2_with fail
        refine hname.mono ?_
        rintro e w0 ⟨rfl, rfl⟩
        go_wp2_with fail
        refine hfind.mono ?_
        rintro e w1 ⟨rfl, B1⟩
        have c01 : w1.cell? ⟨p, 0, none⟩ = some (.slice ad is.length cc) := by rw [B1.cell hplt]; exact hc0
        have HT0 : Hid (Doing m true (-1 : Int) S s.data.toList l T) := by
          refine .inl ⟨.inr ⟨rfl, rfl⟩, ?_⟩
          rw [HEQ.out, hll]
        have HRS0 : Hid (RS w0 w1 p S s (-1 : Int) Fp) := ⟨_, is, left, Fp, hR.below B1, hM, fun k hk => .inl hk, Turn.of_below Fp B1, .inl ⟨rfl, hf⟩⟩
        have HB0 : Hid (Bytes w1 a m l) := (Turn.of_below (fun _ => False) B1).bytes hb (fun _ _ _ => id)
        have HBD0 : Hid (((S.f s.data.toList).getD []).length + m ≤ 140737488355328 ∧ S.n ≤ 256 ∧ ((-1 : Int) = (-1 : Int) → S.n < 256) ∧ S.wr + m < 4611686018427387904 ∧ S.left ≤ 9223372036854775807 ∧ (true = true → S.wr + 1 < 4611686018427387904)) := ⟨by rw [hf]; simp; omega, hn, fun hh => by omega, by omega, hl, fun _ => by omega⟩
        have HA0 : Hid (0 < m → ∀ x, a = some x → ¬ Fp x.block ∧ x.block < w0.heap.size) := ha
        have HN0 : Hid (a = none → m = 0 ∧ c = 0) := hnil
        have Hlt : Hid (∀ k, Fp k → k < w0.heap.size) := hlt
        clear ha hnil hb hR hM HS' hfind hname hlt HEQ
        go_wp2_with fail
        go_loopw [2, 7, 8] (fun v2 v7 v8 wr => LR w0 p s Fp T v2 v7 v8 wr) (fun v2 _ v8 _ => meas v2 v8)
        case atStart => exact ⟨S, _, a, m, c, l, true, rfl, rfl, rfl, hmc, HRS0, HB0, ⟨HBD0.out.1, HBD0.out.2.1, fun _ => by have := HBD0.out.2.2.1; simpa using this, HBD0.out.2.2.2.1, HBD0.out.2.2.2.2.1, fun _ => by have := HBD0.out.2.2.2.2.2; simpa using this⟩, HA0, HN0, HT0⟩
        case round =>
          clear HRS0 HB0 HBD0 HA0 HN0 HT0
          obtain ⟨S', kk, a', m', c', l', first, rfl, rfl, rfl, hmc', HR, HB, HD, HA, HN, HT⟩ := hrel
          rcases HT.out with ⟨htodo, hpc⟩ | ⟨rfl, hnot, hdone⟩
          · have hk32 : kk = -1 ∨ 0 ≤ kk := by
              obtain ⟨_, _, _, _, _, _, _, _, h | ⟨k, _, h, _⟩⟩ := HR.out
              · exact .inl h.1
              · exact .inr (by omega)
            obtain ⟨fsx, isx, lx, Gp, hRx, hMx, hGx, hTx, hkk⟩ := HR.out
            have hD := HD.out
            have hwr := rwrite_S p fsx isx lx S' Gp wr hRx hMx (by omega) hD.2.2.2.2.1
            have hlt := Hlt.out
            have hpG := hRx.fp
            have Hpc : Hid (pieces (m' + 1) S' s.data.toList l' = T) := hpc
            have hm0' : (0 : Int) ≤ (m' : Int) := by omega
            have hmc2 : (m' : Int) ≤ (c' : Int) := by omega
            clear hpc HT
            rcases hk32 with hneg | hpos
            · obtain rfl : kk = -1 := hneg
              rcases Nat.eq_zero_or_pos m' with h0 | h0
              · have i5 : ¬ (0 : Int) < (m' : Int) := by omega
                obtain rfl : first = true := by
                  rcases htodo with h | h
                  · omega
                  · exact h.1
                have hm32 : m' ≤ 32 := by omega
                have hmc3 : (0 : Int) ≤ (c' : Int) := by omega
                obtain rfl : m' = 0 := h0
                cases hcan : S'.can with
                | false =>
                  have hTe : T = (S', 6) := by rw [← Hpc.out, pieces, if_neg (by simp [hcan])]
                  rw [hcan] at hwr
                  have HTe : Hid _ := hTe
                  clear hTe Hpc
                  go_wp2_with fail
                  refine hwr.mono ?_
                  rintro e w2 ⟨rfl, hT2, hs2, _, h2'⟩
                  have hT : Turn Fp w0 w2 := hTx.trans hT2 (fun i hi h => by subst h; exact (hGx _ hpG).elim id (fun h1 => by omega))
                  have hend : IsRef w2 p S' (Go.Proofs.YtcbmofapnjdmgaaDoor.grow Fp w0 w2) := IsRef.grow ⟨_, _, lx, h2' (by simp), hMx⟩ hlt hGx hT.size
                  have HE : Hid _ := hend
                  clear h2' hT2 hs2 hwr hend
                  go_wp2
                  go_ret
                  rw [HTe.out]
                  exact ⟨rfl, HE.out, hT⟩
                | true =>
                  have hfn : S'.f s.data.toList = none := by
                    rcases hkk with h | ⟨k, _, h, _⟩
                    · exact h.2
                    · omega
                  rw [hcan] at hwr
                  have j32 : ¬ (32 : Int) < (0 : Int) := by omega
                  have hnn' : 0 ≤ 0 := Nat.le_refl _
                  go_wp2_with fail
                  refine hwr.mono ?_
                  rintro e w2 ⟨rfl, hT2, hs2, h2', _⟩
                  obtain ⟨left', hR2, hM2⟩ := h2' (by simp)
                  have hT2' : Turn Fp w0 w2 := hTx.trans hT2 (fun i hi h => by subst h; exact (hGx _ hpG).elim id (fun h1 => by omega))
                  have hB2 : Bytes w2 a' 0 l' := hT2.bytes HB.out (fun h0 x hx e => by have h1 := HA.out h0 x hx; rw [e] at h1; exact (hGx _ hpG).elim h1.1 (fun h2 => by omega))
                  clear hwr h2' hT2 hs2
                  have c02 := hR2.c0
                  have f02 := hR2.f0
                  obtain ⟨adx, cx, rfl, _, _, _, _⟩ := slice2 hR2.row rfl
                  have hxl : isx.length < 256 := by
                    have e : S'.n = isx.length := hM2.n
                    have := hD.2.2.1 (by trivial)
                    omega
                  obtain ⟨wa, hwa⟩ : ∃ wa, wa = w2.alloc (.cells #[.string s, .slice none 0 0] 51) := ⟨_, rfl⟩
                  have BA : Below w2.heap.size w2 wa := by rw [hwa]; exact (Below.refl _ _).alloc (Nat.le_refl _) _
                  have hR2a := hR2.below BA
                  have Hown : Hid (wa.ownsRow 0 51 2 (.slice adx isx.length cx) isx.length (flat2 isx)) := hR2a.row
                  have Hgn : Hid (wa.heap[w2.heap.size]? = some (.cells #[.string s, .slice none 0 0] 51 (0, 0))) := by rw [hwa]; exact heap_alloc_new _ _
                  have HPush : Hid (∀ a2 c2 w5, w5.ownsRow 0 51 2 (.slice a2 (isx.length + 1) c2) (isx.length + 1) (flat2 isx ++ It.cells ⟨s, .slice none 0 0, []⟩) → wa.grownBy w5 (Value.slice adx isx.length cx).ownBlock → ((Value.slice a2 (isx.length + 1) c2).ownBlock = (Value.slice adx isx.length cx).ownBlock ∨ (Value.slice a2 (isx.length + 1) c2).ownBlock = some wa.heap.size) →
                      w5.cell? ⟨p, 0, none⟩ = some (.slice adx isx.length cx) ∧ w5.frozen? ⟨p, 0, none⟩ = false ∧ (w5.setCell ⟨p, 0, none⟩ (.slice a2 (isx.length + 1) c2)).cell? ⟨p, 0, none⟩ = some (.slice a2 (isx.length + 1) c2) ∧ Hid (∃ G3, RefAt (w5.setCell ⟨p, 0, none⟩ (.slice a2 (isx.length + 1) c2)) p (.slice a2 (isx.length + 1) c2) (isx ++ [⟨s, .slice none 0 0, []⟩]) S'.done.wr left' G3 ∧
                        Turn Fp w0 (w5.setCell ⟨p, 0, none⟩ (.slice a2 (isx.length + 1) c2)) ∧ (∀ k, G3 k → Fp k ∨ w0.heap.size ≤ k) ∧ Bytes (w5.setCell ⟨p, 0, none⟩ (.slice a2 (isx.length + 1) c2)) a' 0 l')) := by
                    intro a2 c2 w5 ho hg hat
                    have hmade := hR2a.made s a2 (isx.length + 1) c2 (by rw [flat2_snoc]; exact ho) hg (hat.imp id (fun e g h => by rw [e] at h; cases h; exact Nat.le_refl _)) rfl
                    have hpl := hR2a.lt p hR2a.fp
                    have hpb := hg.block p hpl (fun e => (hR2a.ff p e.symm).2 rfl)
                    have hTa : Turn Fp w0 wa := hT2'.trans (Turn.of_below (fun _ => False) BA) (fun _ _ h => h.elim)
                    have hBa : Bytes wa a' 0 l' := (Turn.of_below (fun _ => False) BA).bytes hB2 (fun _ _ _ => id)
                    refine ⟨by rw [World.cell?_of_block hpb]; exact hR2a.c0, by rw [World.frozen?_of_block hpb]; exact hR2a.f0, hmade.1.c0, _, hmade.1, hTa.trans hmade.2 (fun i hi h => (hGx i h).elim id (fun h1 => by omega)), ?_, ?_⟩
                    · exact fun k hk => hk.elim (hGx k) (fun h => .inr (by have := hTa.size; have := h.1; omega))
                    · exact hmade.2.bytes hBa (fun h0 x hx hg => (hGx _ hg).elim (HA.out h0 x hx).1 (fun h => by have := (HA.out h0 x hx).2; omega))
                  have hM3H : Hid (Match (S'.done.set s.data.toList []) (isx ++ [⟨s, .slice none 0 0, []⟩]) left') := by
                    have := hM2.push ⟨s, .slice none 0 0, []⟩ (by rw [It.k_eq.2 rfl]; exact hfn)
                    rw [It.k_eq.2 rfl] at this
                    exact this
                  subst hwa
                  clear BA hR2a hR2 hM2 hB2 hT2'
                  go_wp2_with (at_builtin; refine wpList_push_it ⟨s, .slice none 0 0, []⟩ rfl _ _ rfl 0 isx.length (.slice adx isx.length cx) _ rfl w2.heap.size rfl Hgn.out ⟨none, 0, 0, rfl⟩ Hown.out (by omega) (by simp) ?_; intro a2 c2 w5 ho2 hg2 hat2; obtain ⟨c05, f05, c06, HN3⟩ := HPush.out a2 c2 w5 ho2 hg2 hat2)
                  obtain ⟨G3, hR3, hT3, hG3, hB3⟩ := HN3.out
                  have hM3 := hM3H.out
                  obtain ⟨w3, hw3⟩ : ∃ w3, w3 = w5.setCell ⟨p, 0, none⟩ (.slice a2 (isx.length + 1) c2) := ⟨_, rfl⟩
                  rw [← hw3] at hR3 hT3 hB3 ⊢
                  obtain ⟨fs3, hfs3⟩ : ∃ fs3, fs3 = Value.slice a2 (isx.length + 1) c2 := ⟨_, rfl⟩
                  rw [← hfs3] at hR3
                  obtain ⟨is3, his3⟩ : ∃ is3 : List It, is3 = isx ++ [⟨s, .slice none 0 0, []⟩] := ⟨_, rfl⟩
                  have hk3 : is3[isx.length]? = some ⟨s, .slice none 0 0, []⟩ := by rw [his3]; simp
                  rw [← his3] at hR3 hM3
                  obtain ⟨i3, hi3⟩ : ∃ i3 : It, i3 = ⟨s, .slice none 0 0, []⟩ := ⟨_, rfl⟩
                  rw [← hi3] at hk3
                  have hin3 : i3.name = s := by rw [hi3]
                  obtain ⟨k3, hk3e⟩ : ∃ k3, k3 = isx.length := ⟨_, rfl⟩
                  rw [← hk3e] at hk3 ⊢
                  obtain ⟨S3, hS3⟩ : ∃ S3, S3 = S'.done.set s.data.toList [] := ⟨_, rfl⟩
                  have hwr3 : S'.done.wr = S3.wr := by rw [hS3]; rfl
                  rw [← hS3] at hM3
                  rw [hwr3] at hR3
                  have HS3 : S3 = S'.done ∨ (S3 = S'.done.set s.data.toList [] ∧ S'.f s.data.toList = none) := .inr ⟨hS3, hfn⟩
                  have hnil2 : a' = none → 0 = 0 ∧ c' = 0 := fun h => ⟨by have := (HN.out h).1; omega, (HN.out h).2⟩
                  clear hw3 hfs3 his3 hi3 hk3e hS3 hwr3 HN3 hM3H HPush Hgn Hown c05 f05 c06 ho2 hg2 hat2 c02 f02
                  have c03 := hR3.c0
                  obtain ⟨_, cF, e3, _, _, _, hcell3⟩ := slice2 hR3.row rfl
                  subst e3
                  obtain ⟨g, rfl, _, q31, qf3⟩ := hcell3 k3 i3 hk3
                  obtain ⟨va, vc, hv3, hvc3, hvn3⟩ := ownsRow_shape (hR3.each i3 (List.mem_of_getElem? hk3)).1
                  have hrow3 := (hR3.each i3 (List.mem_of_getElem? hk3)).1
                  rw [hv3] at hrow3 q31
                  have qf31 := qf3 (k3 * 2 + 1)
                  have hkl3 := (List.getElem?_eq_some_iff.1 hk3).1
                  have z1 : (0 : Int) ≤ (k3 : Int) := by omega
                  have z2 : (k3 : Int) < (is3.length : Int) := by omega
                  have hbk : S3.bs s.data.toList = i3.bs := by
                    have e := hM3.f i3.k
                    rw [It.k_eq.2 hin3] at e
                    cases hsk : seek is3 s.data.toList with
                    | none => exact absurd (It.k_eq.2 hin3) (seek_none.1 hsk i3 (List.mem_of_getElem? hk3))
                    | some j => 
                      have hj := seek_mem hsk
                      have : j = i3 := uniq hM3.nd hj.1 (List.mem_of_getElem? hk3) (by rw [It.k_eq.1 hj.2, hin3])
                      rw [hsk, this] at e
                      simp [DG.bs, e]
                  have hlen2 : i3.bs.length + 0 ≤ 140737488355328 := by rw [(round_set S' S3 s [] i3.bs HS3 hbk).2.1]; omega
                  have hbD : Bytes w3.drew a' 0 (l'.take 0) := ⟨(hB3.take 0 hnn').1, (hB3.take 0 hnn').2⟩
                  have hend : ∀ v' w4, w4.ownsRow 0 5 1 v' (i3.bs.length + 0) (cellsOf i3.bs ++ cellsOf (l'.take 0)) → w3.drew.grownBy w4 (Value.slice va i3.bs.length vc).ownBlock → (v'.ownBlock = (Value.slice va i3.bs.length vc).ownBlock ∨ v'.ownBlock = some w3.drew.heap.size) →
                      (w4.cell? ⟨p, 0, none⟩ = some (.slice (some ⟨g, 0, none⟩) is3.length cF) ∧ w4.cell? ⟨g, k3 * 2 + 1, none⟩ = some (.slice va i3.bs.length vc) ∧ w4.frozen? ⟨g, k3 * 2 + 1, none⟩ = false) ∧ Hid (RS w0 (w4.setCell ⟨g, k3 * 2 + 1, none⟩ v') p (S3.set s.data.toList (i3.bs ++ l'.take 0)) s (k3 : Int) Fp) ∧ Hid (Turn G3 w3 (w4.setCell ⟨g, k3 * 2 + 1, none⟩ v')) := by
                    intro v' w4 ho4 hg4 hat4
                    have hg4' : w3.grownBy w4 i3.v.ownBlock := by rw [hv3]; exact ⟨hg4.os, hg4.tape, hg4.output, hg4.size, hg4.block⟩
                    have hlen4 : (i3.bs ++ l'.take 0).length = i3.bs.length + 0 := by rw [List.length_append, (hB3.take 0 hnn').1]
                    have hmo := hR3.more k3 i3 hk3 v' (i3.bs ++ l'.take 0) (by rw [hlen4, cellsOf_append]; exact ho4) hg4' (by rw [hv3]; exact hat4)
                    have hni : ∀ g', i3.v.ownBlock = some g' → g' ≠ p ∧ g' ≠ g := fun g' hg' => ⟨((hR3.each i3 (List.mem_of_getElem? hk3)).2 g' hg').2.1, fun e => ((hR3.each i3 (List.mem_of_getElem? hk3)).2 g' hg').2.2 (by rw [e]; rfl)⟩
                    have hMm := hM3.put k3 i3 ⟨i3.name, v', i3.bs ++ l'.take 0⟩ hk3 rfl
                    rw [It.k_eq.2 hin3] at hMm
                    refine ⟨⟨hg4'.cell c03 (fun e => (hni _ e.symm).1 rfl), hg4'.cell q31 (fun e => (hni _ e.symm).2 rfl), ?_⟩, ⟨_, _, left', _, hmo.1, hMm, ?_, ?_, .inr ⟨k3, _, rfl, List.getElem?_set_self hkl3, hin3⟩⟩, hmo.2⟩
                    · rw [World.frozen?_of_block (hg4'.block g (hR3.lt g (hR3.ff g rfl).1) (fun e => (hni _ e.symm).2 rfl))]; exact qf31
                    · exact fun k hk => hk.elim (hG3 k) (fun h => .inr (by have := hT3.size; omega))
                    · exact hT3.trans hmo.2 (fun i hi h => (hG3 i h).elim id (fun h1 => by omega))
                  have hsame := round_set S' S3 s (l'.take 0) i3.bs HS3 hbk
                  have HNX : Hid (∀ (wE : World) (aa : Option Addr), (aa = none → c' - 0 = 0) → RS w0 wE p (S3.set s.data.toList (i3.bs ++ l'.take 0)) s (k3 : Int) Fp → LR w0 p s Fp T (.slice aa 0 (c' - 0)) (.int .i64 (k3 : Int)) (.bool false) wE) := by
                    intro wE aa haa hE
                    have := LR.next (kk := (-1 : Int)) (S' := S') (l' := l') (m' := 0) (wE := wE) 0 _ k3 aa (c' - 0) hsame.1 hcan HB.out.1 (.inl ⟨hm32, rfl⟩) Hpc.out hE (by rw [Nat.sub_self, List.drop_of_length_le (by have := HB.out.1; omega)]; exact ⟨rfl, fun h => by omega⟩) (by omega) ⟨hD.1, hD.2.1, fun _ => by have := hD.2.2.1; simpa using this, hD.2.2.2.1, hD.2.2.2.2.1⟩ (.inl rfl) (fun h => by omega) (fun h => ⟨by omega, haa h⟩) (by have := hD.2.2.2.2.2; simp at this; omega)
                    rw [Nat.sub_self] at this
                    exact this
                  clear hsame hbk
                  have HEnd : Hid _ := hend
                  clear hend hcell3 qf3 hM3
                  go_region_law ((refine step_append_row _ (by rfl) _ _ (by rfl) (.slice va i3.bs.length vc) i3.bs.length (cellsOf i3.bs) (by rfl) hrow3.drew a' 0 c' (l'.take 0) (by rfl) hbD hnil2 hlen2 ?_; intro v' w4 ho4 hg4 hat4; obtain ⟨a4, c4, rfl, _, _⟩ := ownsRow_shape ho4; obtain ⟨⟨hx0, hx1, hx2⟩, hE4, hT4⟩ := HEnd.out _ w4 ho4 hg4 hat4))
                  all_goals go_wp2
                  all_goals (refine ⟨HNX.out _ _ (by intro h; first | (split at h <;> first | omega | (have := HN.out (by simpa using h); omega)) | (have := HN.out (by simpa using h); omega)) hE4.out, ?_⟩; first | (show 0 + 0 < 0 + 1; omega) | (simp [meas, lenOf]))
              · have i5 : (0 : Int) < (m' : Int) := by omega
                cases hcan : S'.can with
                | false =>
                  have hTe : T = (S', 6) := by rw [← Hpc.out, pieces, if_neg (by simp [hcan])]
                  rw [hcan] at hwr
                  have HTe : Hid _ := hTe
                  clear hTe Hpc
                  go_wp2_with fail
                  refine hwr.mono ?_
                  rintro e w2 ⟨rfl, hT2, hs2, _, h2'⟩
                  have hT : Turn Fp w0 w2 := hTx.trans hT2 (fun i hi h => by subst h; exact (hGx _ hpG).elim id (fun h1 => by omega))
                  have hend : IsRef w2 p S' (Go.Proofs.YtcbmofapnjdmgaaDoor.grow Fp w0 w2) := IsRef.grow ⟨_, _, lx, h2' (by simp), hMx⟩ hlt hGx hT.size
                  have HE : Hid _ := hend
                  clear h2' hT2 hs2 hwr hend
                  go_wp2
                  go_ret
                  rw [HTe.out]
                  exact ⟨rfl, HE.out, hT⟩
                | true =>
                  by_cases hm32 : m' ≤ 32
                  · have hfn : S'.f s.data.toList = none := by
                      rcases hkk with h | ⟨k, _, h, _⟩
                      · exact h.2
                      · omega
                    rw [hcan] at hwr
                    have j32 : ¬ (32 : Int) < (m' : Int) := by omega
                    have hnn' : m' ≤ m' := Nat.le_refl _
                    go_wp2_with fail
                    refine hwr.mono ?_
                    rintro e w2 ⟨rfl, hT2, hs2, h2', _⟩
                    obtain ⟨left', hR2, hM2⟩ := h2' (by simp)
                    have hT2' : Turn Fp w0 w2 := hTx.trans hT2 (fun i hi h => by subst h; exact (hGx _ hpG).elim id (fun h1 => by omega))
                    have hB2 : Bytes w2 a' m' l' := hT2.bytes HB.out (fun h0 x hx e => by have h1 := HA.out h0 x hx; rw [e] at h1; exact (hGx _ hpG).elim h1.1 (fun h2 => by omega))
                    clear hwr h2' hT2 hs2
                    have c02 := hR2.c0
                    have f02 := hR2.f0
                    obtain ⟨adx, cx, rfl, _, _, _, _⟩ := slice2 hR2.row rfl
                    have hxl : isx.length < 256 := by
                      have e : S'.n = isx.length := hM2.n
                      have := hD.2.2.1 (by trivial)
                      omega
                    obtain ⟨wa, hwa⟩ : ∃ wa, wa = w2.alloc (.cells #[.string s, .slice none 0 0] 51) := ⟨_, rfl⟩
                    have BA : Below w2.heap.size w2 wa := by rw [hwa]; exact (Below.refl _ _).alloc (Nat.le_refl _) _
                    have hR2a := hR2.below BA
                    have Hown : Hid (wa.ownsRow 0 51 2 (.slice adx isx.length cx) isx.length (flat2 isx)) := hR2a.row
                    have Hgn : Hid (wa.heap[w2.heap.size]? = some (.cells #[.string s, .slice none 0 0] 51 (0, 0))) := by rw [hwa]; exact heap_alloc_new _ _
                    have HPush : Hid (∀ a2 c2 w5, w5.ownsRow 0 51 2 (.slice a2 (isx.length + 1) c2) (isx.length + 1) (flat2 isx ++ It.cells ⟨s, .slice none 0 0, []⟩) → wa.grownBy w5 (Value.slice adx isx.length cx).ownBlock → ((Value.slice a2 (isx.length + 1) c2).ownBlock = (Value.slice adx isx.length cx).ownBlock ∨ (Value.slice a2 (isx.length + 1) c2).ownBlock = some wa.heap.size) →
                        w5.cell? ⟨p, 0, none⟩ = some (.slice adx isx.length cx) ∧ w5.frozen? ⟨p, 0, none⟩ = false ∧ (w5.setCell ⟨p, 0, none⟩ (.slice a2 (isx.length + 1) c2)).cell? ⟨p, 0, none⟩ = some (.slice a2 (isx.length + 1) c2) ∧ Hid (∃ G3, RefAt (w5.setCell ⟨p, 0, none⟩ (.slice a2 (isx.length + 1) c2)) p (.slice a2 (isx.length + 1) c2) (isx ++ [⟨s, .slice none 0 0, []⟩]) S'.done.wr left' G3 ∧
                          Turn Fp w0 (w5.setCell ⟨p, 0, none⟩ (.slice a2 (isx.length + 1) c2)) ∧ (∀ k, G3 k → Fp k ∨ w0.heap.size ≤ k) ∧ Bytes (w5.setCell ⟨p, 0, none⟩ (.slice a2 (isx.length + 1) c2)) a' m' l')) := by
                      intro a2 c2 w5 ho hg hat
                      have hmade := hR2a.made s a2 (isx.length + 1) c2 (by rw [flat2_snoc]; exact ho) hg (hat.imp id (fun e g h => by rw [e] at h; cases h; exact Nat.le_refl _)) rfl
                      have hpl := hR2a.lt p hR2a.fp
                      have hpb := hg.block p hpl (fun e => (hR2a.ff p e.symm).2 rfl)
                      have hTa : Turn Fp w0 wa := hT2'.trans (Turn.of_below (fun _ => False) BA) (fun _ _ h => h.elim)
                      have hBa : Bytes wa a' m' l' := (Turn.of_below (fun _ => False) BA).bytes hB2 (fun _ _ _ => id)
                      refine ⟨by rw [World.cell?_of_block hpb]; exact hR2a.c0, by rw [World.frozen?_of_block hpb]; exact hR2a.f0, hmade.1.c0, _, hmade.1, hTa.trans hmade.2 (fun i hi h => (hGx i h).elim id (fun h1 => by omega)), ?_, ?_⟩
                      · exact fun k hk => hk.elim (hGx k) (fun h => .inr (by have := hTa.size; have := h.1; omega))
                      · exact hmade.2.bytes hBa (fun h0 x hx hg => (hGx _ hg).elim (HA.out h0 x hx).1 (fun h => by have := (HA.out h0 x hx).2; omega))
                    have hM3H : Hid (Match (S'.done.set s.data.toList []) (isx ++ [⟨s, .slice none 0 0, []⟩]) left') := by
                      have := hM2.push ⟨s, .slice none 0 0, []⟩ (by rw [It.k_eq.2 rfl]; exact hfn)
                      rw [It.k_eq.2 rfl] at this
                      exact this
                    subst hwa
                    clear BA hR2a hR2 hM2 hB2 hT2'
                    go_wp2_with (at_builtin; refine wpList_push_it ⟨s, .slice none 0 0, []⟩ rfl _ _ rfl 0 isx.length (.slice adx isx.length cx) _ rfl w2.heap.size rfl Hgn.out ⟨none, 0, 0, rfl⟩ Hown.out (by omega) (by simp) ?_; intro a2 c2 w5 ho2 hg2 hat2; obtain ⟨c05, f05, c06, HN3⟩ := HPush.out a2 c2 w5 ho2 hg2 hat2)
                    obtain ⟨G3, hR3, hT3, hG3, hB3⟩ := HN3.out
                    have hM3 := hM3H.out
                    obtain ⟨w3, hw3⟩ : ∃ w3, w3 = w5.setCell ⟨p, 0, none⟩ (.slice a2 (isx.length + 1) c2) := ⟨_, rfl⟩
                    rw [← hw3] at hR3 hT3 hB3 ⊢
                    obtain ⟨fs3, hfs3⟩ : ∃ fs3, fs3 = Value.slice a2 (isx.length + 1) c2 := ⟨_, rfl⟩
                    rw [← hfs3] at hR3
                    obtain ⟨is3, his3⟩ : ∃ is3 : List It, is3 = isx ++ [⟨s, .slice none 0 0, []⟩] := ⟨_, rfl⟩
                    have hk3 : is3[isx.length]? = some ⟨s, .slice none 0 0, []⟩ := by rw [his3]; simp
                    rw [← his3] at hR3 hM3
                    obtain ⟨i3, hi3⟩ : ∃ i3 : It, i3 = ⟨s, .slice none 0 0, []⟩ := ⟨_, rfl⟩
                    rw [← hi3] at hk3
                    have hin3 : i3.name = s := by rw [hi3]
                    obtain ⟨k3, hk3e⟩ : ∃ k3, k3 = isx.length := ⟨_, rfl⟩
                    rw [← hk3e] at hk3 ⊢
                    obtain ⟨S3, hS3⟩ : ∃ S3, S3 = S'.done.set s.data.toList [] := ⟨_, rfl⟩
                    have hwr3 : S'.done.wr = S3.wr := by rw [hS3]; rfl
                    rw [← hS3] at hM3
                    rw [hwr3] at hR3
                    have HS3 : S3 = S'.done ∨ (S3 = S'.done.set s.data.toList [] ∧ S'.f s.data.toList = none) := .inr ⟨hS3, hfn⟩
                    have hnil2 : a' = none → m' = 0 ∧ c' = 0 := fun h => ⟨by have := (HN.out h).1; omega, (HN.out h).2⟩
                    clear hw3 hfs3 his3 hi3 hk3e hS3 hwr3 HN3 hM3H HPush Hgn Hown c05 f05 c06 ho2 hg2 hat2 c02 f02
                    have c03 := hR3.c0
                    obtain ⟨_, cF, e3, _, _, _, hcell3⟩ := slice2 hR3.row rfl
                    subst e3
                    obtain ⟨g, rfl, _, q31, qf3⟩ := hcell3 k3 i3 hk3
                    obtain ⟨va, vc, hv3, hvc3, hvn3⟩ := ownsRow_shape (hR3.each i3 (List.mem_of_getElem? hk3)).1
                    have hrow3 := (hR3.each i3 (List.mem_of_getElem? hk3)).1
                    rw [hv3] at hrow3 q31
                    have qf31 := qf3 (k3 * 2 + 1)
                    have hkl3 := (List.getElem?_eq_some_iff.1 hk3).1
                    have z1 : (0 : Int) ≤ (k3 : Int) := by omega
                    have z2 : (k3 : Int) < (is3.length : Int) := by omega
                    have hbk : S3.bs s.data.toList = i3.bs := by
                      have e := hM3.f i3.k
                      rw [It.k_eq.2 hin3] at e
                      cases hsk : seek is3 s.data.toList with
                      | none => exact absurd (It.k_eq.2 hin3) (seek_none.1 hsk i3 (List.mem_of_getElem? hk3))
                      | some j => 
                        have hj := seek_mem hsk
                        have : j = i3 := uniq hM3.nd hj.1 (List.mem_of_getElem? hk3) (by rw [It.k_eq.1 hj.2, hin3])
                        rw [hsk, this] at e
                        simp [DG.bs, e]
                    have hlen2 : i3.bs.length + m' ≤ 140737488355328 := by rw [(round_set S' S3 s [] i3.bs HS3 hbk).2.1]; omega
                    have hbD : Bytes w3.drew a' m' (l'.take m') := ⟨(hB3.take m' hnn').1, (hB3.take m' hnn').2⟩
                    have hend : ∀ v' w4, w4.ownsRow 0 5 1 v' (i3.bs.length + m') (cellsOf i3.bs ++ cellsOf (l'.take m')) → w3.drew.grownBy w4 (Value.slice va i3.bs.length vc).ownBlock → (v'.ownBlock = (Value.slice va i3.bs.length vc).ownBlock ∨ v'.ownBlock = some w3.drew.heap.size) →
                        (w4.cell? ⟨p, 0, none⟩ = some (.slice (some ⟨g, 0, none⟩) is3.length cF) ∧ w4.cell? ⟨g, k3 * 2 + 1, none⟩ = some (.slice va i3.bs.length vc) ∧ w4.frozen? ⟨g, k3 * 2 + 1, none⟩ = false) ∧ Hid (RS w0 (w4.setCell ⟨g, k3 * 2 + 1, none⟩ v') p (S3.set s.data.toList (i3.bs ++ l'.take m')) s (k3 : Int) Fp) ∧ Hid (Turn G3 w3 (w4.setCell ⟨g, k3 * 2 + 1, none⟩ v')) := by
                      intro v' w4 ho4 hg4 hat4
                      have hg4' : w3.grownBy w4 i3.v.ownBlock := by rw [hv3]; exact ⟨hg4.os, hg4.tape, hg4.output, hg4.size, hg4.block⟩
                      have hlen4 : (i3.bs ++ l'.take m').length = i3.bs.length + m' := by rw [List.length_append, (hB3.take m' hnn').1]
                      have hmo := hR3.more k3 i3 hk3 v' (i3.bs ++ l'.take m') (by rw [hlen4, cellsOf_append]; exact ho4) hg4' (by rw [hv3]; exact hat4)
                      have hni : ∀ g', i3.v.ownBlock = some g' → g' ≠ p ∧ g' ≠ g := fun g' hg' => ⟨((hR3.each i3 (List.mem_of_getElem? hk3)).2 g' hg').2.1, fun e => ((hR3.each i3 (List.mem_of_getElem? hk3)).2 g' hg').2.2 (by rw [e]; rfl)⟩
                      have hMm := hM3.put k3 i3 ⟨i3.name, v', i3.bs ++ l'.take m'⟩ hk3 rfl
                      rw [It.k_eq.2 hin3] at hMm
                      refine ⟨⟨hg4'.cell c03 (fun e => (hni _ e.symm).1 rfl), hg4'.cell q31 (fun e => (hni _ e.symm).2 rfl), ?_⟩, ⟨_, _, left', _, hmo.1, hMm, ?_, ?_, .inr ⟨k3, _, rfl, List.getElem?_set_self hkl3, hin3⟩⟩, hmo.2⟩
                      · rw [World.frozen?_of_block (hg4'.block g (hR3.lt g (hR3.ff g rfl).1) (fun e => (hni _ e.symm).2 rfl))]; exact qf31
                      · exact fun k hk => hk.elim (hG3 k) (fun h => .inr (by have := hT3.size; omega))
                      · exact hT3.trans hmo.2 (fun i hi h => (hG3 i h).elim id (fun h1 => by omega))
                    have hsame := round_set S' S3 s (l'.take m') i3.bs HS3 hbk
                    have HNX : Hid (∀ (wE : World) (aa : Option Addr), (aa = none → c' - m' = 0) → RS w0 wE p (S3.set s.data.toList (i3.bs ++ l'.take m')) s (k3 : Int) Fp → LR w0 p s Fp T (.slice aa 0 (c' - m')) (.int .i64 (k3 : Int)) (.bool false) wE) := by
                      intro wE aa haa hE
                      have := LR.next (kk := (-1 : Int)) (S' := S') (l' := l') (m' := m') (wE := wE) m' _ k3 aa (c' - m') hsame.1 hcan HB.out.1 (.inl ⟨hm32, rfl⟩) Hpc.out hE (by rw [Nat.sub_self, List.drop_of_length_le (by have := HB.out.1; omega)]; exact ⟨rfl, fun h => by omega⟩) (by omega) ⟨hD.1, hD.2.1, fun _ => by have := hD.2.2.1; simpa using this, hD.2.2.2.1, hD.2.2.2.2.1⟩ (.inl rfl) (fun h => by omega) (fun h => ⟨by omega, haa h⟩) (by omega)
                      rw [Nat.sub_self] at this
                      exact this
                    clear hsame hbk
                    have HEnd : Hid _ := hend
                    clear hend hcell3 qf3 hM3
                    go_region_law ((refine step_append_row _ (by rfl) _ _ (by rfl) (.slice va i3.bs.length vc) i3.bs.length (cellsOf i3.bs) (by rfl) hrow3.drew a' m' c' (l'.take m') (by rfl) hbD hnil2 hlen2 ?_; intro v' w4 ho4 hg4 hat4; obtain ⟨a4, c4, rfl, _, _⟩ := ownsRow_shape ho4; obtain ⟨⟨hx0, hx1, hx2⟩, hE4, hT4⟩ := HEnd.out _ w4 ho4 hg4 hat4))
                    all_goals go_wp2
                    all_goals (refine ⟨HNX.out _ _ (by intro h; split at h <;> first | omega | (have := HN.out (by simpa using h); omega)) hE4.out, ?_⟩; show 0 + 0 < m' + _; omega)
                  · have hfn : S'.f s.data.toList = none := by
                      rcases hkk with h | ⟨k, _, h, _⟩
                      · exact h.2
                      · omega
                    rw [hcan] at hwr
                    have j32 : (32 : Int) < (m' : Int) := by omega
                    have j33 : ¬ c' = 32 := by omega
                    have j34 : (32 : Int) ≤ (c' : Int) := by omega
                    have j35 : (0 : Int) ≤ 32 := by omega
                    have hnn' : 32 ≤ m' := by omega
                    go_wp2_with fail
                    refine hwr.mono ?_
                    rintro e w2 ⟨rfl, hT2, hs2, h2', _⟩
                    obtain ⟨left', hR2, hM2⟩ := h2' (by simp)
                    have hT2' : Turn Fp w0 w2 := hTx.trans hT2 (fun i hi h => by subst h; exact (hGx _ hpG).elim id (fun h1 => by omega))
                    have hB2 : Bytes w2 a' m' l' := hT2.bytes HB.out (fun h0 x hx e => by have h1 := HA.out h0 x hx; rw [e] at h1; exact (hGx _ hpG).elim h1.1 (fun h2 => by omega))
                    clear hwr h2' hT2 hs2
                    have c02 := hR2.c0
                    have f02 := hR2.f0
                    obtain ⟨adx, cx, rfl, _, _, _, _⟩ := slice2 hR2.row rfl
                    have hxl : isx.length < 256 := by
                      have e : S'.n = isx.length := hM2.n
                      have := hD.2.2.1 (by trivial)
                      omega
                    obtain ⟨wa, hwa⟩ : ∃ wa, wa = w2.alloc (.cells #[.string s, .slice none 0 0] 51) := ⟨_, rfl⟩
                    have BA : Below w2.heap.size w2 wa := by rw [hwa]; exact (Below.refl _ _).alloc (Nat.le_refl _) _
                    have hR2a := hR2.below BA
                    have Hown : Hid (wa.ownsRow 0 51 2 (.slice adx isx.length cx) isx.length (flat2 isx)) := hR2a.row
                    have Hgn : Hid (wa.heap[w2.heap.size]? = some (.cells #[.string s, .slice none 0 0] 51 (0, 0))) := by rw [hwa]; exact heap_alloc_new _ _
                    have HPush : Hid (∀ a2 c2 w5, w5.ownsRow 0 51 2 (.slice a2 (isx.length + 1) c2) (isx.length + 1) (flat2 isx ++ It.cells ⟨s, .slice none 0 0, []⟩) → wa.grownBy w5 (Value.slice adx isx.length cx).ownBlock → ((Value.slice a2 (isx.length + 1) c2).ownBlock = (Value.slice adx isx.length cx).ownBlock ∨ (Value.slice a2 (isx.length + 1) c2).ownBlock = some wa.heap.size) →
                        w5.cell? ⟨p, 0, none⟩ = some (.slice adx isx.length cx) ∧ w5.frozen? ⟨p, 0, none⟩ = false ∧ (w5.setCell ⟨p, 0, none⟩ (.slice a2 (isx.length + 1) c2)).cell? ⟨p, 0, none⟩ = some (.slice a2 (isx.length + 1) c2) ∧ Hid (∃ G3, RefAt (w5.setCell ⟨p, 0, none⟩ (.slice a2 (isx.length + 1) c2)) p (.slice a2 (isx.length + 1) c2) (isx ++ [⟨s, .slice none 0 0, []⟩]) S'.done.wr left' G3 ∧
                          Turn Fp w0 (w5.setCell ⟨p, 0, none⟩ (.slice a2 (isx.length + 1) c2)) ∧ (∀ k, G3 k → Fp k ∨ w0.heap.size ≤ k) ∧ Bytes (w5.setCell ⟨p, 0, none⟩ (.slice a2 (isx.length + 1) c2)) a' m' l')) := by
                      intro a2 c2 w5 ho hg hat
                      have hmade := hR2a.made s a2 (isx.length + 1) c2 (by rw [flat2_snoc]; exact ho) hg (hat.imp id (fun e g h => by rw [e] at h; cases h; exact Nat.le_refl _)) rfl
                      have hpl := hR2a.lt p hR2a.fp
                      have hpb := hg.block p hpl (fun e => (hR2a.ff p e.symm).2 rfl)
                      have hTa : Turn Fp w0 wa := hT2'.trans (Turn.of_below (fun _ => False) BA) (fun _ _ h => h.elim)
                      have hBa : Bytes wa a' m' l' := (Turn.of_below (fun _ => False) BA).bytes hB2 (fun _ _ _ => id)
                      refine ⟨by rw [World.cell?_of_block hpb]; exact hR2a.c0, by rw [World.frozen?_of_block hpb]; exact hR2a.f0, hmade.1.c0, _, hmade.1, hTa.trans hmade.2 (fun i hi h => (hGx i h).elim id (fun h1 => by omega)), ?_, ?_⟩
                      · exact fun k hk => hk.elim (hGx k) (fun h => .inr (by have := hTa.size; have := h.1; omega))
                      · exact hmade.2.bytes hBa (fun h0 x hx hg => (hGx _ hg).elim (HA.out h0 x hx).1 (fun h => by have := (HA.out h0 x hx).2; omega))
                    have hM3H : Hid (Match (S'.done.set s.data.toList []) (isx ++ [⟨s, .slice none 0 0, []⟩]) left') := by
                      have := hM2.push ⟨s, .slice none 0 0, []⟩ (by rw [It.k_eq.2 rfl]; exact hfn)
                      rw [It.k_eq.2 rfl] at this
                      exact this
                    subst hwa
                    clear BA hR2a hR2 hM2 hB2 hT2'
                    go_wp2_with (at_builtin; refine wpList_push_it ⟨s, .slice none 0 0, []⟩ rfl _ _ rfl 0 isx.length (.slice adx isx.length cx) _ rfl w2.heap.size rfl Hgn.out ⟨none, 0, 0, rfl⟩ Hown.out (by omega) (by simp) ?_; intro a2 c2 w5 ho2 hg2 hat2; obtain ⟨c05, f05, c06, HN3⟩ := HPush.out a2 c2 w5 ho2 hg2 hat2)
                    obtain ⟨G3, hR3, hT3, hG3, hB3⟩ := HN3.out
                    have hM3 := hM3H.out
                    obtain ⟨w3, hw3⟩ : ∃ w3, w3 = w5.setCell ⟨p, 0, none⟩ (.slice a2 (isx.length + 1) c2) := ⟨_, rfl⟩
                    rw [← hw3] at hR3 hT3 hB3 ⊢
                    obtain ⟨fs3, hfs3⟩ : ∃ fs3, fs3 = Value.slice a2 (isx.length + 1) c2 := ⟨_, rfl⟩
                    rw [← hfs3] at hR3
                    obtain ⟨is3, his3⟩ : ∃ is3 : List It, is3 = isx ++ [⟨s, .slice none 0 0, []⟩] := ⟨_, rfl⟩
                    have hk3 : is3[isx.length]? = some ⟨s, .slice none 0 0, []⟩ := by rw [his3]; simp
                    rw [← his3] at hR3 hM3
                    obtain ⟨i3, hi3⟩ : ∃ i3 : It, i3 = ⟨s, .slice none 0 0, []⟩ := ⟨_, rfl⟩
                    rw [← hi3] at hk3
                    have hin3 : i3.name = s := by rw [hi3]
                    obtain ⟨k3, hk3e⟩ : ∃ k3, k3 = isx.length := ⟨_, rfl⟩
                    rw [← hk3e] at hk3 ⊢
                    obtain ⟨S3, hS3⟩ : ∃ S3, S3 = S'.done.set s.data.toList [] := ⟨_, rfl⟩
                    have hwr3 : S'.done.wr = S3.wr := by rw [hS3]; rfl
                    rw [← hS3] at hM3
                    rw [hwr3] at hR3
                    have HS3 : S3 = S'.done ∨ (S3 = S'.done.set s.data.toList [] ∧ S'.f s.data.toList = none) := .inr ⟨hS3, hfn⟩
                    have hnil2 : a' = none → 32 = 0 ∧ c' = 0 := fun h => ⟨by have := (HN.out h).1; omega, (HN.out h).2⟩
                    clear hw3 hfs3 his3 hi3 hk3e hS3 hwr3 HN3 hM3H HPush Hgn Hown c05 f05 c06 ho2 hg2 hat2 c02 f02
                    have c03 := hR3.c0
                    obtain ⟨_, cF, e3, _, _, _, hcell3⟩ := slice2 hR3.row rfl
                    subst e3
                    obtain ⟨g, rfl, _, q31, qf3⟩ := hcell3 k3 i3 hk3
                    obtain ⟨va, vc, hv3, hvc3, hvn3⟩ := ownsRow_shape (hR3.each i3 (List.mem_of_getElem? hk3)).1
                    have hrow3 := (hR3.each i3 (List.mem_of_getElem? hk3)).1
                    rw [hv3] at hrow3 q31
                    have qf31 := qf3 (k3 * 2 + 1)
                    have hkl3 := (List.getElem?_eq_some_iff.1 hk3).1
                    have z1 : (0 : Int) ≤ (k3 : Int) := by omega
                    have z2 : (k3 : Int) < (is3.length : Int) := by omega
                    have hbk : S3.bs s.data.toList = i3.bs := by
                      have e := hM3.f i3.k
                      rw [It.k_eq.2 hin3] at e
                      cases hsk : seek is3 s.data.toList with
                      | none => exact absurd (It.k_eq.2 hin3) (seek_none.1 hsk i3 (List.mem_of_getElem? hk3))
                      | some j => 
                        have hj := seek_mem hsk
                        have : j = i3 := uniq hM3.nd hj.1 (List.mem_of_getElem? hk3) (by rw [It.k_eq.1 hj.2, hin3])
                        rw [hsk, this] at e
                        simp [DG.bs, e]
                    have hlen2 : i3.bs.length + 32 ≤ 140737488355328 := by rw [(round_set S' S3 s [] i3.bs HS3 hbk).2.1]; omega
                    have hbD : Bytes w3.drew a' 32 (l'.take 32) := ⟨(hB3.take 32 hnn').1, (hB3.take 32 hnn').2⟩
                    have hend : ∀ v' w4, w4.ownsRow 0 5 1 v' (i3.bs.length + 32) (cellsOf i3.bs ++ cellsOf (l'.take 32)) → w3.drew.grownBy w4 (Value.slice va i3.bs.length vc).ownBlock → (v'.ownBlock = (Value.slice va i3.bs.length vc).ownBlock ∨ v'.ownBlock = some w3.drew.heap.size) →
                        (w4.cell? ⟨p, 0, none⟩ = some (.slice (some ⟨g, 0, none⟩) is3.length cF) ∧ w4.cell? ⟨g, k3 * 2 + 1, none⟩ = some (.slice va i3.bs.length vc) ∧ w4.frozen? ⟨g, k3 * 2 + 1, none⟩ = false) ∧ Hid (RS w0 (w4.setCell ⟨g, k3 * 2 + 1, none⟩ v') p (S3.set s.data.toList (i3.bs ++ l'.take 32)) s (k3 : Int) Fp) ∧ Hid (Turn G3 w3 (w4.setCell ⟨g, k3 * 2 + 1, none⟩ v')) := by
                      intro v' w4 ho4 hg4 hat4
                      have hg4' : w3.grownBy w4 i3.v.ownBlock := by rw [hv3]; exact ⟨hg4.os, hg4.tape, hg4.output, hg4.size, hg4.block⟩
                      have hlen4 : (i3.bs ++ l'.take 32).length = i3.bs.length + 32 := by rw [List.length_append, (hB3.take 32 hnn').1]
                      have hmo := hR3.more k3 i3 hk3 v' (i3.bs ++ l'.take 32) (by rw [hlen4, cellsOf_append]; exact ho4) hg4' (by rw [hv3]; exact hat4)
                      have hni : ∀ g', i3.v.ownBlock = some g' → g' ≠ p ∧ g' ≠ g := fun g' hg' => ⟨((hR3.each i3 (List.mem_of_getElem? hk3)).2 g' hg').2.1, fun e => ((hR3.each i3 (List.mem_of_getElem? hk3)).2 g' hg').2.2 (by rw [e]; rfl)⟩
                      have hMm := hM3.put k3 i3 ⟨i3.name, v', i3.bs ++ l'.take 32⟩ hk3 rfl
                      rw [It.k_eq.2 hin3] at hMm
                      refine ⟨⟨hg4'.cell c03 (fun e => (hni _ e.symm).1 rfl), hg4'.cell q31 (fun e => (hni _ e.symm).2 rfl), ?_⟩, ⟨_, _, left', _, hmo.1, hMm, ?_, ?_, .inr ⟨k3, _, rfl, List.getElem?_set_self hkl3, hin3⟩⟩, hmo.2⟩
                      · rw [World.frozen?_of_block (hg4'.block g (hR3.lt g (hR3.ff g rfl).1) (fun e => (hni _ e.symm).2 rfl))]; exact qf31
                      · exact fun k hk => hk.elim (hG3 k) (fun h => .inr (by have := hT3.size; omega))
                      · exact hT3.trans hmo.2 (fun i hi h => (hG3 i h).elim id (fun h1 => by omega))
                    have hsame := round_set S' S3 s (l'.take 32) i3.bs HS3 hbk
                    have HNX : Hid (∀ (wE : World), RS w0 wE p (S3.set s.data.toList (i3.bs ++ l'.take 32)) s (k3 : Int) Fp → Turn G3 w3 wE → LR w0 p s Fp T (.slice (Option.map (fun x => { block := x.block, off := x.off + 32 }) a') (m' - 32) (c' - 32)) (.int .i64 (k3 : Int)) (.bool false) wE) := by
                      intro wE hE hTE
                      obtain ⟨bb, off, ea, hcell⟩ := hB3.2 (by omega)
                      subst ea
                      have hA := HA.out (by omega) ⟨bb, off, none⟩ rfl
                      refine LR.next (kk := (-1 : Int)) (S' := S') (l' := l') (m' := m') (wE := wE) 32 _ k3 _ (c' - 32) hsame.1 hcan HB.out.1 (.inr ⟨by omega, rfl⟩) Hpc.out hE ⟨by have := HB.out.1; rw [List.length_drop]; omega, fun _ => ⟨bb, off + 32, rfl, fun i hi => ?_⟩⟩ (by omega) ⟨hD.1, hD.2.1, fun _ => by have := hD.2.2.1; simpa using this, hD.2.2.2.1, hD.2.2.2.2.1⟩ (.inl rfl) ?_ (fun h => by simp at h) (by omega)
                      · rw [bt_drop, show off + 32 + i = off + (32 + i) by omega]
                        exact hTE.cell (hcell (32 + i) (by omega)) (fun hg => (hG3 _ hg).elim hA.1 (fun h => absurd hA.2 (Nat.not_lt.2 h)))
                      · intro _ x hx
                        simp only [Option.map_some, Option.some.injEq] at hx
                        subst hx
                        exact hA
                    clear hsame hbk
                    have HEnd : Hid _ := hend
                    clear hend hcell3 qf3 hM3
                    go_region_law ((refine step_append_row _ (by rfl) _ _ (by rfl) (.slice va i3.bs.length vc) i3.bs.length (cellsOf i3.bs) (by rfl) hrow3.drew a' 32 c' (l'.take 32) (by rfl) hbD hnil2 hlen2 ?_; intro v' w4 ho4 hg4 hat4; obtain ⟨a4, c4, rfl, _, _⟩ := ownsRow_shape ho4; obtain ⟨⟨hx0, hx1, hx2⟩, hE4, hT4⟩ := HEnd.out _ w4 ho4 hg4 hat4))
                    all_goals go_wp2
                    all_goals (refine ⟨HNX.out _ hE4.out hT4.out, ?_⟩; show (m' - 32) + 0 < m' + _; omega)
            · have h0 : 0 < m' := by
                rcases htodo with h | ⟨_, h⟩
                · exact h
                · omega
              have i5 : (0 : Int) < (m' : Int) := by omega
              cases hcan : S'.can with
              | false =>
                have hTe : T = (S', 6) := by rw [← Hpc.out, pieces, if_neg (by simp [hcan])]
                rw [hcan] at hwr
                have HTe : Hid _ := hTe
                clear hTe Hpc
                go_wp2_with fail
                refine hwr.mono ?_
                rintro e w2 ⟨rfl, hT2, hs2, _, h2'⟩
                have hT : Turn Fp w0 w2 := hTx.trans hT2 (fun i hi h => by subst h; exact (hGx _ hpG).elim id (fun h1 => by omega))
                have hend : IsRef w2 p S' (Go.Proofs.YtcbmofapnjdmgaaDoor.grow Fp w0 w2) := IsRef.grow ⟨_, _, lx, h2' (by simp), hMx⟩ hlt hGx hT.size
                have HE : Hid _ := hend
                clear h2' hT2 hs2 hwr hend
                go_wp2
                go_ret
                rw [HTe.out]
                exact ⟨rfl, HE.out, hT⟩
              | true =>
                by_cases hm32 : m' ≤ 32
                · rw [hcan] at hwr
                  obtain ⟨k3, i3, rfl, hk3, hin3⟩ : ∃ (k : Nat) (i : It), kk = (k : Int) ∧ isx[k]? = some i ∧ i.name = s := by
                    rcases hkk with h | h
                    · omega
                    · exact h
                  have jk : ¬ (k3 : Int) < 0 := by omega
                  have j32 : ¬ (32 : Int) < (m' : Int) := by omega
                  have hnn' : m' ≤ m' := Nat.le_refl _
                  go_wp2_with fail
                  refine hwr.mono ?_
                  rintro e w2 ⟨rfl, hT2, hs2, h2', _⟩
                  obtain ⟨left', hR2, hM2⟩ := h2' (by simp)
                  have hT2' : Turn Fp w0 w2 := hTx.trans hT2 (fun i hi h => by subst h; exact (hGx _ hpG).elim id (fun h1 => by omega))
                  have hB2 : Bytes w2 a' m' l' := hT2.bytes HB.out (fun h0 x hx e => by have h1 := HA.out h0 x hx; rw [e] at h1; exact (hGx _ hpG).elim h1.1 (fun h2 => by omega))
                  clear hwr h2' hT2 hs2
                  obtain ⟨w3, rfl⟩ : ∃ w3, w3 = w2 := ⟨_, rfl⟩
                  have hR3 := hR2
                  have hM3 := hM2
                  obtain ⟨S3, hS3⟩ : ∃ S3, S3 = S'.done := ⟨_, rfl⟩
                  rw [← hS3] at hR3 hM3
                  have hT3 := hT2'
                  have hG3 := hGx
                  have hB3 := hB2
                  have hnil2 : a' = none → m' = 0 ∧ c' = 0 := fun h => ⟨by have := (HN.out h).1; omega, (HN.out h).2⟩
                  have HS3 : S3 = S'.done ∨ (S3 = S'.done.set s.data.toList [] ∧ S'.f s.data.toList = none) := .inl hS3
                  have c03 := hR3.c0
                  obtain ⟨_, cF, e3, _, _, _, hcell3⟩ := slice2 hR3.row rfl
                  subst e3
                  obtain ⟨g, rfl, _, q31, qf3⟩ := hcell3 k3 i3 hk3
                  obtain ⟨va, vc, hv3, hvc3, hvn3⟩ := ownsRow_shape (hR3.each i3 (List.mem_of_getElem? hk3)).1
                  have hrow3 := (hR3.each i3 (List.mem_of_getElem? hk3)).1
                  rw [hv3] at hrow3 q31
                  have qf31 := qf3 (k3 * 2 + 1)
                  have hkl3 := (List.getElem?_eq_some_iff.1 hk3).1
                  have z1 : (0 : Int) ≤ (k3 : Int) := by omega
                  have z2 : (k3 : Int) < (isx.length : Int) := by omega
                  have hbk : S3.bs s.data.toList = i3.bs := by
                    have e := hM3.f i3.k
                    rw [It.k_eq.2 hin3] at e
                    cases hsk : seek isx s.data.toList with
                    | none => exact absurd (It.k_eq.2 hin3) (seek_none.1 hsk i3 (List.mem_of_getElem? hk3))
                    | some j => 
                      have hj := seek_mem hsk
                      have : j = i3 := uniq hM3.nd hj.1 (List.mem_of_getElem? hk3) (by rw [It.k_eq.1 hj.2, hin3])
                      rw [hsk, this] at e
                      simp [DG.bs, e]
                  have hlen2 : i3.bs.length + m' ≤ 140737488355328 := by rw [(round_set S' S3 s [] i3.bs HS3 hbk).2.1]; omega
                  have hbD : Bytes w3.drew a' m' (l'.take m') := ⟨(hB3.take m' hnn').1, (hB3.take m' hnn').2⟩
                  have hend : ∀ v' w4, w4.ownsRow 0 5 1 v' (i3.bs.length + m') (cellsOf i3.bs ++ cellsOf (l'.take m')) → w3.drew.grownBy w4 (Value.slice va i3.bs.length vc).ownBlock → (v'.ownBlock = (Value.slice va i3.bs.length vc).ownBlock ∨ v'.ownBlock = some w3.drew.heap.size) →
                      (w4.cell? ⟨p, 0, none⟩ = some (.slice (some ⟨g, 0, none⟩) isx.length cF) ∧ w4.cell? ⟨g, k3 * 2 + 1, none⟩ = some (.slice va i3.bs.length vc) ∧ w4.frozen? ⟨g, k3 * 2 + 1, none⟩ = false) ∧ Hid (RS w0 (w4.setCell ⟨g, k3 * 2 + 1, none⟩ v') p (S3.set s.data.toList (i3.bs ++ l'.take m')) s (k3 : Int) Fp) ∧ Hid (Turn Gp w3 (w4.setCell ⟨g, k3 * 2 + 1, none⟩ v')) := by
                    intro v' w4 ho4 hg4 hat4
                    have hg4' : w3.grownBy w4 i3.v.ownBlock := by rw [hv3]; exact ⟨hg4.os, hg4.tape, hg4.output, hg4.size, hg4.block⟩
                    have hlen4 : (i3.bs ++ l'.take m').length = i3.bs.length + m' := by rw [List.length_append, (hB3.take m' hnn').1]
                    have hmo := hR3.more k3 i3 hk3 v' (i3.bs ++ l'.take m') (by rw [hlen4, cellsOf_append]; exact ho4) hg4' (by rw [hv3]; exact hat4)
                    have hni : ∀ g', i3.v.ownBlock = some g' → g' ≠ p ∧ g' ≠ g := fun g' hg' => ⟨((hR3.each i3 (List.mem_of_getElem? hk3)).2 g' hg').2.1, fun e => ((hR3.each i3 (List.mem_of_getElem? hk3)).2 g' hg').2.2 (by rw [e]; rfl)⟩
                    have hMm := hM3.put k3 i3 ⟨i3.name, v', i3.bs ++ l'.take m'⟩ hk3 rfl
                    rw [It.k_eq.2 hin3] at hMm
                    refine ⟨⟨hg4'.cell c03 (fun e => (hni _ e.symm).1 rfl), hg4'.cell q31 (fun e => (hni _ e.symm).2 rfl), ?_⟩, ⟨_, _, left', _, hmo.1, hMm, ?_, ?_, .inr ⟨k3, _, rfl, List.getElem?_set_self hkl3, hin3⟩⟩, hmo.2⟩
                    · rw [World.frozen?_of_block (hg4'.block g (hR3.lt g (hR3.ff g rfl).1) (fun e => (hni _ e.symm).2 rfl))]; exact qf31
                    · exact fun k hk => hk.elim (hG3 k) (fun h => .inr (by have := hT3.size; omega))
                    · exact hT3.trans hmo.2 (fun i hi h => (hG3 i h).elim id (fun h1 => by omega))
                  have hsome : (S'.f s.data.toList).isSome = true := by
                    have e := hM2.f s.data.toList
                    change S'.f s.data.toList = _ at e
                    rw [e]
                    cases hsk : seek isx s.data.toList with
                    | none => exact absurd (It.k_eq.2 hin3) (seek_none.1 hsk i3 (List.mem_of_getElem? hk3))
                    | some _ => rfl
                  have hsame := round_set S' S3 s (l'.take m') i3.bs HS3 hbk
                  have HNX : Hid (∀ (wE : World) (aa : Option Addr), (aa = none → c' - m' = 0) → RS w0 wE p (S3.set s.data.toList (i3.bs ++ l'.take m')) s (k3 : Int) Fp → LR w0 p s Fp T (.slice aa 0 (c' - m')) (.int .i64 (k3 : Int)) (.bool false) wE) := by
                    intro wE aa haa hE
                    have := LR.next (kk := (k3 : Int)) (S' := S') (l' := l') (m' := m') (wE := wE) m' _ k3 aa (c' - m') hsame.1 hcan HB.out.1 (.inl ⟨hm32, rfl⟩) Hpc.out hE (by rw [Nat.sub_self, List.drop_of_length_le (by have := HB.out.1; omega)]; exact ⟨rfl, fun h => by omega⟩) (by omega) ⟨hD.1, hD.2.1, hD.2.2.1, hD.2.2.2.1, hD.2.2.2.2.1⟩ (.inr hsome) (fun h => by omega) (fun h => ⟨by omega, haa h⟩) (by omega)
                    rw [Nat.sub_self] at this
                    exact this
                  clear hsame hsome hbk
                  have HEnd : Hid _ := hend
                  clear hend hcell3 qf3 hM3
                  go_wp2_with fail
                  go_region_law ((refine step_append_row _ (by rfl) _ _ (by rfl) (.slice va i3.bs.length vc) i3.bs.length (cellsOf i3.bs) (by rfl) hrow3.drew a' m' c' (l'.take m') (by rfl) hbD hnil2 hlen2 ?_; intro v' w4 ho4 hg4 hat4; obtain ⟨a4, c4, rfl, _, _⟩ := ownsRow_shape ho4; obtain ⟨⟨hx0, hx1, hx2⟩, hE4, hT4⟩ := HEnd.out _ w4 ho4 hg4 hat4))
                  all_goals go_wp2
                  all_goals (refine ⟨HNX.out _ _ (by intro h; split at h <;> first | omega | (have := HN.out (by simpa using h); omega)) hE4.out, ?_⟩; show 0 + 0 < m' + _; omega)
                · rw [hcan] at hwr
                  obtain ⟨k3, i3, rfl, hk3, hin3⟩ : ∃ (k : Nat) (i : It), kk = (k : Int) ∧ isx[k]? = some i ∧ i.name = s := by
                    rcases hkk with h | h
                    · omega
                    · exact h
                  have jk : ¬ (k3 : Int) < 0 := by omega
                  have j32 : (32 : Int) < (m' : Int) := by omega
                  have j33 : ¬ c' = 32 := by omega
                  have j34 : (32 : Int) ≤ (c' : Int) := by omega
                  have j35 : (0 : Int) ≤ 32 := by omega
                  have hll3 : l'.length = m' := HB.out.1
                  have HLL : Hid (l'.length = m') := hll3
                  clear hll3
                  have hnn' : 32 ≤ m' := by omega
                  go_wp2_with fail
                  refine hwr.mono ?_
                  rintro e w2 ⟨rfl, hT2, hs2, h2', _⟩
                  obtain ⟨left', hR2, hM2⟩ := h2' (by simp)
                  have hT2' : Turn Fp w0 w2 := hTx.trans hT2 (fun i hi h => by subst h; exact (hGx _ hpG).elim id (fun h1 => by omega))
                  have hB2 : Bytes w2 a' m' l' := hT2.bytes HB.out (fun h0 x hx e => by have h1 := HA.out h0 x hx; rw [e] at h1; exact (hGx _ hpG).elim h1.1 (fun h2 => by omega))
                  clear hwr h2' hT2 hs2
                  obtain ⟨w3, rfl⟩ : ∃ w3, w3 = w2 := ⟨_, rfl⟩
                  have hR3 := hR2
                  have hM3 := hM2
                  obtain ⟨S3, hS3⟩ : ∃ S3, S3 = S'.done := ⟨_, rfl⟩
                  rw [← hS3] at hR3 hM3
                  have hT3 := hT2'
                  have hG3 := hGx
                  have hB3 := hB2
                  have hnil2 : a' = none → 32 = 0 ∧ c' = 0 := fun h => ⟨by have := (HN.out h).1; omega, (HN.out h).2⟩
                  have HS3 : S3 = S'.done ∨ (S3 = S'.done.set s.data.toList [] ∧ S'.f s.data.toList = none) := .inl hS3
                  have c03 := hR3.c0
                  obtain ⟨_, cF, e3, _, _, _, hcell3⟩ := slice2 hR3.row rfl
                  subst e3
                  obtain ⟨g, rfl, _, q31, qf3⟩ := hcell3 k3 i3 hk3
                  obtain ⟨va, vc, hv3, hvc3, hvn3⟩ := ownsRow_shape (hR3.each i3 (List.mem_of_getElem? hk3)).1
                  have hrow3 := (hR3.each i3 (List.mem_of_getElem? hk3)).1
                  rw [hv3] at hrow3 q31
                  have qf31 := qf3 (k3 * 2 + 1)
                  have hkl3 := (List.getElem?_eq_some_iff.1 hk3).1
                  have z1 : (0 : Int) ≤ (k3 : Int) := by omega
                  have z2 : (k3 : Int) < (isx.length : Int) := by omega
                  have hbk : S3.bs s.data.toList = i3.bs := by
                    have e := hM3.f i3.k
                    rw [It.k_eq.2 hin3] at e
                    cases hsk : seek isx s.data.toList with
                    | none => exact absurd (It.k_eq.2 hin3) (seek_none.1 hsk i3 (List.mem_of_getElem? hk3))
                    | some j => 
                      have hj := seek_mem hsk
                      have : j = i3 := uniq hM3.nd hj.1 (List.mem_of_getElem? hk3) (by rw [It.k_eq.1 hj.2, hin3])
                      rw [hsk, this] at e
                      simp [DG.bs, e]
                  have hlen2 : i3.bs.length + 32 ≤ 140737488355328 := by rw [(round_set S' S3 s [] i3.bs HS3 hbk).2.1]; omega
                  have hbD : Bytes w3.drew a' 32 (l'.take 32) := ⟨(hB3.take 32 hnn').1, (hB3.take 32 hnn').2⟩
                  have hend : ∀ v' w4, w4.ownsRow 0 5 1 v' (i3.bs.length + 32) (cellsOf i3.bs ++ cellsOf (l'.take 32)) → w3.drew.grownBy w4 (Value.slice va i3.bs.length vc).ownBlock → (v'.ownBlock = (Value.slice va i3.bs.length vc).ownBlock ∨ v'.ownBlock = some w3.drew.heap.size) →
                      (w4.cell? ⟨p, 0, none⟩ = some (.slice (some ⟨g, 0, none⟩) isx.length cF) ∧ w4.cell? ⟨g, k3 * 2 + 1, none⟩ = some (.slice va i3.bs.length vc) ∧ w4.frozen? ⟨g, k3 * 2 + 1, none⟩ = false) ∧ Hid (RS w0 (w4.setCell ⟨g, k3 * 2 + 1, none⟩ v') p (S3.set s.data.toList (i3.bs ++ l'.take 32)) s (k3 : Int) Fp) ∧ Hid (Turn Gp w3 (w4.setCell ⟨g, k3 * 2 + 1, none⟩ v')) := by
                    intro v' w4 ho4 hg4 hat4
                    have hg4' : w3.grownBy w4 i3.v.ownBlock := by rw [hv3]; exact ⟨hg4.os, hg4.tape, hg4.output, hg4.size, hg4.block⟩
                    have hlen4 : (i3.bs ++ l'.take 32).length = i3.bs.length + 32 := by rw [List.length_append, (hB3.take 32 hnn').1]
                    have hmo := hR3.more k3 i3 hk3 v' (i3.bs ++ l'.take 32) (by rw [hlen4, cellsOf_append]; exact ho4) hg4' (by rw [hv3]; exact hat4)
                    have hni : ∀ g', i3.v.ownBlock = some g' → g' ≠ p ∧ g' ≠ g := fun g' hg' => ⟨((hR3.each i3 (List.mem_of_getElem? hk3)).2 g' hg').2.1, fun e => ((hR3.each i3 (List.mem_of_getElem? hk3)).2 g' hg').2.2 (by rw [e]; rfl)⟩
                    have hMm := hM3.put k3 i3 ⟨i3.name, v', i3.bs ++ l'.take 32⟩ hk3 rfl
                    rw [It.k_eq.2 hin3] at hMm
                    refine ⟨⟨hg4'.cell c03 (fun e => (hni _ e.symm).1 rfl), hg4'.cell q31 (fun e => (hni _ e.symm).2 rfl), ?_⟩, ⟨_, _, left', _, hmo.1, hMm, ?_, ?_, .inr ⟨k3, _, rfl, List.getElem?_set_self hkl3, hin3⟩⟩, hmo.2⟩
                    · rw [World.frozen?_of_block (hg4'.block g (hR3.lt g (hR3.ff g rfl).1) (fun e => (hni _ e.symm).2 rfl))]; exact qf31
                    · exact fun k hk => hk.elim (hG3 k) (fun h => .inr (by have := hT3.size; omega))
                    · exact hT3.trans hmo.2 (fun i hi h => (hG3 i h).elim id (fun h1 => by omega))
                  have hsome : (S'.f s.data.toList).isSome = true := by
                    have e := hM2.f s.data.toList
                    change S'.f s.data.toList = _ at e
                    rw [e]
                    cases hsk : seek isx s.data.toList with
                    | none => exact absurd (It.k_eq.2 hin3) (seek_none.1 hsk i3 (List.mem_of_getElem? hk3))
                    | some _ => rfl
                  have hsame := round_set S' S3 s (l'.take 32) i3.bs HS3 hbk
                  have HNX : Hid (∀ (wE : World), RS w0 wE p (S3.set s.data.toList (i3.bs ++ l'.take 32)) s (k3 : Int) Fp → Turn Gp w3 wE → LR w0 p s Fp T (.slice (Option.map (fun x => { block := x.block, off := x.off + 32 }) a') (m' - 32) (c' - 32)) (.int .i64 (k3 : Int)) (.bool false) wE) := by
                    intro wE hE hTE
                    obtain ⟨bb, off, ea, hcell⟩ := hB3.2 (by omega)
                    subst ea
                    have hA := HA.out (by omega) ⟨bb, off, none⟩ rfl
                    refine LR.next (kk := (k3 : Int)) (S' := S') (l' := l') (m' := m') (wE := wE) 32 _ k3 _ (c' - 32) hsame.1 hcan HB.out.1 (.inr ⟨by omega, rfl⟩) Hpc.out hE ⟨by have := HB.out.1; rw [List.length_drop]; omega, fun _ => ⟨bb, off + 32, rfl, fun i hi => ?_⟩⟩ (by omega) ⟨hD.1, hD.2.1, hD.2.2.1, hD.2.2.2.1, hD.2.2.2.2.1⟩ (.inr hsome) ?_ (fun h => by simp at h) (by omega)
                    · rw [bt_drop, show off + 32 + i = off + (32 + i) by omega]
                      exact hTE.cell (hcell (32 + i) (by omega)) (fun hg => (hG3 _ hg).elim hA.1 (fun h => absurd hA.2 (Nat.not_lt.2 h)))
                    · intro _ x hx
                      simp only [Option.map_some, Option.some.injEq] at hx
                      subst hx
                      exact hA
                  clear hsame hsome hbk
                  have HEnd : Hid _ := hend
                  clear hend hcell3 qf3 hM3
                  go_wp2_with fail
                  go_region_law ((refine step_append_row _ (by rfl) _ _ (by rfl) (.slice va i3.bs.length vc) i3.bs.length (cellsOf i3.bs) (by rfl) hrow3.drew a' 32 c' (l'.take 32) (by rfl) hbD hnil2 hlen2 ?_; intro v' w4 ho4 hg4 hat4; obtain ⟨a4, c4, rfl, _, _⟩ := ownsRow_shape ho4; obtain ⟨⟨hx0, hx1, hx2⟩, hE4, hT4⟩ := HEnd.out _ w4 ho4 hg4 hat4))
                  all_goals go_wp2
                  all_goals (refine ⟨HNX.out _ hE4.out hT4.out, ?_⟩; show (m' - 32) + 0 < m' + _; omega)
          · have hfk : first = false ∨ 0 ≤ kk := by
              obtain ⟨_, _, _, _, _, _, _, _, h | ⟨k, _, h, _⟩⟩ := HR.out
              · left
                cases first
                · rfl
                · exact absurd ⟨rfl, h.1⟩ hnot
              · exact .inr (by omega)
            have hend := HR.out.ref Hlt.out
            have HE : Hid _ := hend
            have Hd : Hid _ := hdone
            clear hend hdone hnot HT
            rcases hfk with rfl | hkk
            · go_wp2
              go_ret
              rw [Hd.out]
              exact ⟨rfl, HE.out⟩
            · have j1 : ¬ kk < 0 := by omega
              cases first
              · go_wp2
                go_ret
                rw [Hd.out]
                exact ⟨rfl, HE.out⟩
              · go_wp2
                go_ret
                rw [Hd.out]
                exact ⟨rfl, HE.out⟩


end Go.Proofs.YtcbmofapnjdmgaaDoor
