import Derived.Test.YtcbmofapnjdmgaaDoorDD20
/- The walk of the reference disk's Rename. -/
namespace Go.Proofs.YtcbmofapnjdmgaaDoor
open Go.RowKit Go.Maps

theorem seek_rename : ∀ (is : List It) (k : Nat) (i i' : It) (x : List UInt8), is.Pairwise (fun a b => a.name ≠ b.name) → is[k]? = some i → (∀ a ∈ is, a.k ≠ i'.k) → seek (is.set k i') x = if x = i'.k then some i' else if x = i.k then none else seek is x := by
  intro is
  induction is with
  | nil => intro k i i' x _ h; simp at h
  | cons a r ih =>
    intro k i i' x nd h hno
    obtain ⟨h1, h2⟩ := List.pairwise_cons.1 nd
    cases k with
    | zero =>
      simp only [List.getElem?_cons_zero, Option.some.injEq] at h
      subst h
      rw [List.set_cons_zero, seek_cons, seek_cons]
      by_cases e : x = i'.k
      · rw [if_pos e.symm, if_pos e]
      · rw [if_neg (fun h' => e h'.symm), if_neg e]
        by_cases e2 : x = a.k
        · rw [if_pos e2]
          exact seek_none.2 fun b hb hk => h1 b hb (It.k_inj.1 (by rw [hk, e2]))
        · rw [if_neg e2, if_neg (fun h' => e2 h'.symm)]
    | succ k =>
      have hr : r[k]? = some i := by simpa using h
      have hai := h1 i (List.mem_of_getElem? hr)
      rw [List.set_cons_succ, seek_cons, seek_cons, ih k i i' x h2 hr (fun b hb => hno b (by simp [hb]))]
      by_cases ea : a.k = x
      · rw [if_pos ea, if_pos ea, if_neg (fun e => hno a (by simp) (by rw [ea, e])), if_neg (fun e => hai (It.k_inj.1 (by rw [ea, e])))]
      · rw [if_neg ea, if_neg ea]

theorem Match.rename {S : DG} {is : List It} {left : Int} (s t : ByteArray) (bs : List UInt8) (h : Match (S.rem t.data.toList) is left) (hne : ¬ s.data.toList = t.data.toList) (hf : S.f s.data.toList = some bs) (hn1 : 1 ≤ S.n) (k : Nat) (i : It) (hk : is[k]? = some i) (hi : i.name = s) (hib : i.bs = bs) :
    Match ((S.rem s.data.toList).set t.data.toList bs) (is.set k ⟨t, i.v, i.bs⟩) left := by
  have hno : ∀ a ∈ is, a.k ≠ (⟨t, i.v, i.bs⟩ : It).k := by
    intro a ha hk'
    have := h.f t.data.toList
    simp only [DG.rem, if_true] at this
    exact seek_none.1 (Option.map_eq_none_iff.1 this.symm) a ha hk'
  have hkt : (⟨t, i.v, i.bs⟩ : It).k = t.data.toList := rfl
  have hks : i.k = s.data.toList := It.k_eq.2 hi
  refine ⟨fun x => ?_, ?_, ?_, h.left⟩
  · rw [seek_rename is k i ⟨t, i.v, i.bs⟩ x h.nd hk hno, hkt, hks]
    by_cases e : x = t.data.toList
    · rw [if_pos e]; simp [DG.set, e, hib]
    · rw [if_neg e]
      by_cases e2 : x = s.data.toList
      · rw [if_pos e2]; subst e2; simp [DG.set, DG.rem, hne]
      · rw [if_neg e2]
        have := h.f x
        simp only [DG.rem, if_neg e] at this
        simp only [DG.set, DG.rem, if_neg e, if_neg e2]
        exact this
  · have h1 := h.n
    rw [List.length_set, ← h1]
    show (if ((S.rem s.data.toList).f t.data.toList).isSome = true then (S.rem s.data.toList).n else (S.rem s.data.toList).n + 1) = _
    have e1 : (S.rem s.data.toList).f t.data.toList = S.f t.data.toList := by simp [DG.rem, Ne.symm hne]
    have e2 : (S.rem s.data.toList).n = S.n - 1 := by simp [DG.rem, hf]
    rw [e1, e2]
    show _ = if (S.f t.data.toList).isSome = true then S.n - 1 else S.n
    split
    · rfl
    · omega
  · refine pairwise_set (fun a b h => Ne.symm h) h.nd k _ (fun j b hj hb => ?_)
    exact fun e => hno b (List.mem_of_getElem? hb) (It.k_inj.2 e.symm)

set_option maxRecDepth 20000 in
set_option maxHeartbeats 4000000 in
theorem rrename_any (p : Nat) (S : DG) (Fp : Nat → Prop) (w : World) (s t : ByteArray) (h : IsRef w p S Fp) (ht : t.size ≤ maxLen) (hn : S.n ≤ 300) (hw : S.wr < 4611686018427387904) (hl : S.left ≤ 9223372036854775807) :
    Calls Tryd.prog 26 #[.pointer (some ⟨p, 0, none⟩), .string s, .string t] w fun e w' => e = .returned (.int .i64 (S.renam s.data.toList t.data.toList).2) ∧ IsRef w' p (S.renam s.data.toList t.data.toList).1 (grow Fp w w') ∧ Turn Fp w w' := by
  have hlt := h.lt
  obtain ⟨fs, is, left, hR, hM⟩ := h
  have hname := rname_any t w ht
  have hfind := find_any p fs is S.wr left Fp w s hR
  have hisn : is.length ≤ 300 := by rw [← hM.n]; exact hn
  have hfpp := hR.fp
  have HS : ∀ w1, Below w.heap.size w w1 → IsRef w1 p S (Go.Proofs.YtcbmofapnjdmgaaDoor.grow Fp w w1) ∧ Turn Fp w w1 := fun w1 B1 => ⟨IsRef.grow ⟨fs, is, left, hR.below B1, hM⟩ hlt (fun k hk => .inl hk) B1.size, Turn.of_below Fp B1⟩
  have HS' : Hid _ := HS
  clear HS
  cases hnb : nameB t.data.toList with
  | false =>
    have e : S.renam s.data.toList t.data.toList = (S, 2) := by simp [DG.renam, hnb]
    rw [e]
    rw [hnb] at hname
    go_enter Tryd.func26, Tryd.ntmps26
    go_wp2_with fail
    refine hname.mono ?_
    rintro e w1 ⟨rfl, rfl⟩
    go_wp2
    go_ret
    exact ⟨rfl, HS'.out _ (Below.refl _ _)⟩
  | true =>
    rw [hnb] at hname
    cases hf : S.f s.data.toList with
    | none =>
      have e : S.renam s.data.toList t.data.toList = (S, 4) := by simp [DG.renam, hnb, hf]
      rw [e]
      rw [hM.ix_none s hf] at hfind
      go_enter Tryd.func26, Tryd.ntmps26
      go_wp2_with fail
      refine hname.mono ?_
      rintro e w0 ⟨rfl, rfl⟩
      go_wp2_with fail
      refine hfind.mono ?_
      rintro e w1 ⟨rfl, B1⟩
      go_wp2
      go_ret
      exact ⟨rfl, HS'.out _ B1⟩
    | some bs =>
      obtain ⟨k, i, hix, hk, hin, hib⟩ := hM.ix_some s bs hf
      rw [hix] at hfind
      have hn1 : 1 ≤ S.n := by rw [hM.n]; have := (List.getElem?_eq_some_iff.1 hk).1; omega
      have i0 : ¬ (k : Int) < 0 := by omega
      have hbsl : S.bs s.data.toList = bs := by simp [DG.bs, hf]
      by_cases hst : s = t
      · subst hst
        have e : S.renam s.data.toList s.data.toList = (S, 0) := by simp [DG.renam, hnb, hf]
        rw [e]
        go_enter Tryd.func26, Tryd.ntmps26
        go_wp2_with fail
        refine hname.mono ?_
        rintro e w0 ⟨rfl, rfl⟩
        go_wp2_with fail
        refine hfind.mono ?_
        rintro e w1 ⟨rfl, B1⟩
        go_wp2
        go_ret
        exact ⟨rfl, HS'.out _ B1⟩
      · have hne : ¬ s.data.toList = t.data.toList := fun h => hst (bytes_ext h)
        have hne2 : (s.toList == t.toList) = false := by rw [toList_beq]; simp [hst]
        have he : S.renam s.data.toList t.data.toList = if S.can = true then ((S.done.rem s.data.toList).set t.data.toList bs, 0) else (S, 6) := by
          unfold DG.renam
          rw [hbsl, if_neg (by simp [hnb]), if_neg (by simp [hf]), if_neg hne]
        have He : Hid _ := he
        clear he
        go_enter Tryd.func26, Tryd.ntmps26
        go_wp2_with fail
        refine hname.mono ?_
        rintro e w0 ⟨rfl, rfl⟩
        go_wp2_with fail
        refine hfind.mono ?_
        rintro e w1 ⟨rfl, B1⟩
        have hwr := rwrite_S p _ is left S Fp w1 (hR.below B1) hM hw hl
        cases hc : S.can with
        | false =>
          rw [hc] at hwr
          go_wp2_with fail
          refine hwr.mono ?_
          rintro e w2 ⟨rfl, hT2, hs2, _, h2'⟩
          have hT : Turn Fp w0 w2 := (Turn.of_below Fp B1).trans hT2 (fun i _ hi => by subst hi; exact hfpp)
          have hend : IsRef w2 p S (Go.Proofs.YtcbmofapnjdmgaaDoor.grow Fp w0 w2) := IsRef.grow ⟨_, is, left, h2' (by simp), hM⟩ hlt (fun k hk => .inl hk) hT.size
          have HE : Hid _ := hend
          clear h2' hT2 hs2 hwr hend
          go_wp2
          go_ret
          rw [He.out, hc]
          exact ⟨rfl, HE.out, hT⟩
        | true =>
          rw [hc] at hwr
          go_wp2_with fail
          refine hwr.mono ?_
          rintro e w2 ⟨rfl, hT2, hs2, h2', _⟩
          obtain ⟨left', hR2, hM2⟩ := h2' (by simp)
          have hT : Turn Fp w0 w2 := (Turn.of_below Fp B1).trans hT2 (fun i _ hi => by subst hi; exact hfpp)
          have htk := take_any p fs is S.done.wr left' Fp w2 t hR2 hisn
          clear h2' hT2 hs2 hwr hR2
          go_wp2_with fail
          refine htk.mono ?_
          rintro e w3 ⟨rfl, ⟨fs', hR3⟩, hT3⟩
          have hM3 := hM2.rem t
          have hf3 : (S.done.rem t.data.toList).f s.data.toList = some bs := by simp only [DG.rem, if_neg hne]; exact hf
          obtain ⟨k3, j3, hix3, hk3, hin3, hib3⟩ := hM3.ix_some s bs hf3
          obtain ⟨ad3, c3, rfl, _, _, _, hcell3⟩ := slice2 hR3.row rfl
          obtain ⟨g3, rfl, q30, q31, qf3⟩ := hcell3 k3 j3 hk3
          have hkl3 := (List.getElem?_eq_some_iff.1 hk3).1
          have qf30 := qf3 (k3 * 2)
          have c03 := hR3.c0
          have hgp3 := (hR3.ff g3 rfl).2
          have hT' : Turn Fp w0 w3 := hT.trans hT3 (fun _ _ h => h)
          have hfin := fun (wx : World) (hB : Below w3.heap.size w3 wx) => find_any p _ (sans is t) S.done.wr left' _ wx s (hR3.below hB)
          rw [hix3] at hfin
          have hfd := hfin w3.drew ⟨rfl, rfl, rfl, Nat.le_refl _, fun _ _ => rfl⟩
          have hend : ∀ w4, Below w3.heap.size w3 w4 → IsRef (w4.setCell ⟨g3, k3 * 2, none⟩ (.string t)) p ((S.done.rem s.data.toList).set t.data.toList bs) (Go.Proofs.YtcbmofapnjdmgaaDoor.grow Fp w0 (w4.setCell ⟨g3, k3 * 2, none⟩ (.string t))) ∧ Turn Fp w0 (w4.setCell ⟨g3, k3 * 2, none⟩ (.string t)) := by
            intro w4 hB4
            have hR4 := hR3.below hB4
            have hmem := List.mem_of_getElem? hk3
            have hre := hR4.recell k3 0 j3 ⟨t, j3.v, j3.bs⟩ (.string t) hk3 (by omega) (by simp [It.cells]) (hR4.each j3 hmem).1 rfl
            have hMm := Match.rename (S := S.done) s t bs hM3 hne hf hn1 k3 j3 hk3 hin3 hib3
            have hT4 : Turn Fp w0 w4 := hT'.trans (Turn.of_below Fp hB4) (fun _ _ h => h)
            have hG : Fp g3 ∨ w0.heap.size ≤ g3 := (hR3.ff g3 rfl).1.imp id (fun h => by have := hT.size; omega)
            have hT5 : Turn Fp w0 (w4.setCell ⟨g3, k3 * 2, none⟩ (.string t)) := by
              refine ⟨hT4.os, hT4.tape, hT4.output, by have := hT4.size; simpa [World.setCell] using this, fun k' hk' hf' => ?_⟩
              rw [Below.heap_setCell _ _ _ _ (fun e => by simp only at e; rcases hG with h | h; exact hf' (e ▸ h); omega)]
              exact hT4.block k' hk' hf'
            exact ⟨IsRef.grow ⟨_, _, left', hre, hMm⟩ hlt (fun k' hk' => hk'.elim .inl (fun h => .inr (by have := hT.size; omega))) hT5.size, hT5⟩
          have HEnd : Hid _ := hend
          have i5 : (0 : Int) ≤ (k3 : Int) := by omega
          have i6 : (k3 : Int) < ((sans is t).length : Int) := by omega
          have hplt := hR3.lt p hR3.fp
          have hglt := World.block_lt_of_cell? w3 _ q30
          have HQ : Hid (∀ w4, Below w3.heap.size w3 w4 → w4.cell? ⟨p, 0, none⟩ = some (.slice (some ⟨g3, 0, none⟩) (sans is t).length c3) ∧ w4.cell? ⟨g3, k3 * 2, none⟩ = some (.string j3.name) ∧ w4.frozen? ⟨g3, k3 * 2, none⟩ = false) := fun w4 hB4 => ⟨by rw [hB4.cell hplt]; exact c03, by rw [hB4.cell hglt]; exact q30, by rw [hB4.frozen hglt]; exact qf30⟩
          clear hend hfin htk hR3 hT3 hT' hT hM3 hM2 hcell3 qf3 hix hk hin hib hfind hname HS'
          go_wp2_with fail
          go_region_held3 (fun W => W.cell? ⟨p, 0, none⟩ = some (.slice (some ⟨g3, 0, none⟩) (sans is t).length c3))
            (first
              | (go_split_ands; go_keep)
              | (exact hc4.1)
              | (rw [World.cell?_setCell_other _ _ _ _ (by intro e; have := congrArg Addr.block e; simp only at this; omega)]; exact hc4.1))
            ((go_at_call 39; refine hfd.mono ?_; rintro e w4 ⟨rfl, hB4⟩; have hB4' : Below w3.heap.size w3 w4 := ⟨hB4.os, hB4.tape, hB4.output, hB4.size, hB4.block⟩; have hc4 := HQ.out w4 hB4'; have hq4 := hc4.2.1; have hz4 := hc4.2.2))
          go_wp2
          go_ret
          rw [He.out, hc]
          refine ⟨rfl, ?_⟩
          exact HEnd.out w4 hB4'

end Go.Proofs.YtcbmofapnjdmgaaDoor
