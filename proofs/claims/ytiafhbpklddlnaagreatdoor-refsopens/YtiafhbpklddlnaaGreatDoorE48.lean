import Derived.Test.YtiafhbpklddlnaaGreatDoorE47
import Derived.Test.YtiafhbpklddlnaaGreatDoorE31
/- The document's refs: Open. -/
namespace Go.Proofs.YtiafhbpklddlnaaGreatDoor
open Go.RowKit Go.Shelf Go.Maps

attribute [local go_sem] Oper.semAt_some

theorem mem_flat {p : List UInt8} : ∀ {rs : List (List UInt8)}, p ∈ rs → p.length ≤ rs.flatten.length
  | [], h => by cases h
  | r :: rs, h => by
    rw [List.flatten_cons, List.length_append]
    rcases List.mem_cons.1 h with rfl | h
    · omega
    · have := mem_flat h; omega
theorem parse_mem {l p : List UInt8} (h : p ∈ (parseL l).1) : p.length ≤ l.length := by
  have := mem_flat h
  have := parseL_bounds l
  omega
/-- what stands while the document goes through records -/
structure OO (w W : World) (fb rb : Nat) (va : Option Addr) (vn vc sz : Nat) (ds : List (List UInt8)) (oa : Option Addr) (oc : Nat) (O : List Ch) : Prop where
  bel : Below w.heap.size w W
  b2 : Boxed W w.heap.size tR (.slice none 0 0)
  bf : Box3 W fb (.slice va vn vc) (.int .i64 (sz : Int)) (.bool false)
  br : Boxed W rb tR (.slice oa O.length oc)
  dn : DoneC w.heap.size W (.slice va vn vc) ds
  och : Chs W oa O.length O
  oq : ∀ y, oa = some y → w.heap.size + 1 ≤ y.block ∧ y.block < W.heap.size ∧ y.block ≠ rb
  ord : w.heap.size < fb ∧ w.heap.size < rb ∧ fb ≠ rb ∧ ∀ z, (Value.slice va vn vc).ownBlock = some z → z ≠ rb
theorem OO.below {w W W' : World} {fb rb : Nat} {va : Option Addr} {vn vc sz : Nat} {ds : List (List UInt8)} {oa : Option Addr} {oc : Nat} {O : List Ch} (h : OO w W fb rb va vn vc sz ds oa oc O) (hB : Below W.heap.size W W') : OO w W' fb rb va vn vc sz ds oa oc O :=
  { h with
    bel := h.bel.trans (hB.mono h.bel.size)
    b2 := (hB.block _ h.b2.lt).trans h.b2
    bf := (hB.block _ h.bf.lt).trans h.bf
    br := (hB.block _ h.br.lt).trans h.br
    dn := h.dn.below hB
    och := h.och.kept hB
    oq := fun y hy => ⟨(h.oq y hy).1, Nat.lt_of_lt_of_le (h.oq y hy).2.1 hB.size, (h.oq y hy).2.2⟩ }
/-- refs that were read are kept -/
theorem OO.set {w W W' : World} {fb rb : Nat} {va : Option Addr} {vn vc sz : Nat} {ds : List (List UInt8)} {oa qa : Option Addr} {oc qc : Nat} {O Q : List Ch} (h : OO w W fb rb va vn vc sz ds oa oc O) (hB : Below W.heap.size W W') (hQ : Chs W' qa Q.length Q) (hq : ∀ y, qa = some y → oa = some y ∨ (W.heap.size ≤ y.block ∧ y.block < W'.heap.size)) : OO w (W'.setCell ⟨rb, 0, none⟩ (.slice qa Q.length qc)) fb rb va vn vc sz ds qa qc Q := by
  have h' := h.below hB
  have hT : Turn (fun k => k = rb) W' (W'.setCell ⟨rb, 0, none⟩ (.slice qa Q.length qc)) := turn_setCell W' _ 0 _
  have hrl := h.br.lt
  have hfl := h.bf.lt
  have hs := h.bel.size
  obtain ⟨o1, o2, o3, o4⟩ := h.ord
  have hq' : ∀ y, qa = some y → w.heap.size + 1 ≤ y.block ∧ y.block < W'.heap.size ∧ y.block ≠ rb := fun y hy => by
    rcases hq y hy with e | ⟨e1, e2⟩
    · exact h'.oq y e
    · exact ⟨by omega, e2, by omega⟩
  exact ⟨h'.bel.trans (hT.below h'.bel.size (fun k hk => by omega)), (hT.block _ h'.b2.lt (by omega)).trans h'.b2, (hT.block _ h'.bf.lt o3).trans h'.bf, h'.br.set _, h'.dn.turn hT (fun k hk => by omega) o4, hQ.turn hT (fun y hy => (hq' y hy).2.2), fun y hy => ⟨(hq' y hy).1, Nat.lt_of_lt_of_le (hq' y hy).2.1 hT.size, (hq' y hy).2.2⟩, h.ord⟩
/-- how the document's Open ends -/
def DOpened (w w' : World) (b : List UInt8) (e : Ending) : Prop :=
  Below w.heap.size w w' ∧ ((((parseL b).2.2 = true ∨ loadR decRf (parseL b).1 noR = none) ∧ ∃ oa on oc z, e = .returned (.tuple #[.agg #[.slice oa on oc], .int .i64 z, .bool false])) ∨
    ((parseL b).2.2 = false ∧ ∃ g n oa oc O, loadR decRf (parseL b).1 noR = some (g, n) ∧ e = .returned (.tuple #[.agg #[.slice oa (List.length O) oc], .int .i64 ((parseL b).2.1 : Int), .bool true]) ∧ AllR g n O ∧ NamesR g n ∧ Chs w' oa O.length O))
theorem rc_get' (ds : List (List UInt8)) (i : Nat) (h : i < ds.length) : ds[i]? = some (rc ds i) := by
  have := rc_get ds i h
  exact this
theorem none_all : AllR (fun _ => 0) 0 [] := ⟨[], List.nodup_nil, fun x => by simp, rfl, by simp⟩

set_option maxRecDepth 100000 in
set_option maxHeartbeats 8000000 in
theorem dopen_any (w : World) (ba : Option Addr) (bn bc : Nat) (b : List UInt8) (hb : Bytes w ba bn b) (hbc : bn ≤ bc) (hcm : bc ≤ maxLen) (hbn : bn ≤ 4000) :
    Calls Tryz.prog 17 #[.slice ba bn bc] w fun e w' => DOpened w w' b e := by
  have hbl := hb.1
  obtain ⟨w1, hw1⟩ : ∃ w1, w1 = w.alloc (.cells #[.slice none 0 0] 32) := ⟨_, rfl⟩
  have B1 : Below w.heap.size w w1 := by rw [hw1]; exact (Below.refl _ w).alloc (Nat.le_refl _) _
  have b1 : Boxed w1 w.heap.size tR (.slice none 0 0) := by rw [hw1]; exact Boxed.new _ _ _
  have s1 : w1.heap.size = w.heap.size + 1 := by rw [hw1]; simp
  have hrd := refRead_any w.heap.size ba bn bc b w1 ((Turn.of_below (fun _ => False) B1).bytes hb (fun _ _ _ => id)) hbc hcm (by omega) B1.size (fun h0 y hy => by
    obtain ⟨b', off, e, hcell⟩ := hb.2 h0
    rw [hy] at e; cases e
    exact World.block_lt_of_cell? w _ (hcell 0 h0))
  have hmem : ∀ p ∈ (parseL b).1, p.length ≤ 4000 := fun p hp => by have := parse_mem hp; omega
  have hszl := parseL_len b
  obtain ⟨ds, sz, wrong, hps⟩ : ∃ ds sz wrong, parseL b = (ds, sz, wrong) := ⟨_, _, _, rfl⟩
  rw [hps] at hmem hszl
  simp only at hmem hszl
  have HDO : Hid (∀ w' e, DOpened w w' b e ↔ (Below w.heap.size w w' ∧ (((wrong = true ∨ loadR decRf ds noR = none) ∧ ∃ oa on oc z, e = .returned (.tuple #[.agg #[.slice oa on oc], .int .i64 z, .bool false])) ∨ (wrong = false ∧ ∃ g n oa oc O, loadR decRf ds noR = some (g, n) ∧ e = .returned (.tuple #[.agg #[.slice oa (List.length O) oc], .int .i64 (sz : Int), .bool true]) ∧ AllR g n O ∧ NamesR g n ∧ Chs w' oa O.length O)))) := fun w' e => by unfold DOpened; rw [hps]
  have hrd' : Calls Tryz.prog 43 #[.slice ba bn bc] w1 fun e w' => ∃ va vn vc, e = .returned (.agg #[.slice va vn vc, .int .i64 (sz : Int), .bool wrong]) ∧ DoneC w.heap.size w' (.slice va vn vc) ds ∧ (∀ g, (Value.slice va vn vc).ownBlock = some g → w1.heap.size ≤ g) ∧ Below w1.heap.size w1 w' := by
    refine hrd.mono ?_
    rintro e w' ⟨va, vn, vc, he, h1, h2, h3⟩
    rw [hps] at he h1
    exact ⟨va, vn, vc, he, h1, h2, h3⟩
  have HB1 : Hid (Below w.heap.size w w1 ∧ Boxed w1 w.heap.size tR (.slice none 0 0) ∧ w1.heap.size = w.heap.size + 1) := ⟨B1, b1, s1⟩
  have HMM : Hid (∀ p ∈ ds, p.length ≤ 4000) := hmem
  have HNN : Hid (∀ k, k ≤ ds.length → k ≤ 4000) := fun k hk => by have := parseL_bounds b; rw [hps] at this; simp only at this; omega
  clear hrd hb hps hmem B1 b1 s1
  go_enter Tryz.func17, Tryz.ntmps17
  cases wrong with
  | true =>
    go_wp2_with (rw [← hw1]; clear hw1; go_at_call 43; refine hrd'.mono ?_; clear hrd'; rintro e w2 ⟨va, vn, vc, rfl, hdn, hvb, hB2⟩; have HD2 : Hid (DoneC w.heap.size w2 (.slice va vn vc) ds ∧ (∀ g, (Value.slice va vn vc).ownBlock = some g → w1.heap.size ≤ g) ∧ Below w1.heap.size w1 w2) := ⟨hdn, hvb, hB2⟩; have r2 : w2.cell? ⟨w.heap.size, 0, none⟩ = some (.slice none 0 0) := (hB2.cell (p := ⟨w.heap.size, 0, none⟩) (by show w.heap.size < w1.heap.size; rw [HB1.out.2.2]; omega)).trans HB1.out.2.1.cell; have hws : w.heap.size < w2.heap.size := (by have := hB2.size; have := HB1.out.2.2; omega); have hb2 : Boxed w2 w.heap.size tR (.slice none 0 0) := (hB2.block _ (by rw [HB1.out.2.2]; omega)).trans HB1.out.2.1; have f2 := hb2.frozen; clear hdn hvb hB2)
    have hBw2 : Below w.heap.size w w2 := HB1.out.1.trans (HD2.out.2.2.mono HB1.out.1.size)
    have hB4 := ((hBw2.setCell (p := ⟨w.heap.size, 0, none⟩) (Nat.le_refl _) (.slice none 0 0)).alloc (by rw [World.size_setCell]; omega) (.cells #[.slice va vn vc, .int .i64 (sz : Int), .bool true] 92)).alloc (by rw [World.size_alloc, World.size_setCell]; omega) (.cells #[.slice none 0 0] 32)
    have hc4 := (((hb2.set (.slice none 0 0)).alloc (.cells #[.slice va vn vc, .int .i64 (sz : Int), .bool true] 92)).alloc (.cells #[.slice none 0 0] 32)).cell
    exact bodyPost_ret (v := .tuple #[.agg #[.slice none 0 0], .int .i64 0, .bool false]) (by simp [results, Tryz.results17, go_sem, hc4]) rfl ((HDO.out _ _).2 ⟨hB4, .inl ⟨.inl (by first | rfl | trivial), none, 0, 0, 0, rfl⟩⟩)
  | false =>
    go_wp2_with (rw [← hw1]; clear hw1; go_at_call 43; refine hrd'.mono ?_; clear hrd'; rintro e w2 ⟨va, vn, vc, rfl, hdn, hvb, hB2⟩; have HD2 : Hid (DoneC w.heap.size w2 (.slice va vn vc) ds ∧ (∀ g, (Value.slice va vn vc).ownBlock = some g → w1.heap.size ≤ g) ∧ Below w1.heap.size w1 w2) := ⟨hdn, hvb, hB2⟩; have r2 : w2.cell? ⟨w.heap.size, 0, none⟩ = some (.slice none 0 0) := (hB2.cell (p := ⟨w.heap.size, 0, none⟩) (by show w.heap.size < w1.heap.size; rw [HB1.out.2.2]; omega)).trans HB1.out.2.1.cell; have hws : w.heap.size < w2.heap.size := (by have := hB2.size; have := HB1.out.2.2; omega); have hb2 : Boxed w2 w.heap.size tR (.slice none 0 0) := (hB2.block _ (by rw [HB1.out.2.2]; omega)).trans HB1.out.2.1; have f2 := hb2.frozen; clear hdn hvb hB2)
    obtain ⟨w4, hw4⟩ : ∃ w4, w4 = (w2.alloc (.cells #[.slice va vn vc, .int .i64 (sz : Int), .bool false] 92)).alloc (.cells #[.slice none 0 0] 32) := ⟨_, rfl⟩
    have H4 : Hid (OO w w4 w2.heap.size (w2.heap.size + 1) va vn vc sz ds none 0 []) := by
      obtain ⟨hdn, hvb, hB2⟩ := HD2.out
      obtain ⟨B1, b1, s1⟩ := HB1.out
      have sA : (w2.alloc (.cells #[.slice va vn vc, .int .i64 (sz : Int), .bool false] 92)).heap.size = w2.heap.size + 1 := by simp
      have BA : Below w2.heap.size w2 (w2.alloc (.cells #[.slice va vn vc, .int .i64 (sz : Int), .bool false] 92)) := (Below.refl _ _).alloc (Nat.le_refl _) _
      have B24 : Below w2.heap.size w2 w4 := by rw [hw4]; exact BA.alloc BA.size _
      have hs2 := hB2.size
      have hf : Box3 w4 w2.heap.size (.slice va vn vc) (.int .i64 (sz : Int)) (.bool false) := by
        have h1 : Box3 (w2.alloc (.cells #[.slice va vn vc, .int .i64 (sz : Int), .bool false] 92)) w2.heap.size (.slice va vn vc) (.int .i64 (sz : Int)) (.bool false) := World.alloc_heap_new w2 _
        rw [hw4]
        exact (Below.heap_alloc _ _ _ (by simp)).trans h1
      have hrb : Boxed w4 (w2.heap.size + 1) tR (.slice none 0 0) := by
        have := Boxed.new (w2.alloc (.cells #[.slice va vn vc, .int .i64 (sz : Int), .bool false] 92)) tR (.slice none 0 0)
        rw [sA] at this
        rw [hw4]; exact this
      exact ⟨(B1.trans (hB2.mono B1.size)).trans (B24.mono (by omega)), (B24.block _ (by omega)).trans ((hB2.block _ (by omega)).trans b1), hf, hrb, hdn.below B24, ⟨rfl, fun h => (by simp at h)⟩, (fun y hy => by cases hy), ⟨by omega, by omega, by omega, fun z hz => by have h1 := hdn; obtain ⟨xs, ho, _, _⟩ := h1; have := (ho.lt z hz).2; omega⟩⟩
    have hvn : vn = ds.length := by
      obtain ⟨xs, ho, _, _⟩ := HD2.out.1
      rcases ho.2 with ⟨e, h0⟩ | ⟨g', cap', cur, e, _⟩
      · rw [h0]; exact (Value.slice.inj e).2.1
      · exact (Value.slice.inj e).2.1
    rw [← hw4]
    clear hw4 HD2 r2 hb2 f2 hws
    generalize w2.heap.size = fb at *
    have HVN : Hid (vn = ds.length) := hvn
    have hvn9 : vn ≤ 4000 := HNN.out _ (by rw [hvn]; exact Nat.le_refl _)
    clear hvn
    go_loopw [18] (fun q W => ∃ (i : Nat) (oa : Option Addr) (oc : Nat) (O : List Ch) (g : List UInt8 → Int) (n : Nat), i ≤ vn ∧ q = .int .i64 (i : Int) ∧ Hid (OO w W fb (fb + 1) va vn vc sz ds oa oc O ∧ loadR decRf (ds.take i) noR = some (g, n) ∧ AllR g n O ∧ NamesR g n)) (fun q _ => vn - (intOf q).toNat)
    case atStart => exact ⟨0, none, 0, [], _, _, Nat.zero_le _, rfl, H4.out, rfl, none_all, ⟨fun k hk => absurd rfl hk, by omega⟩⟩
    case round =>
      clear H4
      obtain ⟨i, oa, oc, O, g, n, hiv, rfl, HO⟩ := hrel
      by_cases hil : i < vn
      · obtain ⟨xs, ho, _, h3⟩ := HO.out.1.dn
        obtain ⟨x, m, cc, hxs, hby, _, hmc, hcc⟩ := h3 i (by rw [← HVN.out]; exact hil)
        obtain ⟨gv, hgv⟩ : ∃ gv, va = some ⟨gv, 0, none⟩ := by
          rcases ho.2 with ⟨e, h0⟩ | ⟨g', cap', cur, e, _⟩
          · rw [← HVN.out] at h0; omega
          · exact ⟨g', (Value.slice.inj e).1⟩
        subst hgv
        have q1 : wr.cell? ⟨gv, i, none⟩ = some (.slice x m cc) := by
          rw [← HVN.out] at ho
          rw [ho.cellAt i (by omega)]
          exact hxs
        have hmem : rc ds i ∈ ds := List.mem_of_getElem? (rc_get' ds i (by rw [← HVN.out]; exact hil))
        have hm4 : m ≤ 4000 := by have := HMM.out _ hmem; rw [hby.1] at this; exact this
        have hdr := dread_any wr oa oc O HO.out.1.och g n HO.out.2.2.1 (by rw [HO.out.2.2.1.len]; have := HO.out.2.2.2.2; omega) x m cc (rc ds i) hby hmc hcc (by omega)
        have cR := HO.out.1.br.cell
        have l1 : (i : Int) < (vn : Int) := by omega
        have l2 : ¬ vn ≤ i := by omega
        have HM : Hid (vn - (intOf (Value.int .i64 ((i : Int) + 1))).toNat < vn - (intOf (Value.int .i64 (i : Int))).toNat) := (by simp [intOf]; omega : vn - (intOf (Value.int .i64 ((i : Int) + 1))).toNat < vn - (intOf (Value.int .i64 (i : Int))).toNat)
        have hids : i < ds.length := by rw [← HVN.out]; exact hil
        clear ho h3 hxs hby hmc hcc hmem
        cases hD : docR g n (rc ds i) with
        | none =>
          rw [hD] at hdr
          have HF : Hid (loadR decRf ds noR = none) := loadR_none HO.out.2.1 hids (by
            unfold docR at hD
            cases hde : decRf (rc ds i) with
            | none => exact .inl rfl
            | some l =>
              rw [hde] at hD
              refine .inr ⟨l, rfl, fun e => ?_⟩
              simp only [e] at hD
              cases hD)
          go_wp2_with (go_at_call 44; refine hdr.mono ?_; clear hdr; rintro e w5 ⟨hB5, qa, qn, qc, rfl, _⟩; have H5 : Hid (OO w w5 fb (fb + 1) (some ⟨gv, 0, none⟩) vn vc sz ds oa oc O) := HO.out.1.below hB5; have cR5 := H5.out.br.cell; have fR5 := H5.out.br.frozen; have hb5 : Boxed (w5.setCell ⟨fb + 1, 0, none⟩ (.slice qa qn qc)) w.heap.size tR (.slice none 0 0) := H5.out.b2.other (by have := H5.out.ord.2.1; omega) _; have r5 := hb5.cell; have f5 := hb5.frozen; clear hB5)
          have hB6 : Below w.heap.size w ((w5.setCell ⟨fb + 1, 0, none⟩ (.slice qa qn qc)).setCell ⟨w.heap.size, 0, none⟩ (.slice none 0 0)) := (H5.out.bel.setCell (p := ⟨fb + 1, 0, none⟩) (by have := H5.out.ord.2.1; show w.heap.size ≤ fb + 1; omega) _).setCell (p := ⟨w.heap.size, 0, none⟩) (Nat.le_refl _) _
          exact bodyPost_ret (v := .tuple #[.agg #[.slice none 0 0], .int .i64 0, .bool false]) (by simp [results, Tryz.results17, go_sem, (hb5.set (.slice none 0 0)).cell]) rfl ((HDO.out _ _).2 ⟨hB6, .inl ⟨.inr HF.out, none, 0, 0, 0, rfl⟩⟩)
        | some l =>
          rw [hD] at hdr
          have hdc : decRf (rc ds i) = some l ∧ chkR g n l = 0 := by
            unfold docR at hD
            cases hde : decRf (rc ds i) with
            | none => rw [hde] at hD; cases hD
            | some l' =>
              rw [hde] at hD
              simp only at hD
              by_cases h0 : chkR g n l' = 0
              · rw [if_pos h0] at hD
                cases hD
                exact ⟨rfl, h0⟩
              · rw [if_neg h0] at hD; cases hD
          have HNX : Hid (loadR decRf (ds.take (i + 1)) noR = some (applyR (g, n) l) ∧ AllR (applyR (g, n) l).1 (applyR (g, n) l).2 (l.foldl withR O) ∧ NamesR (applyR (g, n) l).1 (applyR (g, n) l).2) := ⟨loadR_next HO.out.2.1 hids l hdc.1 hdc.2, fold_all l (g, n) O HO.out.2.2.1, HO.out.2.2.2.set HO.out.2.2.1.cntr hdc.2⟩
          clear hdc
          go_wp2_with (go_at_call 44; refine hdr.mono ?_; clear hdr; rintro e w5 ⟨hB5, qa, qn, qc, rfl, hq⟩; obtain ⟨rfl, hq2, hq3⟩ := hq l rfl; have H5 : Hid (OO w w5 fb (fb + 1) (some ⟨gv, 0, none⟩) vn vc sz ds oa oc O ∧ OO w (w5.setCell ⟨fb + 1, 0, none⟩ (.slice qa (l.foldl withR O).length qc)) fb (fb + 1) (some ⟨gv, 0, none⟩) vn vc sz ds qa qc (l.foldl withR O)) := ⟨HO.out.1.below hB5, HO.out.1.set hB5 hq2 hq3⟩; have cR5 := H5.out.1.br.cell; have fR5 := H5.out.1.br.frozen; clear hB5 hq hq2 hq3)
          exact ⟨⟨i + 1, qa, qc, l.foldl withR O, (applyR (g, n) l).1, (applyR (g, n) l).2, by omega, by simp, H5.out.2, HNX.out⟩, HM.out⟩
      · obtain rfl : i = vn := by omega
        have l1 : ¬ (i : Int) < (i : Int) := by omega
        have cR := HO.out.1.br.cell
        have cF := HO.out.1.bf.cell.2.1
        have r5 := HO.out.1.b2.cell
        have f5 := HO.out.1.b2.frozen
        have HFN : Hid (loadR decRf ds noR = some (g, n)) := by
          have := HO.out.2.1
          rw [List.take_of_length_le (by rw [← HVN.out]; exact Nat.le_refl _)] at this
          exact this
        have cR2 : (wr.setCell ⟨w.heap.size, 0, none⟩ (.slice oa O.length oc)).cell? ⟨fb + 1, 0, none⟩ = some (.slice oa O.length oc) := (turn_setCell wr w.heap.size 0 (.slice oa O.length oc)).cell HO.out.1.br.cell (fun e => by have := HO.out.1.ord.2.1; simp at e; omega)
        have cF2 : (wr.setCell ⟨w.heap.size, 0, none⟩ (.slice oa O.length oc)).cell? ⟨fb, 1, none⟩ = some (.int .i64 (sz : Int)) := (turn_setCell wr w.heap.size 0 (.slice oa O.length oc)).cell HO.out.1.bf.cell.2.1 (fun e => by have := HO.out.1.ord.1; simp at e; omega)
        go_wp2_with fail
        have HB7 : Hid (Below w.heap.size w (wr.setCell ⟨w.heap.size, 0, none⟩ (.slice oa O.length oc)).drew ∧ Chs (wr.setCell ⟨w.heap.size, 0, none⟩ (.slice oa O.length oc)).drew oa O.length O) := by
          refine ⟨(HO.out.1.bel.setCell (p := ⟨w.heap.size, 0, none⟩) (Nat.le_refl _) _).trans ⟨rfl, rfl, rfl, Nat.le_refl _, fun _ _ => rfl⟩, ?_⟩
          have := HO.out.1.och.turn (turn_setCell wr w.heap.size 0 (.slice oa O.length oc)) (fun y hy e => by have := (HO.out.1.oq y hy).1; omega)
          exact this
        go_region
        go_wp2
        exact bodyPost_ret (v := .tuple #[.agg #[.slice oa O.length oc], .int .i64 (sz : Int), .bool true]) (by simp [results, Tryz.results17, go_sem, (HO.out.1.b2.set (.slice oa O.length oc)).cell]) rfl ((HDO.out _ _).2 ⟨HB7.out.1, .inr ⟨by first | rfl | trivial, g, n, oa, oc, O, HFN.out, rfl, HO.out.2.2.1, HO.out.2.2.2, HB7.out.2⟩⟩)
end Go.Proofs.YtiafhbpklddlnaaGreatDoor
