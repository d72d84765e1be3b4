import Derived.Test.YthalpnpnbclipaaGreatL41
import Derived.Test.YthalpnpnbclipaaGreatL09
/- The document's reading of a tree. -/
namespace Go.Proofs.YthalpnpnbclipaaGreat
open Go.RowKit

attribute [local go_sem] Oper.semAt_some

/-- one entry, as the document reads it -/
def entC (s : List UInt8) : Ent × List UInt8 × Bool :=
  match (textC s false).2.2, (textC s false).2.1 with
  | false, c :: r => (((textC s false).1, decide (c.toNat = 1), (wordC r (decide (1 < c.toNat))).1), (wordC r (decide (1 < c.toNat))).2.1, (wordC r (decide (1 < c.toNat))).2.2)
  | _, t => (((textC s false).1, false, 0), t, true)
def entsC : Nat → List UInt8 → Bool → List Ent → List Ent × List UInt8 × Bool
  | 0, s, wr, acc => (acc, s, wr)
  | k + 1, s, wr, acc => if wr = true then (acc, s, wr) else entsC k (entC s).2.1 (entC s).2.2 (acc ++ [(entC s).1])
def treeC (l : List UInt8) : Option (List Ent) :=
  if l.head? = some 116 then
    (if (entsC (numC (l.drop 1) false).1.toNat (numC (l.drop 1) false).2.1 (numC (l.drop 1) false).2.2 []).2.2 = true ∨ (entsC (numC (l.drop 1) false).1.toNat (numC (l.drop 1) false).2.1 (numC (l.drop 1) false).2.2 []).2.1 ≠ [] ∨ treeErrs (entsC (numC (l.drop 1) false).1.toNat (numC (l.drop 1) false).2.1 (numC (l.drop 1) false).2.2 []).1 ≠ 0 then none
    else some (entsC (numC (l.drop 1) false).1.toNat (numC (l.drop 1) false).2.1 (numC (l.drop 1) false).2.2 []).1)
  else none
def TreeO : Option (List Ent) → Ending → World → Prop
  | none, x, _ => x = .returned (.tuple #[.slice none 0 0, .bool false])
  | some R, x, W => ∃ ad cp, x = .returned (.tuple #[.slice ad R.length cp, .bool true]) ∧ Ents W ad R.length R
theorem textC_size (s : List UInt8) (wr : Bool) : (textC s wr).1.size ≤ 40000 := by
  have := numC_fits s wr
  unfold textC
  split
  · show (0 : Nat) ≤ 40000; omega
  · show (((numC s wr).2.1.take (numC s wr).1.toNat).toArray).size ≤ 40000
    simp
    omega
theorem Cu.low {W W' : World} {q bk off cp : Nat} {s : List UInt8} {wr : Bool} (h : Cu W q bk off cp s wr) (hB : Below (q + 1) W W') (hk : bk < q) : Cu W' q bk off cp s wr :=
  ⟨(hB.block q (by omega)).trans h.box, by
    refine ⟨rfl, fun h0 => ?_⟩
    obtain ⟨b, o, e, hc⟩ := h.by_.2 h0
    cases e
    exact ⟨bk, off, rfl, fun i hi => by
      have := hc i hi
      rw [← this]
      exact World.cell?_of_block (hB.block bk (by omega))⟩, h.le, h.ne, Nat.lt_of_lt_of_le h.lt hB.size⟩
theorem Box3.set1 {W : World} {g : Nat} {a b c : Value} (h : Box3 W g a b c) (v : Value) : Box3 (W.setCell ⟨g, 1, none⟩ v) g a v c := by
  have h' : W.heap[g]? = _ := h
  have hl := h.lt
  unfold Box3
  simp [World.setCell, Array.getElem?_modify, h']
theorem Box3.set2 {W : World} {g : Nat} {a b c : Value} (h : Box3 W g a b c) (v : Value) : Box3 (W.setCell ⟨g, 2, none⟩ v) g a b v := by
  have h' : W.heap[g]? = _ := h
  have hl := h.lt
  unfold Box3
  simp [World.setCell, Array.getElem?_modify, h']
/-- what stands while the document reads a tree -/
structure TK (w : World) (q bk : Nat) (s : List UInt8) (wr : Bool) (acc : List Ent) (ad : Option Addr) (m cp : Nat) (W : World) : Prop where
  cu : ∃ o p, Cu W q bk o p s wr
  bel : Below w.heap.size w W
  row : W.ownsRow (q + 1) 127 3 (.slice ad m cp) m (entCells acc)
  low : q + 1 ≤ W.heap.size
  sh : ∀ x ∈ acc, x.1.size ≤ 40000
  hq : w.heap.size ≤ q
  hk : bk < q
theorem TK.grown {w W W' : World} {q bk : Nat} {s t : List UInt8} {wr wr' : Bool} {acc : List Ent} {ad : Option Addr} {m cp : Nat} (h : TK w q bk s wr acc ad m cp W) (hg : W.grownBy W' (some q)) (hc : ∃ o p, Cu W' q bk o p t wr') : TK w q bk t wr' acc ad m cp W' :=
  ⟨hc, below_of_gr h.bel hg h.hq, own_grown h.row hg (by omega), Nat.le_trans h.low hg.size, h.sh, h.hq, h.hk⟩
theorem TK.above {w W W' : World} {q bk : Nat} {s : List UInt8} {wr : Bool} {acc acc' : List Ent} {ad ad' : Option Addr} {m cp m' cp' : Nat} (h : TK w q bk s wr acc ad m cp W) (hB : Below (q + 1) W W') (hr : W'.ownsRow (q + 1) 127 3 (.slice ad' m' cp') m' (entCells acc')) (hs : ∀ x ∈ acc', x.1.size ≤ 40000) : TK w q bk s wr acc' ad' m' cp' W' := by
  obtain ⟨o, p, hc⟩ := h.cu
  exact ⟨⟨o, p, hc.low hB h.hk⟩, h.bel.trans (hB.mono (by have := h.hq; omega)), hr, Nat.le_trans h.low hB.size, hs, h.hq, h.hk⟩
theorem TK.alloc {w W : World} {q bk : Nat} {s : List UInt8} {wr : Bool} {acc : List Ent} {ad : Option Addr} {m cp : Nat} (h : TK w q bk s wr acc ad m cp W) (o : Obj) : TK w q bk s wr acc ad m cp (W.alloc o) :=
  h.above ((Below.refl _ _).alloc h.low _) (h.row.alloc _) h.sh
theorem TK.setX {w W : World} {q bk : Nat} {s : List UInt8} {wr : Bool} {acc : List Ent} {ad : Option Addr} {m cp : Nat} (h : TK w q bk s wr acc ad m cp W) (xb i : Nat) (v : Value) (hx : q + 1 ≤ xb) (hn : (Value.slice ad m cp).ownBlock ≠ some xb) : TK w q bk s wr acc ad m cp (W.setCell ⟨xb, i, none⟩ v) :=
  h.above ((Below.refl _ _).setCell (p := ⟨xb, i, none⟩) hx _) (h.row.kept (grownBy_setCell _ _ _ _) (.inr hn)) h.sh
theorem TK.nox {w W : World} {q bk : Nat} {s : List UInt8} {wr : Bool} {acc : List Ent} {ad : Option Addr} {m cp : Nat} (h : TK w q bk s wr acc ad m cp W) : (Value.slice ad m cp).ownBlock ≠ some W.heap.size := fun e => by
  have := (row_block3 h.row W.heap.size e).2.1
  omega
theorem TK.push {w W W' : World} {q bk : Nat} {s : List UInt8} {wr : Bool} {acc : List Ent} {ad ad' : Option Addr} {m cp cp' : Nat} {x : Ent} (h : TK w q bk s wr acc ad m cp W) (hr : W'.ownsRow (q + 1) 127 3 (.slice ad' (m + 1) cp') (m + 1) (entCells (acc ++ [x]))) (hg : W.grownBy W' (Value.slice ad m cp).ownBlock) (hs : x.1.size ≤ 40000) : TK w q bk s wr (acc ++ [x]) ad' (m + 1) cp' W' :=
  h.above (below_gr3 h.row h.low hg) hr (fun y hy => by
    rcases List.mem_append.1 hy with h1 | h1
    · exact h.sh y h1
    · simp at h1; subst h1; exact hs)
theorem short_of {acc : List Ent} (h : ∀ x ∈ acc, x.1.size ≤ 40000) : Short acc := fun j x hx => by
  have := h x (List.mem_of_getElem? hx)
  unfold maxLen
  omega

set_option maxRecDepth 50000 in
set_option maxHeartbeats 8000000 in
theorem asTree_main (bk off0 n c : Nat) (l : List UInt8) (w : World) (hb : Bytes w (some ⟨bk, off0, none⟩) n l) (hn : 1 ≤ n) (hnc : n ≤ c) (hc1 : c ≠ 1) (hh : l.head? = some 116) (hlt : bk < w.heap.size) (hsm : n ≤ 40000) :
    Calls Tryz.prog 56 #[.slice (some ⟨bk, off0, none⟩) n c] w fun x w' => TreeO (treeC l) x w' ∧ Below w.heap.size w w' := by
  have hln := hb.1
  obtain ⟨t, rfl⟩ : ∃ t, l = 116 :: t := by
    cases l with
    | nil => simp at hh
    | cons x t => simp at hh; subst hh; exact ⟨t, rfl⟩
  obtain ⟨n', rfl⟩ : ∃ n', n = n' + 1 := ⟨n - 1, by omega⟩
  have htn : t.length = n' := by simpa using hln
  have c0 : w.cell? ⟨bk, off0, none⟩ = some (.int .u8 116) := by
    obtain ⟨b, o, e, hc⟩ := hb.2 (by omega)
    cases e
    have := hc 0 (by omega)
    simpa [bt] using this
  have HC0 : Hid (Cu (w.alloc (.cells #[.slice (some ⟨bk, off0 + 1, none⟩) n' (c - 1), .bool false] 145)) w.heap.size bk (off0 + 1) (c - 1) t false) := by
    refine ⟨by rw [htn]; exact World.alloc_heap_new _ _, ⟨rfl, fun h0 => ?_⟩, by omega, by omega, by simp; omega⟩
    obtain ⟨b, o, e, hc⟩ := hb.2 (by omega)
    cases e
    refine ⟨bk, off0 + 1, rfl, fun i hi => ?_⟩
    have h1 := hc (i + 1) (by omega)
    rw [bt_cons] at h1
    rw [← h1, show off0 + 1 + i = off0 + (i + 1) by omega]
    exact World.cell?_of_block (Below.heap_alloc _ _ _ hlt)
  have hnu := fun W o p (h : Cu W w.heap.size bk o p t false) => number_c W w.heap.size bk o p t false h
  have hnf := numC_fits t false
  obtain ⟨RES, hRES⟩ : ∃ RES, RES = entsC (numC t false).1.toNat (numC t false).2.1 (numC t false).2.2 [] := ⟨_, rfl⟩
  have htc : treeC (116 :: t) = if RES.2.2 = true ∨ RES.2.1 ≠ [] ∨ treeErrs RES.1 ≠ 0 then none else some RES.1 := by rw [hRES]; rfl
  obtain ⟨D, hDD⟩ : ∃ D, D = treeC (116 :: t) := ⟨_, rfl⟩
  rw [← hDD]
  have HD : Hid (D = if RES.2.2 = true ∨ RES.2.1 ≠ [] ∨ treeErrs RES.1 ≠ 0 then none else some RES.1) := hDD.trans htc
  clear hDD
  generalize numC t false = U at hnu hnf hRES
  obtain ⟨uv, us, uw⟩ := U
  simp only at hnu hnf hRES
  obtain ⟨N, rfl⟩ := Int.eq_ofNat_of_zero_le hnf.1
  simp only [Int.toNat_natCast] at hRES
  have HR : Hid (RES = entsC N us uw []) := hRES
  have HN : Hid (∀ W o p, Cu W w.heap.size bk o p t false → Calls Tryz.prog 88 #[.pointer (some ⟨w.heap.size, 0, none⟩)] W fun e w' => e = .returned (.int .i64 N) ∧ (∃ off' cp', Cu w' w.heap.size bk off' cp' us uw) ∧ W.grownBy w' (some w.heap.size)) := hnu
  have hB0 : Below w.heap.size w (w.alloc (.cells #[.slice (some ⟨bk, off0 + 1, none⟩) n' (c - 1), .bool false] 145)) := (Below.refl _ _).alloc (Nat.le_refl _) _
  have i1 : (1 : Int) ≤ (n' : Int) + 1 := by omega
  have i2 : ¬ (n' : Int) + 1 = 0 := by omega
  have hNle : N ≤ 40000 := by omega
  have hT0 : TK w w.heap.size bk t false [] none 0 0 (w.alloc (.cells #[.slice (some ⟨bk, off0 + 1, none⟩) n' (c - 1), .bool false] 145)) := ⟨⟨_, _, HC0.out⟩, hB0, World.ownsRow_nil _ _ _ _, by simp, fun x hx => by simp at hx, Nat.le_refl _, hlt⟩
  have HT0 : Hid (TK w w.heap.size bk t false [] none 0 0 (w.alloc (.cells #[.slice (some ⟨bk, off0 + 1, none⟩) n' (c - 1), .bool false] 145))) := hT0
  clear hnu hnf hRES hT0 hB0 hb hh hln htc htn
  go_enter Tryz.func56, Tryz.ntmps56
  go_wp2_with (go_at_call 88; refine (HN.out _ _ _ HC0.out).mono ?_; clear HN; rintro e w1 ⟨rfl, hC1, hG1⟩; have H1 : Hid (TK w w.heap.size bk us uw [] none 0 0 w1) := HT0.out.grown hG1 hC1; clear hC1 hG1 HT0 HC0)
  go_loopw [5, 6] (fun v i wr => ∃ (k : Nat) (s : List UInt8) (f : Bool) (acc : List Ent) (ad : Option Addr) (m cp : Nat), m + k ≤ 40000 ∧ i = .int .i64 (k : Int) ∧ v = .slice ad m cp ∧ Hid (TK w w.heap.size bk s f acc ad m cp wr ∧ RES = entsC k s f acc)) (fun _ i _ => (intOf i).toNat)
  case atStart => exact ⟨N, us, uw, [], none, 0, 0, by omega, rfl, rfl, H1.out, HR.out⟩
  case round =>
    clear H1 HR hNle
    obtain ⟨k, s, f, acc, ad, m, cp, hmk, rfl, rfl, H⟩ := hrel
    obtain ⟨o, p, hC⟩ := H.out.1.cu
    obtain ⟨q0, q1, q2, q3⟩ := hC.cell
    cases f with
    | true =>
      have HF : Hid (RES.2.2 = true) := (by rw [H.out.2]; cases k <;> rfl : RES.2.2 = true)
      have HB : Hid (Below w.heap.size w wr) := H.out.1.bel
      clear hC
      cases k with
      | zero =>
        go_wp2
        go_ret2
        have hd := HD.out
        rw [if_pos (.inl HF.out)] at hd
        subst hd
        exact ⟨rfl, HB.out⟩
      | succ k =>
        have j1 : (0 : Int) < ((k + 1 : Nat) : Int) := by omega
        go_wp2
        go_ret2
        have hd := HD.out
        rw [if_pos (.inl HF.out)] at hd
        subst hd
        exact ⟨rfl, HB.out⟩
    | false =>
      cases k with
      | zero =>
        have HF : Hid (RES = (acc, s, false)) := (by rw [H.out.2]; rfl : RES = (acc, s, false))
        have HB : Hid (Below w.heap.size w wr) := H.out.1.bel
        have hlen : acc.length = m := by have := H.out.1.row.1; rw [entCells_len] at this; omega
        by_cases hs : s = []
        · subst hs
          have hck := refCheckTree_any ad m cp acc wr (own_ents H.out.1.row hlen) (short_of H.out.1.sh) (by omega)
          have HO : Hid (wr.ownsRow (w.heap.size + 1) 127 3 (.slice ad m cp) m (entCells acc)) := H.out.1.row
          simp only [List.length_nil] at q0
          obtain ⟨E, hE⟩ : ∃ E, E = treeErrs acc := ⟨_, rfl⟩
          rw [← hE] at hck
          have HE : Hid (E = treeErrs acc) := hE
          clear hC hE
          by_cases hE0 : E = 0
          · subst hE0
            go_wp2_with (go_at_call 66; refine hck.mono ?_; clear hck; rintro e w9 ⟨rfl, hB9⟩)
            go_ret2
            have hd := HD.out
            rw [HF.out, if_neg (by simp [← HE.out])] at hd
            subst hd
            subst hlen
            exact ⟨⟨ad, cp, rfl, (own_ents HO.out rfl).below hB9⟩, HB.out.trans (hB9.mono HB.out.size)⟩
          · have e1 : (E == 0) = false := by simp [hE0]
            have e2 : (E != 0) = true := by simp [hE0]
            go_wp2_with (go_at_call 66; refine hck.mono ?_; clear hck; rintro e w9 ⟨rfl, hB9⟩)
            go_ret2
            have hd := HD.out
            rw [HF.out, if_pos (.inr (.inr (by rw [← HE.out]; exact hE0)))] at hd
            subst hd
            exact ⟨rfl, HB.out.trans (hB9.mono HB.out.size)⟩
        · obtain ⟨sl, hsl⟩ : ∃ sl, s.length = sl + 1 := by
            cases s with
            | nil => exact absurd rfl hs
            | cons x t => exact ⟨t.length, rfl⟩
          rw [hsl] at q0
          clear hC
          go_wp2
          go_ret2
          have hd := HD.out
          rw [HF.out, if_pos (.inr (.inl hs))] at hd
          subst hd
          exact ⟨rfl, HB.out⟩
      | succ k =>
        have j1 : (0 : Int) < ((k + 1 : Nat) : Int) := by omega
        have j2 : ((k + 1 : Nat) : Int) - 1 = (k : Int) := by omega
        have hTx := text_c wr w.heap.size bk o p s false hC
        have hsz := textC_size s false
        have hee : entC s = match (textC s false).2.2, (textC s false).2.1 with
          | false, c :: r => (((textC s false).1, decide (c.toNat = 1), (wordC r (decide (1 < c.toNat))).1), (wordC r (decide (1 < c.toNat))).2.1, (wordC r (decide (1 < c.toNat))).2.2)
          | _, t => (((textC s false).1, false, 0), t, true) := rfl
        have hrs : RES = entsC k (entC s).2.1 (entC s).2.2 (acc ++ [(entC s).1]) := by rw [H.out.2]; simp [entsC]
        generalize textC s false = TX at hTx hsz hee
        obtain ⟨nm, ts, tw⟩ := TX
        simp only at hTx hsz hee
        have HSZ : Hid (nm.size ≤ 40000) := hsz
        clear hC hsz
        by_cases hbad : tw = true ∨ ts.length < 1
        · have e1 : entC s = ((nm, false, 0), ts, true) := by
            rw [hee]
            cases tw with
            | true => rfl
            | false =>
              cases ts with
              | nil => rfl
              | cons x t => rcases hbad with h | h
                            · cases h
                            · simp at h
          rw [e1] at hrs
          simp only at hrs
          have HRS : Hid (RES = entsC k ts true (acc ++ [(nm, false, 0)])) := hrs
          have HBAD : Hid (tw = true ∨ ts.length < 1) := hbad
          have hWd : ∀ W o p, Cu W w.heap.size bk o p ts true → Calls Tryz.prog 91 #[.pointer (some ⟨w.heap.size, 0, none⟩)] W fun e w' => e = .returned (.int .u64 0) ∧ (∃ off' cp', Cu w' w.heap.size bk off' cp' ts true) ∧ W.grownBy w' (some w.heap.size) := fun W o p h => by
            have := word_c W w.heap.size bk o p ts true h
            have e : wordC ts true = (0, ts, true) := by unfold wordC; rw [if_pos (.inl rfl)]
            rw [e] at this
            exact this
          clear hee e1 hrs hbad
          go_wp2_with first
            | (go_at_call 89; refine hTx.mono ?_; clear hTx; rintro e w2 ⟨rfl, hC2, hG2⟩; have F2 : Hid (TK w w.heap.size bk ts tw acc ad m cp w2) := H.out.1.grown hG2 hC2; have F3 : Hid (TK w w.heap.size bk ts tw acc ad m cp (w2.alloc (.cells #[.string nm, .bool false, .int .u64 0] 127))) := F2.out.alloc _; have b3 := Box3.new w2 (.string nm) (.bool false) (.int .u64 0); have hnx := F2.out.nox; have hlx := F2.out.low; have hqx : w2.heap.size ≠ w.heap.size := (by omega); obtain ⟨o2, p2, hC3⟩ := F3.out.cu; have ht := take_bad _ w.heap.size bk o2 p2 ts tw 1 hC3 HBAD.out; clear hC2 hG2 F2 H)
            | (go_at_call 90; refine ht.mono ?_; clear ht; rintro e w4 ⟨rfl, hC4, hG4⟩; have F4 : Hid (TK w w.heap.size bk ts true acc ad m cp w4) := F3.out.grown hG4 ⟨_, _, hC4⟩; have b4 := b3.grown hG4 hqx; obtain ⟨d0, d1, d2, d3⟩ := hC4.cell; have hCw := hC4; clear hG4 F3 b3 hC3 hC4)
            | (go_at_call 91; refine (hWd _ _ _ hCw).mono ?_; clear hWd; rintro e w5 ⟨rfl, hC5, hG5⟩; have F5 : Hid (TK w w.heap.size bk ts true acc ad m cp w5) := F4.out.grown hG5 hC5; have b5 := b4.grown hG5 hqx; obtain ⟨y0, y1, y2⟩ := b5.cell; obtain ⟨g0, g1, g2⟩ := b5.frozen; have F6 : Hid (TK w w.heap.size bk ts true acc ad m cp (w5.setCell ⟨w2.heap.size, 2, none⟩ (.int .u64 0))) := F5.out.setX w2.heap.size 2 _ hlx hnx; have b6 := b5.set2 (.int .u64 0); obtain ⟨z0, z1, z2⟩ := b6.cell; have F7 : Hid (TK w w.heap.size bk ts true acc ad m cp ((w5.setCell ⟨w2.heap.size, 2, none⟩ (.int .u64 0)).alloc (.cells #[.string nm, .bool false, .int .u64 0] 127))) := F6.out.alloc _; have E7 : Hid (Ents ((w5.setCell ⟨w2.heap.size, 2, none⟩ (.int .u64 0)).alloc (.cells #[.string nm, .bool false, .int .u64 0] 127)) (some ⟨w5.heap.size, 0, none⟩) 1 [(nm, false, 0)]) := (by have := ents_one (w5.setCell ⟨w2.heap.size, 2, none⟩ (.int .u64 0)) (nm, false, 0); rw [show (w5.setCell ⟨w2.heap.size, 2, none⟩ (.int .u64 0)).heap.size = w5.heap.size by simp] at this; exact this); clear hC5 hG5 F4 F5 F6 b5 b6 hCw b4)
            | (at_builtin; refine wpList_app3 _ (w.heap.size + 1) F7.out.low rfl _ _ rfl (.slice ad m cp) m acc rfl F7.out.row (some ⟨w5.heap.size, 0, none⟩) 1 1 [(nm, false, 0)] rfl E7.out (fun h => by cases h) (by omega) ?_; intro v8 w8 ho8 hg8; obtain ⟨ad8, c8, hv8, _⟩ := row_shape3 ho8; subst hv8; have F8 : Hid (TK w w.heap.size bk ts true (acc ++ [(nm, false, 0)]) ad8 (m + 1) c8 w8) := F7.out.push ho8 hg8 HSZ.out; clear ho8 hg8 F7 E7)
          go_roundw
          case rel => exact ⟨k, ts, true, acc ++ [(nm, false, 0)], ad8, m + 1, c8, by omega, by simp, rfl, F8.out, HRS.out⟩
          case measure => simp [intOf]
        · obtain ⟨c1, r1, rfl⟩ : ∃ c1 r1, ts = c1 :: r1 := by
            cases ts with
            | nil => exact absurd (.inr (by simp)) hbad
            | cons x t => exact ⟨x, t, rfl⟩
          have htw : tw = false := by cases tw with | true => exact absurd (.inl rfl) hbad | false => rfl
          subst htw
          simp only at hee
          rw [hee] at hrs
          simp only at hrs
          obtain ⟨D1, hD1⟩ : ∃ D1, D1 = decide (c1.toNat = 1) := ⟨_, rfl⟩
          obtain ⟨W1, hW1⟩ : ∃ W1, W1 = decide (1 < c1.toNat) := ⟨_, rfl⟩
          have hd1 : ((c1.toNat : Int) == 1) = D1 := by rw [hD1, Bool.eq_iff_iff]; simp; omega
          have hw1 : decide ((1 : Int) < (c1.toNat : Int)) = W1 := by rw [hW1]; exact decide_eq_decide.2 (by omega)
          rw [← hD1, ← hW1] at hrs
          have hw2 : decide (1 < c1.toNat) = W1 := hW1.symm
          have hWd0 := fun W o p h => word_c W w.heap.size bk o p r1 W1 h
          obtain ⟨⟨xv, xs, xw⟩, hX⟩ : ∃ y, y = wordC r1 W1 := ⟨_, rfl⟩
          rw [← hX] at hrs hWd0
          simp only at hrs hWd0
          have HRS : Hid (RES = entsC k xs xw (acc ++ [(nm, D1, xv)])) := hrs
          have hWd : ∀ W o p, Cu W w.heap.size bk o p r1 W1 → Calls Tryz.prog 91 #[.pointer (some ⟨w.heap.size, 0, none⟩)] W fun e w' => e = .returned (.int .u64 xv) ∧ (∃ off' cp', Cu w' w.heap.size bk off' cp' xs xw) ∧ W.grownBy w' (some w.heap.size) := hWd0
          clear hee hrs hbad hD1 hW1 hX hWd0
          go_wp2_with first
            | (go_at_call 89; refine hTx.mono ?_; clear hTx; rintro e w2 ⟨rfl, hC2, hG2⟩; have F2 : Hid (TK w w.heap.size bk (c1 :: r1) false acc ad m cp w2) := H.out.1.grown hG2 hC2; have F3 : Hid (TK w w.heap.size bk (c1 :: r1) false acc ad m cp (w2.alloc (.cells #[.string nm, .bool false, .int .u64 0] 127))) := F2.out.alloc _; have b3 := Box3.new w2 (.string nm) (.bool false) (.int .u64 0); have hnx := F2.out.nox; have hlx := F2.out.low; have hqx : w2.heap.size ≠ w.heap.size := (by omega); obtain ⟨o2, p2, hC3⟩ := F3.out.cu; have ht := take_ok _ w.heap.size bk o2 p2 (c1 :: r1) 1 hC3 (by simp); have cx := hC3.bytes1; have hne := hC3.ne; clear hC2 hG2 F2 H)
            | (go_at_call 90; refine ht.mono ?_; clear ht; rintro e w4 ⟨rfl, ⟨o4, hC4⟩, hG4⟩; have F4 : Hid (TK w w.heap.size bk r1 false acc ad m cp w4) := F3.out.grown hG4 ⟨_, _, hC4⟩; have b4 := b3.grown hG4 hqx; have cx4 := cell_grown cx hG4 hne; obtain ⟨d0, d1, d2, d3⟩ := hC4.cell; obtain ⟨k0, k1, k2⟩ := b4.cell; obtain ⟨m0, m1, m2⟩ := b4.frozen; have F4b : Hid (TK w w.heap.size bk r1 false acc ad m cp (w4.setCell ⟨w2.heap.size, 1, none⟩ (.bool D1))) := F4.out.setX w2.heap.size 1 _ hlx hnx; have b4b := b4.set1 (.bool D1); obtain ⟨o5, p5, hC4b⟩ := F4b.out.cu; obtain ⟨n0, n1, n2, n3⟩ := hC4b.cell; have cx5 : (w4.setCell ⟨w2.heap.size, 1, none⟩ (.bool D1)).cell? ⟨bk, o2, none⟩ = some (.int .u8 (c1.toNat : Int)) := (cell_grown cx4 (grownBy_setCell _ _ _ _) (by have := F4.out.hk; omega)); have hCw := hC4b.setW W1; have F4c : Hid (TK w w.heap.size bk r1 W1 acc ad m cp ((w4.setCell ⟨w2.heap.size, 1, none⟩ (.bool D1)).setCell ⟨w.heap.size, 1, none⟩ (.bool W1))) := F4b.out.grown (grownBy_setCell _ _ _ _) ⟨_, _, hCw⟩; have b4c := b4b.grown (grownBy_setCell _ w.heap.size 1 (.bool W1)) hqx; clear hG4 F3 b3 hC3 hC4 F4 F4b cx hC4b b4 b4b)
            | (go_at_call 91; refine (hWd _ _ _ hCw).mono ?_; clear hWd; rintro e w5 ⟨rfl, hC5, hG5⟩; have F5 : Hid (TK w w.heap.size bk xs xw acc ad m cp w5) := F4c.out.grown hG5 hC5; have b5 := b4c.grown hG5 hqx; obtain ⟨y0, y1, y2⟩ := b5.cell; obtain ⟨g0, g1, g2⟩ := b5.frozen; have F6 : Hid (TK w w.heap.size bk xs xw acc ad m cp (w5.setCell ⟨w2.heap.size, 2, none⟩ (.int .u64 xv))) := F5.out.setX w2.heap.size 2 _ hlx hnx; have b6 := b5.set2 (.int .u64 xv); obtain ⟨z0, z1, z2⟩ := b6.cell; have F7 : Hid (TK w w.heap.size bk xs xw acc ad m cp ((w5.setCell ⟨w2.heap.size, 2, none⟩ (.int .u64 xv)).alloc (.cells #[.string nm, .bool D1, .int .u64 xv] 127))) := F6.out.alloc _; have E7 : Hid (Ents ((w5.setCell ⟨w2.heap.size, 2, none⟩ (.int .u64 xv)).alloc (.cells #[.string nm, .bool D1, .int .u64 xv] 127)) (some ⟨w5.heap.size, 0, none⟩) 1 [(nm, D1, xv)]) := (by have := ents_one (w5.setCell ⟨w2.heap.size, 2, none⟩ (.int .u64 xv)) (nm, D1, xv); rw [show (w5.setCell ⟨w2.heap.size, 2, none⟩ (.int .u64 xv)).heap.size = w5.heap.size by simp] at this; exact this); clear hC5 hG5 F4c F5 F6 b5 b6 hCw b4c)
            | (at_builtin; refine wpList_app3 _ (w.heap.size + 1) F7.out.low rfl _ _ rfl (.slice ad m cp) m acc rfl F7.out.row (some ⟨w5.heap.size, 0, none⟩) 1 1 [(nm, D1, xv)] rfl E7.out (fun h => by cases h) (by omega) ?_; intro v8 w8 ho8 hg8; obtain ⟨ad8, c8, hv8, _⟩ := row_shape3 ho8; subst hv8; have F8 : Hid (TK w w.heap.size bk xs xw (acc ++ [(nm, D1, xv)]) ad8 (m + 1) c8 w8) := F7.out.push ho8 hg8 HSZ.out; clear ho8 hg8 F7 E7)
          go_roundw
          case rel => exact ⟨k, xs, xw, acc ++ [(nm, D1, xv)], ad8, m + 1, c8, by omega, by simp, rfl, F8.out, HRS.out⟩
          case measure => simp [intOf]
end Go.Proofs.YthalpnpnbclipaaGreat

/- The document's reading of a tree, for all bytes. -/
namespace Go.Proofs.YthalpnpnbclipaaGreat
open Go.RowKit

attribute [local go_sem] Oper.semAt_some

theorem head_cell {w : World} {bk off0 n : Nat} {l : List UInt8} {x : UInt8} (hb : Bytes w (some ⟨bk, off0, none⟩) n l) (hh : l.head? = some x) : w.cell? ⟨bk, off0, none⟩ = some (.int .u8 (x.toNat : Int)) := by
  cases l with
  | nil => simp at hh
  | cons y t =>
    simp at hh; subst hh
    have hl := hb.1
    obtain ⟨b, o, e, hc⟩ := hb.2 (by rw [← hl]; simp)
    cases e
    have := hc 0 (by rw [← hl]; simp)
    simpa [bt] using this
set_option maxRecDepth 20000 in
set_option maxHeartbeats 4000000 in
theorem asTree_one (bk off0 : Nat) (w : World) (hb : Bytes w (some ⟨bk, off0, none⟩) 1 [116]) (hlt : bk < w.heap.size) :
    Calls Tryz.prog 56 #[.slice (some ⟨bk, off0, none⟩) 1 1] w fun x w' => x = .returned (.tuple #[.slice none 0 0, .bool false]) ∧ Below w.heap.size w w' := by
  have c0 := head_cell hb rfl
  have HC0 : Hid (Cu (w.alloc (.cells #[.slice (some ⟨bk, off0, none⟩) 0 0, .bool false] 145)) w.heap.size bk off0 0 [] false) :=
    ⟨World.alloc_heap_new _ _, ⟨rfl, fun h => by simp at h⟩, Nat.le_refl _, by omega, by simp; omega⟩
  have hn := number_c _ w.heap.size bk off0 0 [] false HC0.out
  have e0 : numC [] false = (0, [], true) := rfl
  rw [e0] at hn
  have hB0 : Below w.heap.size w (w.alloc (.cells #[.slice (some ⟨bk, off0, none⟩) 0 0, .bool false] 145)) := (Below.refl _ _).alloc (Nat.le_refl _) _
  have HB0 : Hid (Below w.heap.size w (w.alloc (.cells #[.slice (some ⟨bk, off0, none⟩) 0 0, .bool false] 145))) := hB0
  simp only at hn
  clear hb hB0 e0
  go_enter Tryz.func56, Tryz.ntmps56
  go_wp2_with (go_at_call 88; refine hn.mono ?_; clear hn; rintro e w1 ⟨rfl, ⟨o1, p1, hC1⟩, hG1⟩; have HB1 : Hid (Below w.heap.size w w1) := below_of_gr HB0.out hG1 (Nat.le_refl _); have c1 := hC1.cell.2.1; clear hC1 hG1)
  go_loopw [5, 6] (fun v i wr => v = .slice none 0 0 ∧ i = .int .i64 0 ∧ wr = w1) (fun _ _ _ => 0)
  case atStart => exact ⟨rfl, rfl, rfl⟩
  case round =>
    obtain ⟨rfl, rfl, rfl⟩ := hrel
    go_wp2
    go_ret2
    exact ⟨rfl, HB1.out⟩
theorem asTree_not (a : Option Addr) (n c : Nat) (l : List UInt8) (w : World) (hb : Bytes w a n l) (hh : l.head? ≠ some 116) (hn : n ≤ 9223372036854775807) :
    Calls Tryz.prog 56 #[.slice a n c] w fun x w' => x = .returned (.tuple #[.slice none 0 0, .bool false]) ∧ Below w.heap.size w w' := by
  cases l with
  | nil =>
    have h0 : n = 0 := by have := hb.1; simpa using this.symm
    subst h0
    go_enter Tryz.func56, Tryz.ntmps56
    go_wp2
    go_ret2
    exact ⟨rfl, Below.refl _ _⟩
  | cons x t =>
    have hl := hb.1
    obtain ⟨n', rfl⟩ : ∃ n', n = n' + 1 := ⟨t.length, by simpa using hl.symm⟩
    obtain ⟨bk, off0, rfl, _⟩ := hb.2 (by omega)
    have c0 := head_cell hb rfl
    have hx : x ≠ 116 := fun e => hh (by rw [e]; rfl)
    have hx2 : ¬ (x.toNat : Int) = 116 := fun e => hx (UInt8.toNat_inj.1 (by simp; omega))
    have x1 : ((x.toNat : Int) == 116) = false := by simp [hx2]
    have x2 : ((x.toNat : Int) != 116) = true := by simp [hx2]
    have i2 : ¬ (n' : Int) + 1 = 0 := by omega
    clear hb hh hl
    go_enter Tryz.func56, Tryz.ntmps56
    go_wp2
    go_ret2
    exact ⟨rfl, Below.refl _ _⟩
theorem refAsTree_any (a : Option Addr) (n c : Nat) (l : List UInt8) (w : World) (hb : Bytes w a n l) (hnc : n ≤ c) (hsm : n ≤ 40000) :
    Calls Tryz.prog 56 #[.slice a n c] w fun x w' => TreeO (treeC l) x w' ∧ Below w.heap.size w w' := by
  by_cases hh : l.head? = some 116
  · have hl := hb.1
    have hn : 1 ≤ n := by cases l with | nil => simp at hh | cons x t => rw [← hl]; simp
    obtain ⟨bk, off0, rfl, hc⟩ := hb.2 (by omega)
    have hlt : bk < w.heap.size := World.block_lt_of_cell? w _ (hc 0 (by omega))
    by_cases hc1 : c = 1
    · subst hc1
      have hn1 : n = 1 := by omega
      subst hn1
      have hl1 : l = [116] := by
        cases l with
        | nil => simp at hh
        | cons x t => simp at hh hl; subst hh; rw [hl]
      subst hl1
      have e : treeC [116] = none := rfl
      rw [e]
      exact asTree_one bk off0 w hb hlt
    · exact asTree_main bk off0 n c l w hb hn hnc hc1 hh hlt hsm
  · have e : treeC l = none := by unfold treeC; rw [if_neg hh]
    rw [e]
    exact asTree_not a n c l w hb hh (by omega)
end Go.Proofs.YthalpnpnbclipaaGreat
