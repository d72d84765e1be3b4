import Derived.Test.YtdjodigimhgklaaGreatDoorMD45
import Derived.Test.YtdjodigimhgklaaGreatDoorMD44
import Derived.Test.YtdjodigimhgklaaGreatDoorMD20
import Derived.Test.YtdjodigimhgklaaGreatDoorRows
import Derived.Test.YtdjodigimhgklaaGreatDoorTie
import Derived.Test.YtdjodigimhgklaaGreatDoorCards
import Derived.ProofKit
import Derived.OpenShut
import Derived.ShutString
import Derived.ChangeOld
import Derived.SizedLaws
import Derived.Deep.Slices
import Derived.Lay
import Derived.LaidOnce
import Derived.SevenTiedAt
import Derived.Deep.DeepHandedRow
/- The walk of MemoDoes. -/
namespace Go.Proofs.YtdjodigimhgklaaGreatDoor
open Go.RowKit Go.Shelf Go.Maps

attribute [local go_sem] Oper.semAt_some

/-- make([]Pair, 0, m): room for pairs -/
theorem wpList_make0_prs (w : World) {ops : Array Oper} {rest : List Oper} {o : Oper} {a : Act} {Q : Exit → Act → World → Prop}
    (hg : o.guard = none) (l c : Operand) (hop : o.op = Op.makeSlice 36 l c) (kl kc : IntKind) (m : Nat) (C : Int) (hl : a.eval l = .int kl 0) (hc : a.eval c = .int kc C) (hC : C = (m : Int)) (b2 : m ≤ 1000000)
    (hK : ∀ w1, w1.ownsRow w.heap.size 39 2 (.slice (some ⟨w.heap.size, 0, none⟩) 0 m) 0 (prCells []) → Below w.heap.size w w1 → wpList Tryz.prog ops Q rest (a.put o.dst (.slice (some ⟨w.heap.size, 0, none⟩) 0 m)) w1) :
    wpList Tryz.prog ops Q (o :: rest) a w := by
  obtain ⟨i0, hi, hz0, hz1, hz2⟩ := info_parts infoPr
  refine wpList_plain hg fun K hK' => ?_
  have hrun := run_make (P := Tryz.prog) w 36 39 i0 _ Tryz.underlying36 hi hz0 kl kc 0 C (by omega) (by omega) (by rw [hz2]; omega) (by omega)
  subst hC
  simp only [hz1, Int.toNat_natCast] at hrun
  unfold Oper.wp
  simp [execOp, hop, hl, hc, hrun, Result.andThen]
  refine hK' _ _ (hK _ ?_ ((Below.refl _ _).alloc (Nat.le_refl _) _))
  exact World.ownsRow_made w _ m (Nat.le_refl _) (by unfold maxLen; omega) (by rw [size_madeCells])
theorem prs_block {w w' : World} {b o n : Nat} {l : List Pr} (h : Prs w (some ⟨b, o, none⟩) n l) (hb : w'.heap[b]? = w.heap[b]?) : Prs w' (some ⟨b, o, none⟩) n l := by
  refine ⟨h.1, fun h0 => ?_⟩
  obtain ⟨b2, o2, e, hc⟩ := h.2 h0
  cases e
  refine ⟨b, o, rfl, fun j x hx => ?_⟩
  have := hc j x hx
  simpa only [World.cell?, hb] using this
set_option maxRecDepth 100000 in
set_option maxHeartbeats 16000000 in
theorem memoDoes_walk (w : World) (key : Nat) (hkey : key < 18446744073709551616) (a : Option Addr) (n c : Nat) (ls : List (List Pr)) (h : RowsIn w a n c ls) :
    Calls Tryz.prog 3 #[.int .u64 (key : Int), .slice a n c] w fun e w' => e = .returned (.bool true) ∧ Below w.heap.size w w' := by
  have hwk := wakes18 w
  have HWk : Hid (∀ W, Calls Tryz.prog 8 #[] W fun e w' => e = .returned (.bool true) ∧ Below W.heap.size W w') := wakes18
  have HR : Hid (RowsIn w a n c ls ∧ ls.length = n) := ⟨h, h.len⟩
  obtain ⟨K, hK, hK0, hKs⟩ := or_one key hkey
  have HK : Hid (K ≠ 0 ∧ K < 18446744073709551616) := ⟨hK0, hKs⟩
  obtain ⟨N, hN1, hN2, hN3⟩ : ∃ N, N ≤ n ∧ N ≤ 14 ∧ (N = n ∨ N = 14) := ⟨min n 14, by omega, by omega, by omega⟩
  clear h hkey hK0 hKs
  go_enter Tryz.func3, Tryz.ntmps3
  go_upto_if 34 with first
    | (go_at_call 10; refine hop.mono ?_; clear hop; rintro e w3 ⟨m0, rfl, nw0, hS3⟩; have HS3 : Hid (DoS w (w3.alloc (.cells #[.slice none 0 0, .int .i64 0, .slice none 0 0] 35)) m0 (w1.heap.size + 1) K 2 Wm.none none 0 none 0 w3.heap.size w3.heap.size [] nw0) := hS3; clear hS3)
    | (go_at_call 9; refine hnw.mono ?_; clear hnw; rintro e w2 ⟨rfl, hd2, hB2⟩; have hop := doS_open (hB1.trans (hB2.mono hB1.size)) hd2 (fun i hi => (by have := hB1.size; omega)) HK.out.1 HK.out.2; clear hd2 hB2)
    | (go_at_call 8; refine hwk.mono ?_; clear hwk; rintro e w1 ⟨rfl, hB1⟩; have hnw := new_any w1)
  generalize w1.heap.size + 1 = d at *
  clear hB1
  go_upto_block 0 with fail
  generalize w3.heap.size = Bw at *
  have H0 : Hid (∃ (mm : Wm) (pa : Option Addr) (pc : Nat) (ja : Option Addr) (jc : Nat) (P : List Pr) (nw B : Nat), DoS w (w3.alloc (.cells #[.slice none 0 0, .int .i64 0, .slice none 0 0] 35)) m0 d K (2 + 2 * 0) mm pa pc ja jc Bw B P nw) := ⟨_, _, _, _, _, _, _, _, HS3.out⟩
  generalize w3.alloc (.cells #[.slice none 0 0, .int .i64 0, .slice none 0 0] 35) = w4 at *
  clear HS3
  go_wp2_with fail
  go_loopg [6, 37] N (fun gk vm i wr => ∃ (k m : Nat), k + gk = N ∧ i = .int .i64 (k : Int) ∧ vm = .pointer (some ⟨m, 0, none⟩) ∧ Hid (∃ (mm : Wm) (pa : Option Addr) (pc : Nat) (ja : Option Addr) (jc : Nat) (P : List Pr) (nw B : Nat), DoS w wr m d K (2 + 2 * k) mm pa pc ja jc Bw B P nw))
  case atStart => exact ⟨0, m0, by omega, rfl, rfl, H0⟩
  case round =>
    clear H0
    obtain ⟨k, m, hk, rfl, rfl, HE⟩ := hrel
    obtain ⟨mm, pa, pc, ja, jc, P, nw, B, hS⟩ := HE.out
    have HI : Hid (DoS w wr m d K (2 + 2 * k) mm pa pc ja jc Bw wr.heap.size P nw) := hS.fresh
    clear HE hS
    cases gk with
    | zero =>
      by_cases hlt : k < n
      · obtain ⟨l0, hl0⟩ : ∃ x, ls[k]? = some x := ⟨_, List.getElem?_eq_getElem (by rw [HR.out.2]; exact hlt)⟩
        obtain ⟨b0, o0, rfl, hc0⟩ := HR.out.1.cells (by omega)
        obtain ⟨la, ln, lc, t0, hpi⟩ := hc0 k l0 hl0
        have t1 := (HI.out.box.2.cell (p := ⟨b0, o0 + k, none⟩) (World.block_lt_of_cell? w _ t0)).trans t0
        have i1 : (k : Int) < (n : Int) := by omega
        have i2 : ((k : Int) == 14) = true := by simp; omega
        have hk14 : k ≤ 14 := by omega
        clear hpi hc0 t0 hl0 hN1 hN2 hN3
        have hky := HI.out.keys (by omega) HK.out.1 HK.out.2
        go_upto_region 28 with fail
        go_wp2_with fail
        refine hky.mono ?_
        clear hky
        rintro e w5 ⟨hB5, hcase⟩
        have HS5 : Hid (DoS w w5 m d K (2 + 2 * k) mm pa pc ja jc Bw wr.heap.size P nw) := HI.out.kept hB5
        obtain ⟨_, _, c82, _⟩ := wm_cells HS5.out.box.1
        clear hB5 HI
        rcases hcase with ⟨he, a', c', rfl⟩ | ⟨he, b', c', rfl, hck⟩
        · have i5 : ((mm.jn.length : Int) == 0) = true := by simp [he]
          clear he
          go_wp2_with (go_at_call 8; refine (HWk.out _).mono ?_; rintro e w6 ⟨rfl, hB6⟩; have HB6 : Hid (Below w.heap.size w w6) := HS5.out.box.2.trans (hB6.mono HS5.out.box.2.size); clear hB6)
          go_ret
          exact ⟨rfl, HB6.out⟩
        · have i5 : ((mm.jn.length : Int) == 0) = false := by have := List.length_pos_iff.2 he; simp; omega
          clear he
          go_wp2_with (go_at_call 8; refine (HWk.out _).mono ?_; rintro e w6 ⟨rfl, hB6⟩; have HB6 : Hid (Below w.heap.size w w6) := HS5.out.box.2.trans (hB6.mono HS5.out.box.2.size); clear hB6)
          go_ret
          exact ⟨rfl, HB6.out⟩
      · have i1 : ¬ (k : Int) < (n : Int) := by omega
        have hk14 : k ≤ 14 := by omega
        clear hN1 hN2 hN3
        have hky := HI.out.keys (by omega) HK.out.1 HK.out.2
        go_upto_region 28 with fail
        go_wp2_with fail
        refine hky.mono ?_
        clear hky
        rintro e w5 ⟨hB5, hcase⟩
        have HS5 : Hid (DoS w w5 m d K (2 + 2 * k) mm pa pc ja jc Bw wr.heap.size P nw) := HI.out.kept hB5
        obtain ⟨_, _, c82, _⟩ := wm_cells HS5.out.box.1
        clear hB5 HI
        rcases hcase with ⟨he, a', c', rfl⟩ | ⟨he, b', c', rfl, hck⟩
        · have i5 : ((mm.jn.length : Int) == 0) = true := by simp [he]
          clear he
          go_wp2_with (go_at_call 8; refine (HWk.out _).mono ?_; rintro e w6 ⟨rfl, hB6⟩; have HB6 : Hid (Below w.heap.size w w6) := HS5.out.box.2.trans (hB6.mono HS5.out.box.2.size); clear hB6)
          go_ret
          exact ⟨rfl, HB6.out⟩
        · have i5 : ((mm.jn.length : Int) == 0) = false := by have := List.length_pos_iff.2 he; simp; omega
          clear he
          go_wp2_with (go_at_call 8; refine (HWk.out _).mono ?_; rintro e w6 ⟨rfl, hB6⟩; have HB6 : Hid (Below w.heap.size w w6) := HS5.out.box.2.trans (hB6.mono HS5.out.box.2.size); clear hB6)
          go_ret
          exact ⟨rfl, HB6.out⟩
    | succ g =>
      have hkn : k < n := by omega
      have hk14 : k ≤ 13 := by omega
      obtain ⟨l0, hl0⟩ : ∃ x, ls[k]? = some x := ⟨_, List.getElem?_eq_getElem (by rw [HR.out.2]; exact hkn)⟩
      obtain ⟨b0, o0, rfl, hc0⟩ := HR.out.1.cells (by omega)
      obtain ⟨la, ln, lc, t0, hpi⟩ := hc0 k l0 hl0
      have t1 := (HI.out.box.2.cell (p := ⟨b0, o0 + k, none⟩) (World.block_lt_of_cell? w _ t0)).trans t0
      have i1 : (k : Int) < (n : Int) := by omega
      have i2 : ((k : Int) == 14) = false := by simp; omega
      obtain ⟨l, hl⟩ : ∃ l, l = l0.take 40 := ⟨_, rfl⟩
      obtain ⟨p1, p2, p3⟩ := take_in hpi
      rw [← hl] at p1 p2
      rw [← p2] at p1
      have HP : Hid (PrV w la l.length lc l ∧ PrOk l) := ⟨p1, by rw [hl]; exact hpi.ok.take 40⟩
      have h40 : l.length ≤ 40 := by rw [p2]; omega
      have HC : Hid (∀ W, Calls Tryz.prog 11 #[.slice la ln lc] W fun e w' => e = .returned (.slice la l.length lc) ∧ w' = W) := fun W => by
        rw [p2]; exact ycut_any W la ln lc hpi.cap
      clear hpi hc0 t0 hl0 hN1 hN2 hN3 hl p1 p2 p3
      go_upto_region 14 with (go_at_call 11; refine (HC.out _).mono ?_; rintro e w5 ⟨rfl, hw5⟩; subst w5)
      obtain ⟨rB, hrB⟩ : ∃ rB, rB = wr.heap.size := ⟨_, rfl⟩
      have HrB : Hid (rB = wr.heap.size) := hrB
      have HLr : Hid (PrV wr la l.length lc l) := HP.out.1.kept HI.out.box.2
      clear hrB t1 HC
      go_upto_region 15 with first
        | (at_builtin; refine wpList_appV rfl _ _ rfl wr.heap.size l.length 1 1 _ l [(77, 0)] (some ⟨w6.heap.size, 0, none⟩) rfl rfl (row_keptV HB6.out.1 ((Below.refl _ w6).alloc (Nat.le_refl _) _)) (prs_one w6 77 0) (fun e => by cases e) (by omega) (by have := HB6.out.2.size; simp; omega) ?_; intro fa fc w7 hfc hown7 hB7; have HF : Hid (w7.ownsRow wr.heap.size 39 2 (.slice fa (l.length + 1) fc) (l.length + 1) (prCells (l ++ [(77, 0)])) ∧ Below wr.heap.size wr w7) := ⟨hown7, HB6.out.2.trans (((Below.refl _ w6).alloc HB6.out.2.size _).trans hB7)⟩; clear hown7 hB7)
        | (at_builtin; refine wpList_appV rfl _ _ rfl wr.heap.size 0 l.length lc _ [] l la rfl rfl HA6.out.1 (HLr.out.kept HA6.out.2).prs HLr.out.nil (by omega) HA6.out.2.size ?_; intro ga gc w6 hgc hown6 hB6; have HB6 : Hid (w6.ownsRow wr.heap.size 39 2 (.slice ga l.length gc) l.length (prCells l) ∧ Below wr.heap.size wr w6) := ⟨by rwa [List.nil_append, Nat.zero_add] at hown6, HA6.out.2.trans hB6⟩; clear hown6 hB6)
        | (at_make; refine wpList_make0_prs _ rfl _ _ rfl _ _ (l.length + 4) _ rfl rfl (by simp) (by omega) ?_; intro w5 hr5 hB5; have HA6 : Hid (w5.ownsRow wr.heap.size 39 2 (.slice (some ⟨wr.heap.size, 0, none⟩) 0 (l.length + 4)) 0 (prCells []) ∧ Below wr.heap.size wr w5) := ⟨hr5, hB5⟩; clear hr5 hB5)
      obtain ⟨fb, rfl, hfb, hfl⟩ : ∃ fb, fa = some ⟨fb, 0, none⟩ ∧ wr.heap.size ≤ fb ∧ fb < w7.heap.size := by
        rcases HF.out.1.2 with ⟨_, h0⟩ | ⟨g, cap, cur, e, h1, h2, _⟩
        · omega
        · cases e; exact ⟨g, rfl, h1, (Array.getElem?_eq_some_iff.1 h2).1⟩
      have HI7 : Hid (DoS w w7 m d K (2 + 2 * k) mm pa pc ja jc Bw wr.heap.size P nw) := HI.out.kept HF.out.2
      have HFp : Hid (Prs w7 (some ⟨fb, 0, none⟩) (l.length + 1) (l ++ [(77, 0)]) ∧ wr.heap.size ≤ fb ∧ fb < w7.heap.size ∧ l.length + 1 ≤ fc) := ⟨own_prs HF.out.1 (by simp), hfb, hfl, hfc⟩
      have hpl7 : PrV w7 (some ⟨fb, 0, none⟩) l.length fc l := ⟨by have := prs_take HFp.out.1 l.length (by omega); rwa [List.take_left] at this, fun e => (by cases e), by omega⟩
      have hadd := HI7.out.add (by omega) HK.out.2 hpl7 HP.out.2 h40
      have hwr1 := HI7.out.writes
      have hfc1 : l.length ≤ fc := by omega
      clear hfb hfl hpl7 HF HI HLr
      go_upto_region 17 with first
        | (go_at_call 13; refine hadd.mono ?_; clear hadd; rintro e w8 ⟨er, nw', rfl, hAS, hst, hs8⟩; have HA8 : Hid (AdS w w8 m d K (2 + 2 * k) mm pa pc ja jc Bw wr.heap.size P nw l er nw') := hAS; have HR8 : Hid (Prs w8 (some ⟨fb, 0, none⟩) (l.length + 1) (l ++ [(77, 0)])) := prs_block HFp.out.1 (hst fb HFp.out.2.1 HFp.out.2.2.1); clear hAS hst hs8)
        | (go_at_call 12; refine hwr1.mono ?_; clear hwr1; rintro e w8 ⟨rfl, hw8⟩; subst w8)
      have hdoc := HA8.out.doc (by omega) (HP.out.1.kept HA8.out.box.2) HP.out.2 h40
      obtain ⟨c80, c81, c82, _⟩ := wm_cells HA8.out.box.1
      clear HI7 HFp
      go_upto_region 18 with (go_at_call 14; refine hdoc.mono ?_; clear hdoc; rintro e w9 ⟨pa', pc', ja', jc', m', b, er', rfl, hAD, hB9⟩; have HD9 : Hid (AdD w w9 m d K (2 + 2 * k) mm pa pc ja jc Bw wr.heap.size P nw l er nw' m' b er' pa' pc' ja' jc' ∧ Prs w9 (some ⟨fb, 0, none⟩) (l.length + 1) (l ++ [(77, 0)]) ∧ Prs w9 la l.length l) := ⟨hAD, HR8.out.kept hB9, ((HP.out.1.kept HA8.out.box.2).kept hB9).prs⟩; clear hAD hB9)
      obtain ⟨hee, hbb⟩ := HD9.out.1.facts (by omega) h40
      subst hee
      clear HA8 HR8 c80 c81 c82
      obtain ⟨wA, hwA⟩ : ∃ wA, wA = w9.alloc (wmCells pa' pc' ja' jc' m') := ⟨_, rfl⟩
      have hBA : Below w9.heap.size w9 wA := by rw [hwA]; exact (Below.refl _ w9).alloc (Nat.le_refl _) _
      have hbn : wA.heap[w9.heap.size]? = some (wmCells pa' pc' ja' jc' m') := by rw [hwA]; exact World.alloc_heap_new w9 _
      have hF : Prs wA (some ⟨fb, 0, none⟩) (l.length + 1) (l ++ [(77, 0)]) := HD9.out.2.1.kept hBA
      have c77 : wA.cell? ⟨fb, l.length * 2, none⟩ = some (.int .u64 77) := by
        obtain ⟨b2, o2, e, hc⟩ := hF.2 (by omega)
        cases e
        have := (hc l.length (77, 0) (by simp)).1
        simpa using this
      have hpf : Prs wA (some ⟨fb, 0, none⟩) l.length l := by have := prs_take hF l.length (by omega); rwa [List.take_left] at this
      have HB : Hid (AdD w wA m d K (2 + 2 * k) mm pa pc ja jc Bw wr.heap.size P nw l er nw' m' b er pa' pc' ja' jc' ∧ wA.heap[w9.heap.size]? = some (wmCells pa' pc' ja' jc' m')) := ⟨HD9.out.1.kept hBA, hbn⟩
      have hpr := ypairs_same wA (some ⟨fb, 0, none⟩) la l.length fc lc l hpf (HD9.out.2.2.kept hBA) (by omega)
      have hbw : ((nw' : Int) != (nw : Int)) = b := by
        cases hb : b with
        | true =>
          have : nw' ≠ nw := fun e => by rw [hbb.1 e] at hb; cases hb
          simp; omega
        | false =>
          have := hbb.2 hb
          simp [this]
      have i5 : (l.length : Int) < (l.length : Int) + 1 := by omega
      have hfc2 : l.length + 1 ≤ fc := by omega
      rw [← hwA]
      clear hwA hBA hbn hF hpf hbb HD9
      go_upto_if 98 with first
        | (go_at_call 12; refine hwr2.mono ?_; clear hwr2; rintro e w11 ⟨rfl, hw11⟩; subst w11)
        | (go_at_call 15; refine hpr.mono ?_; clear hpr; rintro e w10 ⟨rfl, hB10⟩; have HB10 : Hid (AdD w w10 m d K (2 + 2 * k) mm pa pc ja jc Bw wr.heap.size P nw l er nw' m' b er pa' pc' ja' jc' ∧ w10.heap[w9.heap.size]? = some (wmCells pa' pc' ja' jc' m')) := ⟨HB.out.1.kept hB10, (hB10.block _ (Array.getElem?_eq_some_iff.1 HB.out.2).1).trans HB.out.2⟩; have c78 := (hB10.cell (p := ⟨fb, l.length * 2, none⟩) (World.block_lt_of_cell? wA _ c77)).trans c77; have hwr2 := HB10.out.1.writes; clear hB10 HB)
      obtain ⟨n0, n1, n2, _⟩ := wm_cells HB10.out.2
      obtain ⟨e0, e1, e2, g0, g1, g2⟩ := wm_cells HB10.out.1.box
      obtain ⟨P', hS'⟩ := HB10.out.1.store (by omega) h40
      obtain ⟨wP, hwP⟩ : ∃ wP, wP = put3 w10 Bw (.slice pa' m'.parts.length pc') (.int .i64 (m'.last : Int)) (.slice ja' m'.jn.length jc') := ⟨_, rfl⟩
      rw [← hwP] at hS'
      have HS : Hid (DoS w wP m d K (2 + 2 * (k + 1)) m' pa' pc' ja' jc' Bw w10.heap.size P' nw') := hS'
      unfold put3 at hwP
      clear hS' HB10 hbw
      go_upto_region 21 with fail
      rw [← hwP]
      clear hwP n0 n1 n2 e0 e1 e2 g0 g1 g2 c77 c78
      obtain ⟨r0, r1, r2, _⟩ := wm_cells HS.out.box.1
      have hsm := HS.out.same (by omega)
      go_upto_if 110 with first
        | (go_at_call 17; refine hsd.mono ?_; clear hsd; rintro e w13 ⟨rfl, hB13⟩; have HS13 : Hid (DoS w w13 m d K (2 + 2 * (k + 1)) m' pa' pc' ja' jc' Bw w10.heap.size P' nw') := HS12.out.kept hB13; clear hB13 HS12)
        | (go_at_call 16; refine hsm.mono ?_; clear hsm; rintro e w12 ⟨rfl, hB12⟩; have HS12 : Hid (DoS w w12 m d K (2 + 2 * (k + 1)) m' pa' pc' ja' jc' Bw w10.heap.size P' nw') := HS.out.kept hB12; obtain ⟨s0, s1, s2, _⟩ := wm_cells HS12.out.box.1; have hsd := HS12.out.stands (by omega) HK.out.2; clear hB12 HS)
      clear r0 r1 r2 s0 s1 s2
      obtain ⟨r3, hr3⟩ : ∃ r3, r3 = k % 3 := ⟨_, rfl⟩
      have hr2 : (k : Int).tmod 3 = (r3 : Int) := by
        rw [hr3, Int.tmod_eq_emod_of_nonneg (by omega)]
        omega
      clear hr3
      go_upto_if 113 with fail
      by_cases h3 : r3 = 1
      · have i6 : ((r3 : Int) == 1) = true := by simp [h3]
        have hop := HS13.out.reopen (by omega) HK.out.1 HK.out.2
        clear h3
        go_upto_region 25 with (go_at_call 10; refine hop.mono ?_; clear hop; rintro e w14 ⟨m2, rfl, hS14⟩; have HS14 : Hid (DoS w w14 m2 d K (2 + 2 * (k + 1)) m' pa' pc' ja' jc' Bw w14.heap.size P' nw') := hS14; clear hS14)
        obtain ⟨r0, r1, r2, _⟩ := wm_cells HS14.out.box.1
        have hsm := HS14.out.same (by omega)
        go_wp2_with first
          | (go_at_call 17; refine hsd.mono ?_; clear hsd; rintro e w16 ⟨rfl, hB16⟩; have HS16 : Hid (DoS w w16 m2 d K (2 + 2 * (k + 1)) m' pa' pc' ja' jc' Bw w14.heap.size P' nw') := HS15.out.kept hB16; clear hB16 HS15)
          | (go_at_call 16; refine hsm.mono ?_; clear hsm; rintro e w15 ⟨rfl, hB15⟩; have HS15 : Hid (DoS w w15 m2 d K (2 + 2 * (k + 1)) m' pa' pc' ja' jc' Bw w14.heap.size P' nw') := HS14.out.kept hB15; obtain ⟨s0, s1, s2, _⟩ := wm_cells HS15.out.box.1; have hsd := HS15.out.stands (by omega) HK.out.2; clear hB15 HS14)
        have HN : Hid (∃ (mm : Wm) (pa : Option Addr) (pc : Nat) (ja : Option Addr) (jc : Nat) (P : List Pr) (nw B : Nat), DoS w w16 m2 d K (2 + 2 * (k + 1)) mm pa pc ja jc Bw B P nw) := ⟨_, _, _, _, _, _, _, _, HS16.out⟩
        go_roundg g
        case measure => omega
        case rel => exact ⟨k + 1, m2, by omega, by go_num, rfl, HN⟩
      · have i6 : ((r3 : Int) == 1) = false := by simp; omega
        have HN : Hid (∃ (mm : Wm) (pa : Option Addr) (pc : Nat) (ja : Option Addr) (jc : Nat) (P : List Pr) (nw B : Nat), DoS w w13 m d K (2 + 2 * (k + 1)) mm pa pc ja jc Bw B P nw) := ⟨_, _, _, _, _, _, _, _, HS13.out⟩
        clear h3
        go_wp2_with fail
        go_roundg g
        case measure => omega
        case rel => exact ⟨k + 1, m, by omega, by go_num, rfl, HN⟩
end Go.Proofs.YtdjodigimhgklaaGreatDoor

/- Proved here: for every key and every list of lists of pairs the law MemoDoes (a memo knows what was added, in the files that the document names, behind each Open too) returns true, and its arguments read as before; the tables that the program lays are laid as its text lays them. No other condition. -/
namespace Go.Proofs.YtdjodigimhgklaaGreatDoor
open Go.RowKit
open Go.ChangeShapes Go.WideShapes Go.ChangeAt

theorem own : ownKnob Tryz.prog.godebug = none := by kernel_rfl
noncomputable def laidWorld (os : Os) : World := World.laidAll Tryz.prog os Rows.memoDoesRow.laid
theorem laidOut : laidOutB Tryz.prog = true := by kernel_rfl
theorem laid_met (os : Os) : laidMet Tryz.prog Rows.memoDoesRow.laid ((laidWorld os).forCall (fun _ _ => 0) ⟨#[], #[.int .u64 0, .slice none 0 0], []⟩).memory :=
  laidMet_laidAll _ (by kernel_rfl) (by kernel_rfl)
theorem reads (os : Os) {H : Type} (enc : TypeId × Value → H) : ∃ places, DataW.whole enc Tryz.prog ((laidWorld os).forCall (fun _ _ => 0) ⟨#[], #[.int .u64 0, .slice none 0 0], []⟩).memory Tryz.f3.params.toList Rows.memoDoesSpec.vars false #[(.int .u64 0 : Value), .slice none 0 0].toList 8 = some ([.lit (.int .u64 0), .nil], [], places) :=
  ⟨[], by kernel_rfl⟩

set_option maxRecDepth 100000 in
theorem memoDoes_lifted (os : Os) (started : os.Started) (H : Type) (enc : TypeId × Value → H) (F : Stop.Interp) :
    ReturnsInHanded {} Tryz.checked os 3 .any ((OpenSpec.ofChange Rows.memoDoesSpec).preRow enc Tryz.prog Tryz.f3 Rows.memoDoesRow.domain false Rows.memoDoesRow.laid) (((OpenSpec.ofChange Rows.memoDoesSpec).at F).post enc Tryz.prog Tryz.f3 false true false false) := by
  obtain ⟨places, hx⟩ := reads os enc
  refine returnsInHanded_of_row (C := Tryz.checked) (s := OpenSpec.ofChange Rows.memoDoesSpec) own started (by kernel_rfl) Tryz.func3
    (witness_row_at (enc := enc) (C := Tryz.checked) false (laidWorld os) #[.int .u64 0, .slice none 0 0] (World.laidAll_os _ _ _) (by kernel_rfl) (by kernel_rfl) (by kernel_rfl)
      (OpenSpec.preRow_of_cond 8 hx (by kernel_rfl) (fun k hk => by cases hk) (by kernel_rfl) (laid_met os))) ?_
  intro W base args ds gs before hval0 hW _ hcond hsz0 hL _ _
  have hsz : (DataW.weightsEach Tryz.prog (Tryz.f3.params.toList ++ Rows.memoDoesSpec.plain.varTypes Tryz.prog) (ds ++ gs)).all (· ≤ reachBytes) = true := hsz0
  have hval : ∀ (j : Nat) t v, Tryz.f3.params[j]? = some t → args[j]? = some v → Value.okWide Tryz.prog W .any base t v := hval0
  have hW' := hW
  obtain ⟨p, q, hA0, hV, rfl, _, _⟩ := hW
  have hA : DataW.TrodAll enc Tryz.prog W 0 (fun _ => true) true Tryz.f3.params.toList args.toList ds p := hA0
  rw [Tryz.params3] at hA hval hsz
  obtain ⟨v0, vs0, d0, ds0, p0, q0, hargs, rfl, rfl, h0, r0⟩ := trodAll_cons hA
  obtain ⟨v1, vs1, d1, ds1, p1, q1, rfl, rfl, rfl, h1, r1⟩ := trodAll_cons r0
  obtain ⟨rfl, rfl, rfl⟩ := trodAll_nil r1
  obtain rfl : args = #[v0, v1] := by cases args; simp_all
  obtain ⟨rfl, rfl⟩ := trodVars_none hV
  obtain ⟨a0, rfl, rfl, rfl, w0⟩ := open_int Tryz.underlying23 (hval 0 23 v0 rfl rfl) h0
  have b0 := bounds_u64 w0
  have k1 := h1
  have lt1 : ∀ x ∈ p1, x.block < W.heap.size := by obtain ⟨m, hm⟩ := k1; exact DataW.trod_lt m _ _ _ hm
  obtain ⟨a1, n1, c1, l1, rfl, st1⟩ := rows_arg (hval 1 24 v1 rfl rfl) h1
  clear hA0 hval0 hsz0 hsz
  obtain ⟨key, rfl⟩ : ∃ key : Nat, a0 = (key : Int) := ⟨a0.toNat, by omega⟩
  refine (memoDoes_walk W key (by omega) a1 n1 c1 l1 st1).mono fun e W' ⟨he, bel⟩ => ?_
  subst he
  exact ⟨_, rfl, _, _, _, [], _, [], hW', trodAll_mk1 (shut_bool Tryz.underlying4 _), (trodAll_cons_mk (shut_int Tryz.underlying23 w0) (trodAll_cons_mk (Below.trod laidOut (by kernel_rfl) (of_decide_eq_true (by kernel_rfl)) k1 bel lt1) trodAll_mk0)), rfl, bel.frame _, fun h => by cases h⟩

theorem memoDoes_row : Rows.MemoDoesSaid :=
  OpenClaim.holds_of_cond 3 Tryz.f3 rfl rfl rfl rfl rfl rfl rfl ⟨rfl, rfl, rfl, rfl, rfl⟩ rfl rfl rfl rfl rfl (by kernel_rfl) Tryz.func3 (by kernel_rfl)
    (of_decide_eq_true (by kernel_rfl)) (by unfold Func.isWrapper; first | (rw [if_pos (by decide +kernel)]; kernel_rfl) | (rw [if_neg (by decide +kernel)]; exact ⟨rfl, rfl⟩))
    (fun os started H enc _ F => by rw [OpenClaim.pre_eq_preRow]; exact memoDoes_lifted os started H enc F)

theorem memoDoes_holds : Rows.MemoDoesCardSaid :=
  Claim7.holds_tied_plain_at .later [] _ _ _ _ memoDoes_row (fun _ h => by cases h) (by kernel_rfl) (fun _ h => by cases h) memoDoes_row_tie rfl ⟨rfl, rfl⟩ (by kernel_rfl) rfl
    (fun f fn hf hfn => by
      obtain rfl : f = 3 := Option.some.inj ((show Tryz.prog.funcNamed "espalier/espalierlaw18.MemoDoes" = some 3 by kernel_rfl).symm.trans hf) |>.symm
      obtain rfl : fn = Tryz.f3 := (Option.some.inj (Tryz.func3.symm.trans hfn)).symm
      exact ⟨by kernel_rfl, fun j t ht => by
        rw [Tryz.params3] at ht
        have hm : t ∈ [23, 24] := by simpa using Array.mem_of_getElem? ht
        have hall : ([23, 24].all fun u => !Tryz.prog.wantsStandIn u) = true := by kernel_rfl
        exact (show Tryz.prog.wantsStandIn t = false by simpa using List.all_eq_true.1 hall t hm)⟩)
    (by kernel_rfl)
#print axioms memoDoes_holds

end Go.Proofs.YtdjodigimhgklaaGreatDoor
