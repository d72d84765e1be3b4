import Derived.Test.YtncagdfbgpdhfaaGreatQ28
/- The walks of Lines and Ancestor. -/
namespace Go.Proofs.YtncagdfbgpdhfaaGreat
open Go.RowKit Go.Maps

attribute [local go_sem] Oper.semAt_some

/-- ways along parents, added up to 2^62 -/
def sumW (f : Int → Int) : List Int → Int → Int
  | [], s => s
  | p :: r, s => sumW f r (s + (if f p ≤ 4611686018427387904 - s then f p else 4611686018427387904 - s))
def waysL : List (Int × List Int) → (Int → Int) → (Int → Int)
  | [], f => f
  | m :: r, f => waysL r (setG f m.1 (sumW f m.2 (f m.1)))
def Mb.pair (m : Mb) : Int × List Int := (m.id, m.ps)
/-- the commits of an order with their parents -/
def pairsO (os : List Ob) (l : List Int) : List (Int × List Int) := l.map fun i => (i, (parsO os i).getD [])
def linesG (os : List Ob) (l : List Int) (a b : Int) : Int := waysL (pairsO os l) (setG (fun _ => 0) a 1) b
def InW (f : Int → Int) : Prop := ∀ x, 0 ≤ f x ∧ f x ≤ 4611686018427387904
theorem sumW_in {f : Int → Int} (hf : InW f) : ∀ (l : List Int) (s : Int), 0 ≤ s ∧ s ≤ 4611686018427387904 → 0 ≤ sumW f l s ∧ sumW f l s ≤ 4611686018427387904
  | [], s, h => h
  | p :: r, s, h => by
    have := hf p
    refine sumW_in hf r _ ?_
    split <;> omega
theorem InW.set {f : Int → Int} (hf : InW f) (x v : Int) (h : 0 ≤ v ∧ v ≤ 4611686018427387904) : InW (setG f x v) := fun y => by
  unfold setG
  split
  · exact h
  · exact hf y
theorem waysL_drop (l : List (Int × List Int)) (k : Nat) (m : Int × List Int) (f : Int → Int) (h : l[k]? = some m) : waysL (l.drop k) f = waysL (l.drop (k + 1)) (setG f m.1 (sumW f m.2 (f m.1))) := by
  have hk := (List.getElem?_eq_some_iff.1 h).1
  rw [List.drop_eq_getElem_cons hk]
  have : l[k] = m := (List.getElem?_eq_some_iff.1 h).2
  rw [this]
  rfl
theorem sumW_drop (f : Int → Int) (l : List Int) (k : Nat) (p : Int) (s : Int) (h : l[k]? = some p) : sumW f (l.drop k) s = sumW f (l.drop (k + 1)) (s + (if f p ≤ 4611686018427387904 - s then f p else 4611686018427387904 - s)) := by
  have hk := (List.getElem?_eq_some_iff.1 h).1
  rw [List.drop_eq_getElem_cons hk]
  have : l[k] = p := (List.getElem?_eq_some_iff.1 h).2
  rw [this]
  rfl
theorem HNew.pairs {w w' : World} {h s : Nat} {os : List Ob} {gs : GS} {C mb : Nat} {ov : Value} {ms : List Mb} {K : Nat → Prop} {c : Nat} (H : HNew w w' h s os gs C mb ov ms K c) : ms.map Mb.pair = pairsO os gs.ord := by
  unfold pairsO
  rw [← H.ord, List.map_map]
  refine List.map_congr_left fun m hm => ?_
  have := (H.H.mem m hm).com
  simp only [Function.comp, Mb.pair, this, Option.getD_some]

theorem lines_nil (w : World) (a b : Int) : Calls Tryz.prog 43 #[.pointer none, .int .u64 a, .int .u64 b] w fun e w' => e = .returned (.tuple #[.int .i64 0, .int .i64 1]) ∧ Below w.heap.size w w' := by
  have hr := fun W v => gread_nil W v
  go_enter Tryz.func43, Tryz.ntmps43
  go_wp2_with (go_at_call 44; refine (hr _ _).mono ?_; clear hr; rintro e w1 ⟨rfl, h1⟩; subst h1)
  go_ret2
  exact ⟨rfl, (Below.refl _ _).alloc (Nat.le_refl _) _⟩
/-- how Lines ends -/
def NOut (R : GR) (f : List Int → Int) (e : Ending) : Prop := match R with
  | .bad er => e = .returned (.tuple #[.int .i64 0, .int .i64 er]) ∧ er ≠ 0
  | .ok gs => e = .returned (.tuple #[.int .i64 (f gs.ord), .int .i64 0])
theorem lit_ids (W : World) (x y : Int) (fz : Nat × Nat) : Ids (W.alloc (.cells #[.int .u64 x, .int .u64 y] 31 fz)) (some ⟨W.heap.size, 0, none⟩) 2 [x, y] := by
  have hb := World.alloc_heap_new W (.cells #[.int .u64 x, .int .u64 y] 31 fz)
  generalize W.alloc (.cells #[.int .u64 x, .int .u64 y] 31 fz) = W' at hb
  refine ⟨rfl, fun _ => ⟨W.heap.size, 0, rfl, fun i z hi => ?_⟩⟩
  match i, hi with
  | 0, hi => simp at hi; subst hi; simp [World.cell?, hb]
  | 1, hi => simp at hi; subst hi; simp [World.cell?, hb]
set_option maxRecDepth 100000 in
set_option maxHeartbeats 8000000 in
theorem lines_any (w : World) (s d : Nat) (os : List Ob) (sz : Nat) (cut : Bool) (F : Nat → Prop) (hS : IsSt w s d os sz cut F) (hos : os.length ≤ 65536) (a b : Int) (ha : 0 ≤ a ∧ a ≤ 18446744073709551615) (hb : 0 ≤ b ∧ b ≤ 18446744073709551615) :
    Calls Tryz.prog 43 #[.pointer (some ⟨s, 0, none⟩), .int .u64 a, .int .u64 b] w fun e w' => Below w.heap.size w w' ∧ NOut (ordG os [a, b] GS.none) (fun l => linesG os l a b) e := by
  have hB0 : Below w.heap.size w (w.alloc (.cells #[.int .u64 a, .int .u64 b] 31)) := (Below.refl _ w).alloc (Nat.le_refl _) _
  have hrd := gread_any (w.alloc (.cells #[.int .u64 a, .int .u64 b] 31)) s d os sz cut F (hS.below hB0) hos _ 2 2 [a, b] (lit_ids w a b _) (fun x hx => by simp at hx; rcases hx with rfl | rfl <;> assumption) (Nat.le_refl _) (by omega)
  generalize ordG os [a, b] GS.none = R at *
  have hC : 2 + 1 + os.length * 10 ≤ 1000000000000 := by omega
  generalize 2 + 1 + os.length * 10 = C at *
  have HB0 : Hid (Below w.heap.size w (w.alloc (.cells #[.int .u64 a, .int .u64 b] 31))) := hB0
  have HA : Hid (0 ≤ a ∧ a ≤ 18446744073709551615 ∧ 0 ≤ b ∧ b ≤ 18446744073709551615) := ⟨ha.1, ha.2, hb.1, hb.2⟩
  have HC : Hid (C ≤ 1000000000000) := hC
  clear hB0 hS ha hb hC hos
  cases R with
  | bad er =>
    go_enter Tryz.func43, Tryz.ntmps43
    go_wp2_with (go_at_call 44; refine hrd.mono ?_; clear hrd; rintro e w1 ⟨hB1, he, hne⟩; subst he; have hne2 : (er == 0) = false := beq_eq_false_iff_ne.2 hne; have HB1 : Hid (Below w.heap.size w w1) := HB0.out.trans (hB1.mono (by simp)); clear hB1)
    go_ret2
    exact ⟨HB1.out, rfl, hne⟩
  | ok gs =>
    have hmm := @run_makeMap Tryz.prog
    go_enter Tryz.func43, Tryz.ntmps43
    go_wp2_with (go_at_call 44
                 refine hrd.mono ?_
                 clear hrd
                 rintro e w1 ⟨hB1, h, mb, ov, ms, K, cc, he, hN⟩
                 subst he
                 have HB1 : Hid (Below w.heap.size w w1) := HB0.out.trans (hB1.mono (by simp))
                 obtain ⟨w2, hupd, hbn2, hg2⟩ := (BnAt.new w1).put a HA.out.1 HA.out.2.1 (by unfold maxLen; omega) 1
                 have hBm : Below w1.heap.size w1 w2 := ⟨hg2.os, hg2.tape, hg2.output, by have := hg2.size; simp at this; omega, fun k hk => (hg2.block k (by simp; omega) (by simp; omega)).trans (Below.heap_alloc _ _ _ hk)⟩
                 have hN2 := hN.below hBm
                 have c2 := hN2.H.c2
                 obtain ⟨oa, oc, hov, _⟩ := row_shapeN hN2.H.row
                 subst hov
                 have H2 : Hid (HNew (w.alloc (.cells #[.int .u64 a, .int .u64 b] 31)) w2 h s os gs C mb (.slice oa ms.length oc) ms K cc ∧ BnAt w2 w1.heap.size (setG (fun _ => 0) a 1) 1 ∧ Below w.heap.size w w2 ∧ (∀ k, K k → k < w1.heap.size) ∧ w1.heap.size < w2.heap.size ∧ (∀ g, (Value.slice oa ms.length oc).ownBlock = some g → g < w1.heap.size)) := ⟨hN2, hbn2, HB1.out.trans (hBm.mono HB1.out.size), hN.H.klt, by have := hg2.size; simp at this; omega, fun g hg => (hN.H.row.lt g hg).2⟩
                 clear hB1 hN hN2 hbn2 hg2 hBm
                 generalize hML : ms.length = ML at *
                 have HML : Hid (ms.length = ML) := hML
                 clear hML)
    clear hmm hupd c2
    obtain ⟨RF, hRF⟩ : ∃ RF, RF = waysL (pairsO os gs.ord) (setG (fun _ => 0) a 1) := ⟨_, rfl⟩
    have HRF : Hid (linesG os gs.ord a b = RF b) := by rw [hRF]; rfl
    have HP : Hid (ms.map Mb.pair = pairsO os gs.ord) := H2.out.1.pairs
    have HR0 : Hid (RF = waysL ((ms.map Mb.pair).drop 0) (setG (fun _ => 0) a 1)) := by rw [HP.out]; exact hRF
    clear hRF
    have HML2 : Hid (ML ≤ 1000000000000) := by have h1 := H2.out.1.mc; have h2 := HC.out; have h3 := HML.out; show _ ≤ _; omega
    go_loopw [35] (fun i wr => ∃ (k : Nat) (f : Int → Int), k ≤ ML ∧ i = .int .i64 (k : Int) ∧ Hid (RF = waysL ((ms.map Mb.pair).drop k) f ∧ InW f ∧ BnAt wr w1.heap.size f (k + 1) ∧ Turn (fun z => z = w1.heap.size) w2 wr)) (fun i _ => ML - (intOf i).toNat)
    case atStart => exact ⟨0, _, Nat.zero_le _, rfl, HR0.out, InW.set (fun _ => ⟨by omega, by omega⟩) a 1 ⟨by omega, by omega⟩, H2.out.2.1, Turn.refl _ _⟩
    case round =>
      clear HR0
      obtain ⟨k, f, hk, rfl, H⟩ := hrel
      obtain ⟨hR, hf, hbn, hT⟩ := H.out
      clear H
      by_cases hlt : k < ML
      · obtain ⟨m, hx⟩ : ∃ m, ms[k]? = some m := ⟨_, List.getElem?_eq_getElem (by have := HML.out; omega)⟩
        have hmo := H2.out.1.H.mem m (List.mem_of_getElem? hx)
        have hmm := row_mems (c := oc) (by have := H2.out.1.H.row; rw [HML.out] at this; exact this) HML.out
        obtain ⟨b1, o1, hoa, hc1⟩ := hmm.2 (by omega)
        subst hoa
        obtain ⟨t0, t1, t2, t3, t4, t5⟩ := hc1 k m hx
        have hnb : b1 ≠ w1.heap.size := fun e => by have := H2.out.2.2.2.2.2 b1 rfl; omega
        have q0 := hT.cell t0 hnb
        have q1 := hT.cell t1 hnb
        have q2 := hT.cell t2 hnb
        have q3 := hT.cell t3 hnb
        have q4 := hT.cell t4 hnb
        have q5 := hT.cell t5 hnb
        have hkk : ∀ z, K z → wr.heap[z]? = w2.heap[z]? := fun z hz => hT.block z (H2.out.1.H.klt z hz) (fun e => by have := H2.out.2.2.2.1 z hz; omega)
        have hmo2 := hmo.kept hkk
        have hp0 : (ms.map Mb.pair)[k]? = some (m.id, m.ps) := by rw [List.getElem?_map, hx]; rfl
        have hR2 := hR.trans (waysL_drop _ k _ f hp0)
        obtain ⟨hm0, hm1⟩ := hmo2.rng
        have hmp := hmo2.pars
        have hids := hmo2.par
        have hmln := hmo2.len
        obtain ⟨mid, mt, mpa, mpn, mpc, mau, md, mtx, mps⟩ := m
        simp only at q0 q1 q2 q3 q4 q5 hR2 hm0 hm1 hmp hids hmln
        have hBa : Below wr.heap.size wr (wr.alloc (.cells #[.int .u64 mid, .int .u64 mt, .slice mpa mpn mpc, .string mau, .int .i64 md, .string mtx] 137)) := (Below.refl _ wr).alloc (Nat.le_refl _) _
        have hbl := hbn.lt
        have hbnA : BnAt (wr.alloc (.cells #[.int .u64 mid, .int .u64 mt, .slice mpa mpn mpc, .string mau, .int .i64 md, .string mtx] 137)) w1.heap.size f (k + 1) := hbn.kept (hBa.block _ hbl)
        have hidA := (hids.kept fun z hz => hBa.block z (Nat.lt_of_lt_of_le (H2.out.1.H.klt z hz) hT.size)).get
        have hTA : Turn (fun z => z = w1.heap.size) w2 (wr.alloc (.cells #[.int .u64 mid, .int .u64 mt, .slice mpa mpn mpc, .string mau, .int .i64 md, .string mtx] 137)) := hT.trans (Turn.of_below (fun _ => False) hBa) (fun _ _ e => e.elim)
        have d0 : (wr.alloc (.cells #[.int .u64 mid, .int .u64 mt, .slice mpa mpn mpc, .string mau, .int .i64 md, .string mtx] 137)).cell? ⟨wr.heap.size, 0, none⟩ = some (.int .u64 mid) := by simp only [World.cell?, World.alloc_heap_new]; rfl
        have d2 : (wr.alloc (.cells #[.int .u64 mid, .int .u64 mt, .slice mpa mpn mpc, .string mau, .int .i64 md, .string mtx] 137)).cell? ⟨wr.heap.size, 2, none⟩ = some (.slice mpa mpn mpc) := by simp only [World.cell?, World.alloc_heap_new]; rfl
        have hl0 := hbnA.look mid hm0 hm1 _ rfl
        have hI1 := hidA.1
        have hb1 : mpn ≤ 8 := hmln.2
        have hfm := hf mid
        have i2 : (k : Int) < (ML : Int) := by omega
        have i3 : ¬ ML ≤ k := by omega
        have i9 : (ML : Int) ≤ 9223372036854775807 := by have := HML2.out; omega
        have HW : Hid (RF = waysL ((ms.map Mb.pair).drop (k + 1)) (setG f mid (sumW f mps (f mid))) ∧ InW f ∧ BnAt (wr.alloc (.cells #[.int .u64 mid, .int .u64 mt, .slice mpa mpn mpc, .string mau, .int .i64 md, .string mtx] 137)) w1.heap.size f (k + 1) ∧ Turn (fun z => z = w1.heap.size) w2 (wr.alloc (.cells #[.int .u64 mid, .int .u64 mt, .slice mpa mpn mpc, .string mau, .int .i64 md, .string mtx] 137)) ∧ (∀ x ∈ mps, 0 ≤ x ∧ x ≤ 18446744073709551615) ∧ Ids (wr.alloc (.cells #[.int .u64 mid, .int .u64 mt, .slice mpa mpn mpc, .string mau, .int .i64 md, .string mtx] 137)) mpa mpn mps ∧ 0 ≤ f mid ∧ f mid ≤ 4611686018427387904) := ⟨hR2, hf, hbnA, hTA, hmp, hidA, hfm⟩
        generalize hfmv : f mid = fm at *
        have HFM : Hid (f mid = fm) := hfmv
        clear hfmv hfm hR hf hbn hT hx hmo hmm hc1 t0 t1 t2 t3 t4 t5 hkk hmo2 hp0 hR2 hmp hids hBa hbl hbnA hTA hidA hmln
        go_wp2
        go_loopw [13, 47] (fun v i wy => ∃ (j : Nat) (sm : Int), j ≤ mpn ∧ i = .int .i64 (j : Int) ∧ v = .int .i64 sm ∧ wy = (wr.alloc (.cells #[.int .u64 mid, .int .u64 mt, .slice mpa mpn mpc, .string mau, .int .i64 md, .string mtx] 137)) ∧ Hid (sumW f mps fm = sumW f (mps.drop j) sm ∧ 0 ≤ sm ∧ sm ≤ 4611686018427387904)) (fun _ i _ => mpn - (intOf i).toNat)
        case atStart => exact ⟨0, fm, Nat.zero_le _, rfl, rfl, rfl, rfl, HW.out.2.2.2.2.2.2.1, HW.out.2.2.2.2.2.2.2⟩
        case round =>
          obtain ⟨j, sm, hj, rfl, rfl, hwy, HS⟩ := hrel
          subst hwy
          obtain ⟨hs1, hs2, hs3⟩ := HS.out
          clear HS
          by_cases hlj : j < mpn
          · obtain ⟨p, hp⟩ : ∃ p, mps[j]? = some p := ⟨_, List.getElem?_eq_getElem (by omega)⟩
            obtain ⟨b2, o2, hpa, hc2⟩ := HW.out.2.2.2.2.2.1.2 (by omega)
            subst hpa
            have q6 := hc2 j p hp
            obtain ⟨hp0, hp1⟩ := HW.out.2.2.2.2.1 p (List.mem_of_getElem? hp)
            have hl1 := HW.out.2.2.1.look p hp0 hp1 _ rfl
            obtain ⟨hfp0, hfp1⟩ := HW.out.2.1 p
            have hs4 := hs1.trans (sumW_drop f mps j p sm hp)
            have j2 : (j : Int) < (mpn : Int) := by omega
            have j3 : ¬ mpn ≤ j := by omega
            generalize f p = fp at *
            have a1 : -9223372036854775808 ≤ 4611686018427387904 - sm := by omega
            have a2 : 4611686018427387904 - sm ≤ 9223372036854775807 := by omega
            by_cases hmin : fp ≤ 4611686018427387904 - sm
            · rw [if_pos hmin] at hs4
              have HS5 : Hid (sumW f mps fm = sumW f (mps.drop (j + 1)) (sm + fp) ∧ 0 ≤ sm + fp ∧ sm + fp ≤ 4611686018427387904) := ⟨hs4, by omega, by omega⟩
              have a3 : -9223372036854775808 ≤ sm + fp := by omega
              have a4 : sm + fp ≤ 9223372036854775807 := by omega
              have a5 : min fp (4611686018427387904 - sm) = fp := by omega
              clear hs1 hs2 hs3 hs4 hc2 hp hfp0 hfp1 hp0 hp1
              go_wp2
              go_roundw
              case rel => exact ⟨j + 1, sm + fp, by omega, by simp, rfl, by trivial, HS5.out⟩
              case measure => simp [intOf]; omega
            · rw [if_neg hmin] at hs4
              have HS5 : Hid (sumW f mps fm = sumW f (mps.drop (j + 1)) 4611686018427387904 ∧ (0 : Int) ≤ 4611686018427387904 ∧ (4611686018427387904 : Int) ≤ 4611686018427387904) := by
                refine ⟨?_, by omega, by omega⟩
                rw [hs4]
                congr 1
                omega
              have a3 : sm + (4611686018427387904 - sm) = 4611686018427387904 := by omega
              have a5 : min fp (4611686018427387904 - sm) = 4611686018427387904 - sm := by omega
              have a6 : 4611686018427387904 - sm < fp := by omega
              clear hs1 hs2 hs3 hs4 hc2 hp hfp0 hfp1 hp0 hp1
              go_wp2
              go_roundw
              case rel => exact ⟨j + 1, 4611686018427387904, by omega, by simp, by first | rfl | simp, by trivial, HS5.out⟩
              case measure => simp [intOf]; omega
          · obtain rfl : j = mpn := by omega
            have j2 : ¬ (j : Int) < (j : Int) := by omega
            have e0 : mps.drop j = [] := List.drop_of_length_le (by omega)
            rw [e0] at hs1
            obtain ⟨h1, h2, h3, h4, _⟩ := HW.out
            obtain ⟨w3, hupd, hbn3, hg3⟩ := h3.put mid hm0 hm1 (by have := HML2.out; unfold maxLen; omega) sm
            have HN : Hid (RF = waysL ((ms.map Mb.pair).drop (k + 1)) (setG f mid sm) ∧ InW (setG f mid sm) ∧ BnAt w3 w1.heap.size (setG f mid sm) (k + 1 + 1) ∧ Turn (fun z => z = w1.heap.size) w2 w3) := by
              refine ⟨?_, h2.set mid sm ⟨hs2, hs3⟩, hbn3, h4.trans (Turn.of_grownBy (Fp := fun z => z = w1.heap.size) hg3 (fun k hk => .inl (by cases hk; rfl))) (fun _ _ e => e)⟩
              rw [hs1] at h1
              exact h1
            clear h1 h2 h3 h4 hs1 hs2 hs3 hbn3 hg3
            go_wp2
            go_roundw
            case rel => exact ⟨k + 1, _, by omega, by simp, HN.out⟩
            case measure => simp [intOf]; omega
      · obtain rfl : k = ML := by omega
        have i2 : ¬ (k : Int) < (k : Int) := by omega
        have e0 : (ms.map Mb.pair).drop k = [] := List.drop_of_length_le (by rw [List.length_map, HML.out]; exact Nat.le_refl _)
        rw [e0] at hR
        have hlk := hbn.look b HA.out.2.2.1 HA.out.2.2.2 wr rfl
        have HZ : Hid (linesG os gs.ord a b = f b) := by rw [HRF.out, hR]; rfl
        have HB9 : Hid (Below w.heap.size w wr) := H2.out.2.2.1.trans (hT.below H2.out.2.2.1.size (fun z hz => by rw [hz]; exact HB1.out.size))
        generalize f b = fb at *
        clear hR hf hbn hT
        go_wp2
        go_ret2
        refine ⟨HB9.out, ?_⟩
        show _ = Ending.returned (.tuple #[.int .i64 (linesG os gs.ord a b), .int .i64 0])
        rw [HZ.out]
        rfl

theorem ancestor_nil (w : World) (a b : Int) : Calls Tryz.prog 24 #[.pointer none, .int .u64 a, .int .u64 b] w fun e w' => e = .returned (.tuple #[.bool false, .int .i64 1]) ∧ Below w.heap.size w w' := by
  have hr := lines_nil w a b
  go_enter Tryz.func24, Tryz.ntmps24
  go_wp2_with (go_at_call 43; refine hr.mono ?_; clear hr; rintro e w1 ⟨rfl, hB1⟩)
  go_ret2
  exact ⟨rfl, hB1⟩
/-- how Ancestor ends -/
def AOut (R : GR) (f : List Int → Bool) (e : Ending) : Prop := match R with
  | .bad er => e = .returned (.tuple #[.bool false, .int .i64 er]) ∧ er ≠ 0
  | .ok gs => e = .returned (.tuple #[.bool (f gs.ord), .int .i64 0])
theorem ancestor_any (w : World) (s d : Nat) (os : List Ob) (sz : Nat) (cut : Bool) (F : Nat → Prop) (hS : IsSt w s d os sz cut F) (hos : os.length ≤ 65536) (a b : Int) (ha : 0 ≤ a ∧ a ≤ 18446744073709551615) (hb : 0 ≤ b ∧ b ≤ 18446744073709551615) :
    Calls Tryz.prog 24 #[.pointer (some ⟨s, 0, none⟩), .int .u64 a, .int .u64 b] w fun e w' => Below w.heap.size w w' ∧ AOut (ordG os [a, b] GS.none) (fun l => decide (0 < linesG os l a b)) e := by
  have hr := lines_any w s d os sz cut F hS hos a b ha hb
  generalize ordG os [a, b] GS.none = R at *
  cases R with
  | bad er =>
    go_enter Tryz.func24, Tryz.ntmps24
    go_wp2_with (go_at_call 43; refine hr.mono ?_; clear hr; rintro e w1 ⟨hB1, he, hne⟩; subst he)
    go_ret2
    exact ⟨hB1, rfl, hne⟩
  | ok gs =>
    generalize hv : linesG os gs.ord a b = v at *
    go_enter Tryz.func24, Tryz.ntmps24
    go_wp2_with (go_at_call 43; refine hr.mono ?_; clear hr; rintro e w1 ⟨hB1, he⟩; have he' : e = .returned (.tuple #[.int .i64 v, .int .i64 0]) := (by rw [← hv]; exact he); subst he'; clear he)
    go_ret2
    refine ⟨hB1, ?_⟩
    show _ = Ending.returned (.tuple #[.bool (decide (0 < linesG os gs.ord a b)), .int .i64 0])
    rw [hv]
    rfl
end Go.Proofs.YtncagdfbgpdhfaaGreat

/- The walk of Depth. -/
namespace Go.Proofs.YtncagdfbgpdhfaaGreat
open Go.RowKit Go.Maps

attribute [local go_sem] Oper.semAt_some

/-- the greatest along parents -/
def maxD (f : Int → Int) : List Int → Int → Int
  | [], s => s
  | p :: r, s => maxD f r (if s < f p then f p else s)
def depL : List (Int × List Int) → (Int → Int) → (Int → Int)
  | [], f => f
  | m :: r, f => depL r (setG f m.1 (maxD f m.2 0 + 1))
def depthG (os : List Ob) (l : List Int) (b : Int) : Int := depL (pairsO os l) (fun _ => 0) b
def InD (f : Int → Int) (k : Int) : Prop := ∀ x, 0 ≤ f x ∧ f x ≤ k
theorem InD.set {f : Int → Int} {k : Int} (hf : InD f k) (x v : Int) (h : 0 ≤ v ∧ v ≤ k) : InD (setG f x (v + 1)) (k + 1) := fun y => by
  unfold setG
  have := hf y
  split <;> omega
theorem depL_drop (l : List (Int × List Int)) (k : Nat) (m : Int × List Int) (f : Int → Int) (h : l[k]? = some m) : depL (l.drop k) f = depL (l.drop (k + 1)) (setG f m.1 (maxD f m.2 0 + 1)) := by
  have hk := (List.getElem?_eq_some_iff.1 h).1
  rw [List.drop_eq_getElem_cons hk]
  have : l[k] = m := (List.getElem?_eq_some_iff.1 h).2
  rw [this]
  rfl
theorem maxD_drop (f : Int → Int) (l : List Int) (k : Nat) (p : Int) (s : Int) (h : l[k]? = some p) : maxD f (l.drop k) s = maxD f (l.drop (k + 1)) (if s < f p then f p else s) := by
  have hk := (List.getElem?_eq_some_iff.1 h).1
  rw [List.drop_eq_getElem_cons hk]
  have : l[k] = p := (List.getElem?_eq_some_iff.1 h).2
  rw [this]
  rfl
theorem lit_id (W : World) (x : Int) (fz : Nat × Nat) : Ids (W.alloc (.cells #[.int .u64 x] 31 fz)) (some ⟨W.heap.size, 0, none⟩) 1 [x] := by
  have hb := World.alloc_heap_new W (.cells #[.int .u64 x] 31 fz)
  generalize W.alloc (.cells #[.int .u64 x] 31 fz) = W' at hb
  refine ⟨rfl, fun _ => ⟨W.heap.size, 0, rfl, fun i z hi => ?_⟩⟩
  match i, hi with
  | 0, hi => simp at hi; subst hi; simp [World.cell?, hb]
end Go.Proofs.YtncagdfbgpdhfaaGreat

/- Ways and depths along an order, plain: each commit's number out of those of its parents; ancestors. -/
namespace Go.Proofs.YtncagdfbgpdhfaaGreat
open Go.RowKit Go.Maps

def psO (os : List Ob) (x : Int) : List Int := (parsO os x).getD []
theorem waysL_snoc : ∀ (l : List (Int × List Int)) (m : Int × List Int) (f : Int → Int), waysL (l ++ [m]) f = setG (waysL l f) m.1 (sumW (waysL l f) m.2 (waysL l f m.1))
  | [], m, f => rfl
  | x :: r, m, f => by simp only [List.cons_append, waysL]; exact waysL_snoc r m _
theorem depL_snoc : ∀ (l : List (Int × List Int)) (m : Int × List Int) (f : Int → Int), depL (l ++ [m]) f = setG (depL l f) m.1 (maxD (depL l f) m.2 0 + 1)
  | [], m, f => rfl
  | x :: r, m, f => by simp only [List.cons_append, depL]; exact depL_snoc r m _
theorem sumW_congr {f g : Int → Int} : ∀ (l : List Int) (s : Int), (∀ p ∈ l, f p = g p) → sumW f l s = sumW g l s
  | [], s, _ => rfl
  | p :: r, s, h => by
    simp only [sumW]
    rw [h p (by simp)]
    exact sumW_congr r _ fun q hq => h q (by simp [hq])
theorem maxD_congr {f g : Int → Int} : ∀ (l : List Int) (s : Int), (∀ p ∈ l, f p = g p) → maxD f l s = maxD g l s
  | [], s, _ => rfl
  | p :: r, s, h => by
    simp only [maxD]
    rw [h p (by simp)]
    exact maxD_congr r _ fun q hq => h q (by simp [hq])
theorem nodup_take {l : List Int} (h : l.Nodup) {k : Nat} {x : Int} (hx : l[k]? = some x) : x ∉ l.take k := by
  have hk := (List.getElem?_eq_some_iff.1 hx).1
  have e : l = l.take k ++ l.drop k := (List.take_append_drop k l).symm
  rw [e] at h
  have h3 := (List.nodup_append.1 h).2.2
  intro hm
  refine h3 x hm x ?_ rfl
  rw [List.drop_eq_getElem_cons hk]
  have : l[k] = x := (List.getElem?_eq_some_iff.1 hx).2
  rw [this]
  simp
theorem mem_take {l : List Int} {j k : Nat} {x : Int} (h : j < k) (hx : l[j]? = some x) : x ∈ l.take k :=
  List.mem_of_getElem? (i := j) (by rw [List.getElem?_take_of_lt h]; exact hx)
theorem nodup_at {l : List Int} (h : l.Nodup) {j k : Nat} {x : Int} (h1 : l[j]? = some x) (h2 : l[k]? = some x) : j = k := by
  rcases Nat.lt_trichotomy j k with e | e | e
  · exact absurd (mem_take e h1) (nodup_take h h2)
  · exact e
  · exact absurd (mem_take e h2) (nodup_take h h1)
/-- each parent stands ahead -/
def Ahead (P : Int → List Int) (l : List Int) : Prop := ∀ (i : Nat) x, l[i]? = some x → ∀ p ∈ P x, ∃ j, j < i ∧ l[j]? = some p
theorem Topo.ahead {os : List Ob} {l : List Int} (h : Topo (parsO os) l) : Ahead (psO os) l := by
  intro i x hx p hp
  obtain ⟨ps, h1, h2⟩ := h i x hx
  unfold psO at hp
  rw [h1] at hp
  exact h2 p hp
/-- a number for each commit, set in the order, each out of its parents' -/
theorem fix_of {P : Int → List Int} {l : List Int} (hn : l.Nodup) (hA : Ahead P l) (G : List Int → Int → Int) (V : (Int → Int) → Int → Int → Int) (f0 : Int → Int) (h0 : G [] = f0)
    (hs : ∀ m x, G (m ++ [x]) = setG (G m) x (V (G m) x (G m x))) (hV : ∀ f g x v, (∀ p ∈ P x, f p = g p) → V f x v = V g x v) :
    (∀ x ∈ l, G l x = V (G l) x (f0 x)) ∧ ∀ x, x ∉ l → G l x = f0 x := by
  have key : ∀ k, k ≤ l.length → (∀ j x, j < k → l[j]? = some x → G (l.take k) x = V (G (l.take k)) x (f0 x)) ∧ ∀ x, x ∉ l.take k → G (l.take k) x = f0 x := by
    intro k
    induction k with
    | zero => intro _; exact ⟨fun j x h => by omega, fun x _ => by simp [h0]⟩
    | succ k ih =>
      intro hk
      obtain ⟨ih1, ih2⟩ := ih (by omega)
      have hk' : k < l.length := by omega
      obtain ⟨y, hy⟩ : ∃ y, l[k]? = some y := ⟨_, List.getElem?_eq_getElem hk'⟩
      have hye : l[k] = y := (List.getElem?_eq_some_iff.1 hy).2
      have hyt := nodup_take hn hy
      rw [List.take_succ_eq_append_getElem hk', hye, hs]
      refine ⟨fun j x hj hx => ?_, fun x hx => ?_⟩
      · have hpar : ∀ p ∈ P x, setG (G (l.take k)) y (V (G (l.take k)) y (G (l.take k) y)) p = G (l.take k) p := by
          intro p hp
          obtain ⟨i, hi, hpi⟩ := hA j x hx p hp
          have hpt := mem_take (show i < k by omega) hpi
          have : p ≠ y := fun e => hyt (e ▸ hpt)
          simp [setG, this]
        rw [hV _ (G (l.take k)) x _ hpar]
        by_cases hjk : j = k
        · subst hjk
          rw [hx] at hy
          obtain rfl := Option.some.inj hy
          simp only [setG, if_pos]
          rw [ih2 _ hyt]
        · have hjk' : j < k := by omega
          have hxt := mem_take hjk' hx
          have : x ≠ y := fun e => hyt (e ▸ hxt)
          simp only [setG, if_neg this]
          exact ih1 j x hjk' hx
      · have h1 : x ∉ l.take k := fun e => hx (by simp [e])
        have h2 : x ≠ y := fun e => hx (by simp [e])
        simp only [setG, if_neg h2]
        exact ih2 x h1
  obtain ⟨h1, h2⟩ := key l.length (Nat.le_refl _)
  rw [List.take_length] at h1 h2
  exact ⟨fun x hx => by
    obtain ⟨j, hj⟩ := List.getElem?_of_mem hx
    exact h1 j x (List.getElem?_eq_some_iff.1 hj).1 hj, h2⟩
theorem ways_fix {os : List Ob} {l : List Int} (hn : l.Nodup) (hA : Ahead (psO os) l) (f0 : Int → Int) :
    (∀ x ∈ l, waysL (pairsO os l) f0 x = sumW (waysL (pairsO os l) f0) (psO os x) (f0 x)) ∧ ∀ x, x ∉ l → waysL (pairsO os l) f0 x = f0 x :=
  fix_of hn hA (fun l => waysL (pairsO os l) f0) (fun f x v => sumW f (psO os x) v) f0 rfl
    (fun m x => by unfold pairsO; rw [List.map_append]; exact waysL_snoc _ _ _) (fun f g x v h => sumW_congr _ _ h)
theorem dep_fix {os : List Ob} {l : List Int} (hn : l.Nodup) (hA : Ahead (psO os) l) :
    (∀ x ∈ l, depL (pairsO os l) (fun _ => 0) x = maxD (depL (pairsO os l) (fun _ => 0)) (psO os x) 0 + 1) ∧ ∀ x, x ∉ l → depL (pairsO os l) (fun _ => 0) x = 0 :=
  fix_of hn hA (fun l => depL (pairsO os l) (fun _ => 0)) (fun f x _ => maxD f (psO os x) 0 + 1) (fun _ => 0) rfl
    (fun m x => by unfold pairsO; rw [List.map_append]; exact depL_snoc _ _ _) (fun f g x v h => by rw [maxD_congr _ _ h])
/-- what each commit says by its parents stands for one thing -/
theorem fix_one {P : Int → List Int} {l : List Int} (hA : Ahead P l) (V : (Int → Int) → Int → Int) (hV : ∀ f g x, (∀ p ∈ P x, f p = g p) → V f x = V g x) {F G : Int → Int} (hF : ∀ x ∈ l, F x = V F x) (hG : ∀ x ∈ l, G x = V G x) : ∀ x ∈ l, F x = G x := by
  have key : ∀ (n i : Nat) (x : Int), i < n → l[i]? = some x → F x = G x := by
    intro n
    induction n with
    | zero => intro i x h; omega
    | succ n ih =>
      intro i x hi hx
      rw [hF x (List.mem_of_getElem? hx), hG x (List.mem_of_getElem? hx)]
      refine hV F G x fun p hp => ?_
      obtain ⟨j, hj, hpj⟩ := hA i x hx p hp
      exact ih j p (by omega) hpj
  intro x hx
  obtain ⟨i, hi⟩ := List.getElem?_of_mem hx
  exact key (i + 1) i x (by omega) hi
theorem sumW_zero {f : Int → Int} : ∀ (l : List Int) (s : Int), (∀ p ∈ l, f p = 0) → s ≤ 4611686018427387904 → sumW f l s = s
  | [], s, _, _ => rfl
  | p :: r, s, h, hs => by
    simp only [sumW]
    rw [h p (by simp), if_pos (by omega), Int.add_zero]
    exact sumW_zero r s (fun q hq => h q (by simp [hq])) hs
theorem InW.ways : ∀ (l : List (Int × List Int)) (f : Int → Int), InW f → InW (waysL l f)
  | [], _, h => h
  | m :: r, _, h => InW.ways r _ (h.set m.1 _ (sumW_in h m.2 _ (h m.1)))
theorem sumW_pos {f : Int → Int} (hf : InW f) : ∀ (l : List Int) (s : Int), 0 ≤ s ∧ s ≤ 4611686018427387904 → (0 < sumW f l s ↔ 0 < s ∨ ∃ p ∈ l, 0 < f p)
  | [], s, _ => by simp [sumW]
  | p :: r, s, h => by
    have hp := hf p
    simp only [sumW]
    rw [sumW_pos hf r _ (by split <;> omega)]
    constructor
    · rintro (h1 | ⟨q, hq, h1⟩)
      · by_cases h2 : 0 < s
        · exact .inl h2
        · refine .inr ⟨p, by simp, ?_⟩
          split at h1 <;> omega
      · exact .inr ⟨q, by simp [hq], h1⟩
    · rintro (h1 | ⟨q, hq, h1⟩)
      · left; split <;> omega
      · rcases List.mem_cons.1 hq with e | e
        · subst e; left; split <;> omega
        · exact .inr ⟨q, e, h1⟩
/-- an ancestor, along parents -/
inductive Anc (P : Int → Option (List Int)) (a : Int) : Int → Prop where
  | refl : Anc P a a
  | step {x p : Int} {ps : List Int} : P x = some ps → p ∈ ps → Anc P a p → Anc P a x
theorem Anc.trans {P : Int → Option (List Int)} {a b c : Int} (h : Anc P a b) (k : Anc P b c) : Anc P a c := by
  induction k with
  | refl => exact h
  | step h1 h2 _ ih => exact .step h1 h2 ih
theorem Anc.at_ {P : Int → Option (List Int)} {l : List Int} (hT : Topo P l) {a x : Int} (h : Anc P a x) : ∀ (i : Nat), l[i]? = some x → ∃ j : Nat, j ≤ i ∧ l[j]? = some a := by
  induction h with
  | refl => intro i hi; exact ⟨i, Nat.le_refl _, hi⟩
  | step h1 h2 _ ih =>
    intro i hi
    obtain ⟨qs, h3, h4⟩ := hT i _ hi
    rw [h1] at h3
    cases h3
    obtain ⟨j, hj, hp⟩ := h4 _ h2
    obtain ⟨m, hm, ha⟩ := ih j hp
    exact ⟨m, by omega, ha⟩
theorem Anc.mem {P : Int → Option (List Int)} {l : List Int} (hT : Topo P l) {a x : Int} (h : Anc P a x) (hx : x ∈ l) : a ∈ l := by
  obtain ⟨i, hi⟩ := List.getElem?_of_mem hx
  obtain ⟨j, _, hj⟩ := h.at_ hT i hi
  exact List.mem_of_getElem? hj
theorem Anc.anti {P : Int → Option (List Int)} {l : List Int} (hT : Topo P l) (hn : l.Nodup) {a b : Int} (h : Anc P a b) (k : Anc P b a) (hb : b ∈ l) : a = b := by
  obtain ⟨i, hi⟩ := List.getElem?_of_mem hb
  obtain ⟨j, hj, ha⟩ := h.at_ hT i hi
  obtain ⟨m, hm, hb'⟩ := k.at_ hT j ha
  have := nodup_at hn hi hb'
  have e : j = i := by omega
  subst e
  rw [hi] at ha
  exact (Option.some.inj ha).symm
/-- ways to a, along an order in which it stands or not -/
theorem ways_doc {os : List Ob} {l : List Int} (hT : Topo (parsO os) l) (hn : l.Nodup) (a : Int) :
    (∀ x ∈ l, waysL (pairsO os l) (setG (fun _ => 0) a 1) x = if x = a then 1 else sumW (waysL (pairsO os l) (setG (fun _ => 0) a 1)) (psO os x) 0) := by
  obtain ⟨h1, _⟩ := ways_fix hn hT.ahead (setG (fun _ => 0) a 1)
  generalize waysL (pairsO os l) (setG (fun _ => 0) a 1) = W at *
  intro x hx
  by_cases e : x = a
  · subst e
    rw [if_pos rfl, h1 x hx]
    obtain ⟨k, hk⟩ := List.getElem?_of_mem hx
    have hz : ∀ (n j : Nat) (y : Int), j < n → j < k → l[j]? = some y → W y = 0 := by
      intro n
      induction n with
      | zero => intro j y h; omega
      | succ n ih =>
        intro j y hj hjk hy
        have hne : y ≠ x := fun e => by
          subst e
          have := nodup_at hn hy hk
          omega
        rw [h1 y (List.mem_of_getElem? hy)]
        have e0 : setG (fun _ => 0) x 1 y = 0 := by simp [setG, hne]
        rw [e0]
        refine sumW_zero _ _ (fun p hp => ?_) (by omega)
        obtain ⟨i, hi, hpi⟩ := hT.ahead j y hy p hp
        exact ih i p (by omega) (by omega) hpi
    have e1 : setG (fun _ => 0) x 1 x = 1 := by simp [setG]
    rw [e1]
    refine sumW_zero _ _ (fun p hp => ?_) (by omega)
    obtain ⟨i, hi, hpi⟩ := hT.ahead k x hk p hp
    exact hz (i + 1) i p (by omega) hi hpi
  · rw [if_neg e, h1 x hx]
    have e0 : setG (fun _ => 0) a 1 x = 0 := by simp [setG, e]
    rw [e0]
theorem ways_anc {os : List Ob} {l : List Int} (hT : Topo (parsO os) l) (hn : l.Nodup) (a : Int) : ∀ x ∈ l, (0 < waysL (pairsO os l) (setG (fun _ => 0) a 1) x ↔ Anc (parsO os) a x) := by
  have h1 := ways_doc hT hn a
  have hW : InW (waysL (pairsO os l) (setG (fun _ => 0) a 1)) := InW.ways _ _ (fun x => by unfold setG; split <;> simp)
  generalize waysL (pairsO os l) (setG (fun _ => 0) a 1) = W at *
  have f : ∀ (n i : Nat) (x : Int), i < n → l[i]? = some x → 0 < W x → Anc (parsO os) a x := by
    intro n
    induction n with
    | zero => intro i x h; omega
    | succ n ih =>
      intro i x hi hx h0
      rw [h1 x (List.mem_of_getElem? hx)] at h0
      by_cases e : x = a
      · subst e; exact .refl
      · rw [if_neg e] at h0
        rcases (sumW_pos hW _ 0 (by omega)).1 h0 with h | ⟨p, hp, h⟩
        · omega
        · obtain ⟨ps, h3, h4⟩ := hT i x hx
          unfold psO at hp
          rw [h3] at hp
          obtain ⟨j, hj, hpj⟩ := h4 p hp
          exact .step h3 hp (ih j p (by omega) hpj h)
  have b : ∀ x, Anc (parsO os) a x → x ∈ l → 0 < W x := by
    intro x h
    induction h with
    | refl => intro hx; rw [h1 a hx, if_pos rfl]; omega
    | @step x p ps h2 h3 _ ih =>
      intro hx
      rw [h1 x hx]
      by_cases e : x = a
      · rw [if_pos e]; omega
      · rw [if_neg e]
        refine (sumW_pos hW _ 0 (by omega)).2 (.inr ⟨p, by unfold psO; rw [h2]; exact h3, ih ?_⟩)
        obtain ⟨i, hi⟩ := List.getElem?_of_mem hx
        obtain ⟨qs, h4, h5⟩ := hT i x hi
        rw [h2] at h4
        cases h4
        obtain ⟨j, _, hj⟩ := h5 p h3
        exact List.mem_of_getElem? hj
  intro x hx
  obtain ⟨i, hi⟩ := List.getElem?_of_mem hx
  exact ⟨f (i + 1) i x (by omega) hi, fun h => b x h hx⟩
/-- what is gone through is an ancestor -/
theorem goL_anc {P : Int → Option (List Int)} {v : Int → GS → GR} (hv : ∀ x s s', v x s = .ok s' → ∀ y ∈ s'.ord, y ∈ s.ord ∨ Anc P y x) : ∀ (l : List Int) (s s' : GS), goL v l s = .ok s' → ∀ y ∈ s'.ord, y ∈ s.ord ∨ ∃ x ∈ l, Anc P y x
  | [], s, s', h, y, hy => by simp only [goL, GR.ok.injEq] at h; subst h; exact .inl hy
  | x :: r, s, s', h, y, hy => by
    simp only [goL] at h
    cases h1 : v x s with
    | bad e => rw [h1] at h; cases h
    | ok s1 =>
      rw [h1] at h
      rcases goL_anc hv r s1 s' h y hy with h2 | ⟨z, hz, h2⟩
      · rcases hv x s s1 h1 y h2 with h3 | h3
        · exact .inl h3
        · exact .inr ⟨x, by simp, h3⟩
      · exact .inr ⟨z, by simp [hz], h2⟩
theorem visit_anc {P : Int → Option (List Int)} {ge : Int → Int} : ∀ (f : Nat) (x : Int) (s s' : GS), visit P ge f x s = .ok s' → ∀ y ∈ s'.ord, y ∈ s.ord ∨ Anc P y x
  | 0, x, s, s', h => by simp [visit] at h
  | f + 1, x, s, s', h => by
    simp only [visit] at h
    split at h
    · cases h
    · split at h
      · simp only [GR.ok.injEq] at h; subst h; exact fun y hy => .inl hy
      · cases hP : P x with
        | none => rw [hP] at h; cases h
        | some ps =>
          rw [hP] at h
          simp only at h
          cases h1 : goL (visit P ge f) ps (s.opn x) with
          | bad e => rw [h1] at h; cases h
          | ok s1 =>
            rw [h1] at h
            simp only [GR.ok_then, GR.ok.injEq] at h
            subst h
            intro y hy
            simp only [GS.plc, List.mem_append, List.mem_singleton] at hy
            rcases hy with hy | hy
            · rcases goL_anc (visit_anc f) ps _ s1 h1 y hy with h2 | ⟨z, hz, h2⟩
              · exact .inl h2
              · exact .inr (.step hP hz h2)
            · subst hy; exact .inr .refl
theorem ord_anc {os : List Ob} {l : List Int} {gs : GS} (h : ordG os l GS.none = .ok gs) : ∀ y ∈ gs.ord, ∃ x ∈ l, Anc (parsO os) y x := by
  intro y hy
  rcases goL_anc (visit_anc (os.length + 2)) l _ gs h y hy with h1 | h1
  · simp [GS.none] at h1
  · exact h1
theorem ord_inv {os : List Ob} {l : List Int} {gs : GS} (h : ordG os l GS.none = .ok gs) : GInv (parsO os) gs := (btw_sim os l [] gs h).1
/-- heads stand in their order -/
theorem ord_heads {os : List Ob} {l : List Int} {gs : GS} (h : ordG os l GS.none = .ok gs) : ∀ x ∈ l, x ∈ gs.ord := by
  have h0 : goL (visit (parsO os) (errO os) (os.length + 2)) l GS.none = .ok gs := h
  exact (goL_gone (fun x s s' => visit_gone (os.length + 2) x s s') l _ _ (ginv_none (parsO os)) h0).2.1
theorem goL_placed {os : List Ob} : ∀ (l : List Int) (gs : GS), GInv (parsO os) gs → (∀ x ∈ l, x ∈ gs.ord) → ordG os l gs = .ok gs
  | [], gs, _, _ => rfl
  | x :: r, gs, hI, h => by
    have h2 := (hI.two x).2 (h x (by simp))
    have e : visit (parsO os) (errO os) (os.length + 2) x gs = .ok gs := by
      show (if gs.been x = 1 then _ else if gs.been x = 2 then _ else _) = _
      rw [h2]; rfl
    have ih := goL_placed r gs hI (fun y hy => h y (by simp [hy]))
    unfold ordG at ih ⊢
    simp only [goL, e, GR.ok_then]
    exact ih
/-- what stands in an order has an order of its own, within it -/
theorem ord_within {os : List Ob} {l m : List Int} {gs : GS} (h : ordG os l GS.none = .ok gs) (hm : ∀ x ∈ m, x ∈ gs.ord) : ∃ g2, ordG os m GS.none = .ok g2 ∧ ∀ y ∈ g2.ord, y ∈ gs.ord := by
  obtain ⟨hI, ha⟩ := btw_sim os l m gs h
  rw [goL_placed m gs hI hm] at ha
  cases h3 : ordG os m GS.none with
  | bad f => rw [h3] at ha; exact ha.elim
  | ok t =>
    refine ⟨t, rfl, fun y hy => ?_⟩
    obtain ⟨x, hx, h4⟩ := ord_anc h3 y hy
    exact h4.mem hI.topo (hm x hx)
end Go.Proofs.YtncagdfbgpdhfaaGreat
