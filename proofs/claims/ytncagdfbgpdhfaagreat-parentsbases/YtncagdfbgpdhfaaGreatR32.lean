import Derived.Test.YtncagdfbgpdhfaaGreatR30
/- The walks of Lines and Ancestor. -/
namespace Go.Proofs.YtncagdfbgpdhfaaGreat
open Go.RowKit Go.Maps

attribute [local go_sem] Oper.semAt_some

/-- ways along parents, added up to 2^62 -/
def sumW (f : Int → Int) : List Int → Int → Int
  | [], s => s
  | p :: r, s => sumW f r (s + (if f p ≤ 4611686018427387904 - s then f p else 4611686018427387904 - s))
def waysL : List (Int × List Int) → (Int → Int) → (Int → Int)
  | [], f => f
  | m :: r, f => waysL r (setG f m.1 (sumW f m.2 (f m.1)))
def Mb.pair (m : Mb) : Int × List Int := (m.id, m.ps)
/-- the commits of an order with their parents -/
def pairsO (os : List Ob) (l : List Int) : List (Int × List Int) := l.map fun i => (i, (parsO os i).getD [])
def linesG (os : List Ob) (l : List Int) (a b : Int) : Int := waysL (pairsO os l) (setG (fun _ => 0) a 1) b
def InW (f : Int → Int) : Prop := ∀ x, 0 ≤ f x ∧ f x ≤ 4611686018427387904
theorem sumW_in {f : Int → Int} (hf : InW f) : ∀ (l : List Int) (s : Int), 0 ≤ s ∧ s ≤ 4611686018427387904 → 0 ≤ sumW f l s ∧ sumW f l s ≤ 4611686018427387904
  | [], s, h => h
  | p :: r, s, h => by
    have := hf p
    refine sumW_in hf r _ ?_
    split <;> omega
theorem InW.set {f : Int → Int} (hf : InW f) (x v : Int) (h : 0 ≤ v ∧ v ≤ 4611686018427387904) : InW (setG f x v) := fun y => by
  unfold setG
  split
  · exact h
  · exact hf y
theorem waysL_drop (l : List (Int × List Int)) (k : Nat) (m : Int × List Int) (f : Int → Int) (h : l[k]? = some m) : waysL (l.drop k) f = waysL (l.drop (k + 1)) (setG f m.1 (sumW f m.2 (f m.1))) := by
  have hk := (List.getElem?_eq_some_iff.1 h).1
  rw [List.drop_eq_getElem_cons hk]
  have : l[k] = m := (List.getElem?_eq_some_iff.1 h).2
  rw [this]
  rfl
theorem sumW_drop (f : Int → Int) (l : List Int) (k : Nat) (p : Int) (s : Int) (h : l[k]? = some p) : sumW f (l.drop k) s = sumW f (l.drop (k + 1)) (s + (if f p ≤ 4611686018427387904 - s then f p else 4611686018427387904 - s)) := by
  have hk := (List.getElem?_eq_some_iff.1 h).1
  rw [List.drop_eq_getElem_cons hk]
  have : l[k] = p := (List.getElem?_eq_some_iff.1 h).2
  rw [this]
  rfl
theorem HNew.pairs {w w' : World} {h s : Nat} {os : List Ob} {gs : GS} {C mb : Nat} {ov : Value} {ms : List Mb} {K : Nat → Prop} {c : Nat} (H : HNew w w' h s os gs C mb ov ms K c) : ms.map Mb.pair = pairsO os gs.ord := by
  unfold pairsO
  rw [← H.ord, List.map_map]
  refine List.map_congr_left fun m hm => ?_
  have := (H.H.mem m hm).com
  simp only [Function.comp, Mb.pair, this, Option.getD_some]

/-- how Lines ends -/
def NOut (R : GR) (f : List Int → Int) (e : Ending) : Prop := match R with
  | .bad er => e = .returned (.tuple #[.int .i64 0, .int .i64 er]) ∧ er ≠ 0
  | .ok gs => e = .returned (.tuple #[.int .i64 (f gs.ord), .int .i64 0])
theorem lit_ids (W : World) (x y : Int) (fz : Nat × Nat) : Ids (W.alloc (.cells #[.int .u64 x, .int .u64 y] 31 fz)) (some ⟨W.heap.size, 0, none⟩) 2 [x, y] := by
  have hb := World.alloc_heap_new W (.cells #[.int .u64 x, .int .u64 y] 31 fz)
  generalize W.alloc (.cells #[.int .u64 x, .int .u64 y] 31 fz) = W' at hb
  refine ⟨rfl, fun _ => ⟨W.heap.size, 0, rfl, fun i z hi => ?_⟩⟩
  match i, hi with
  | 0, hi => simp at hi; subst hi; simp [World.cell?, hb]
  | 1, hi => simp at hi; subst hi; simp [World.cell?, hb]
set_option maxRecDepth 100000 in
set_option maxHeartbeats 8000000 in
theorem lines_any (w : World) (s d : Nat) (os : List Ob) (sz : Nat) (cut : Bool) (F : Nat → Prop) (hS : IsSt w s d os sz cut F) (hos : os.length ≤ 65536) (a b : Int) (ha : 0 ≤ a ∧ a ≤ 18446744073709551615) (hb : 0 ≤ b ∧ b ≤ 18446744073709551615) :
    Calls Tryz.prog 43 #[.pointer (some ⟨s, 0, none⟩), .int .u64 a, .int .u64 b] w fun e w' => Below w.heap.size w w' ∧ NOut (ordG os [a, b] GS.none) (fun l => linesG os l a b) e := by
  have hB0 : Below w.heap.size w (w.alloc (.cells #[.int .u64 a, .int .u64 b] 31)) := (Below.refl _ w).alloc (Nat.le_refl _) _
  have hrd := gread_any (w.alloc (.cells #[.int .u64 a, .int .u64 b] 31)) s d os sz cut F (hS.below hB0) hos _ 2 2 [a, b] (lit_ids w a b _) (fun x hx => by simp at hx; rcases hx with rfl | rfl <;> assumption) (Nat.le_refl _) (by omega)
  generalize ordG os [a, b] GS.none = R at *
  have hC : 2 + 1 + os.length * 10 ≤ 1000000000000 := by omega
  generalize 2 + 1 + os.length * 10 = C at *
  have HB0 : Hid (Below w.heap.size w (w.alloc (.cells #[.int .u64 a, .int .u64 b] 31))) := hB0
  have HA : Hid (0 ≤ a ∧ a ≤ 18446744073709551615 ∧ 0 ≤ b ∧ b ≤ 18446744073709551615) := ⟨ha.1, ha.2, hb.1, hb.2⟩
  have HC : Hid (C ≤ 1000000000000) := hC
  clear hB0 hS ha hb hC hos
  cases R with
  | bad er =>
    go_enter Tryz.func43, Tryz.ntmps43
    go_wp2_with (go_at_call 44; refine hrd.mono ?_; clear hrd; rintro e w1 ⟨hB1, he, hne⟩; subst he; have hne2 : (er == 0) = false := beq_eq_false_iff_ne.2 hne; have HB1 : Hid (Below w.heap.size w w1) := HB0.out.trans (hB1.mono (by simp)); clear hB1)
    go_ret2
    exact ⟨HB1.out, rfl, hne⟩
  | ok gs =>
    have hmm := @run_makeMap Tryz.prog
    go_enter Tryz.func43, Tryz.ntmps43
    go_wp2_with (go_at_call 44
                 refine hrd.mono ?_
                 clear hrd
                 rintro e w1 ⟨hB1, h, mb, ov, ms, K, cc, he, hN⟩
                 subst he
                 have HB1 : Hid (Below w.heap.size w w1) := HB0.out.trans (hB1.mono (by simp))
                 obtain ⟨w2, hupd, hbn2, hg2⟩ := (BnAt.new w1).put a HA.out.1 HA.out.2.1 (by unfold maxLen; omega) 1
                 have hBm : Below w1.heap.size w1 w2 := ⟨hg2.os, hg2.tape, hg2.output, by have := hg2.size; simp at this; omega, fun k hk => (hg2.block k (by simp; omega) (by simp; omega)).trans (Below.heap_alloc _ _ _ hk)⟩
                 have hN2 := hN.below hBm
                 have c2 := hN2.H.c2
                 obtain ⟨oa, oc, hov, _⟩ := row_shapeN hN2.H.row
                 subst hov
                 have H2 : Hid (HNew (w.alloc (.cells #[.int .u64 a, .int .u64 b] 31)) w2 h s os gs C mb (.slice oa ms.length oc) ms K cc ∧ BnAt w2 w1.heap.size (setG (fun _ => 0) a 1) 1 ∧ Below w.heap.size w w2 ∧ (∀ k, K k → k < w1.heap.size) ∧ w1.heap.size < w2.heap.size ∧ (∀ g, (Value.slice oa ms.length oc).ownBlock = some g → g < w1.heap.size)) := ⟨hN2, hbn2, HB1.out.trans (hBm.mono HB1.out.size), hN.H.klt, by have := hg2.size; simp at this; omega, fun g hg => (hN.H.row.lt g hg).2⟩
                 clear hB1 hN hN2 hbn2 hg2 hBm
                 generalize hML : ms.length = ML at *
                 have HML : Hid (ms.length = ML) := hML
                 clear hML)
    clear hmm hupd c2
    obtain ⟨RF, hRF⟩ : ∃ RF, RF = waysL (pairsO os gs.ord) (setG (fun _ => 0) a 1) := ⟨_, rfl⟩
    have HRF : Hid (linesG os gs.ord a b = RF b) := by rw [hRF]; rfl
    have HP : Hid (ms.map Mb.pair = pairsO os gs.ord) := H2.out.1.pairs
    have HR0 : Hid (RF = waysL ((ms.map Mb.pair).drop 0) (setG (fun _ => 0) a 1)) := by rw [HP.out]; exact hRF
    clear hRF
    have HML2 : Hid (ML ≤ 1000000000000) := by have h1 := H2.out.1.mc; have h2 := HC.out; have h3 := HML.out; show _ ≤ _; omega
    go_loopw [35] (fun i wr => ∃ (k : Nat) (f : Int → Int), k ≤ ML ∧ i = .int .i64 (k : Int) ∧ Hid (RF = waysL ((ms.map Mb.pair).drop k) f ∧ InW f ∧ BnAt wr w1.heap.size f (k + 1) ∧ Turn (fun z => z = w1.heap.size) w2 wr)) (fun i _ => ML - (intOf i).toNat)
    case atStart => exact ⟨0, _, Nat.zero_le _, rfl, HR0.out, InW.set (fun _ => ⟨by omega, by omega⟩) a 1 ⟨by omega, by omega⟩, H2.out.2.1, Turn.refl _ _⟩
    case round =>
      clear HR0
      obtain ⟨k, f, hk, rfl, H⟩ := hrel
      obtain ⟨hR, hf, hbn, hT⟩ := H.out
      clear H
      by_cases hlt : k < ML
      · obtain ⟨m, hx⟩ : ∃ m, ms[k]? = some m := ⟨_, List.getElem?_eq_getElem (by have := HML.out; omega)⟩
        have hmo := H2.out.1.H.mem m (List.mem_of_getElem? hx)
        have hmm := row_mems (c := oc) (by have := H2.out.1.H.row; rw [HML.out] at this; exact this) HML.out
        obtain ⟨b1, o1, hoa, hc1⟩ := hmm.2 (by omega)
        subst hoa
        obtain ⟨t0, t1, t2, t3, t4, t5⟩ := hc1 k m hx
        have hnb : b1 ≠ w1.heap.size := fun e => by have := H2.out.2.2.2.2.2 b1 rfl; omega
        have q0 := hT.cell t0 hnb
        have q1 := hT.cell t1 hnb
        have q2 := hT.cell t2 hnb
        have q3 := hT.cell t3 hnb
        have q4 := hT.cell t4 hnb
        have q5 := hT.cell t5 hnb
        have hkk : ∀ z, K z → wr.heap[z]? = w2.heap[z]? := fun z hz => hT.block z (H2.out.1.H.klt z hz) (fun e => by have := H2.out.2.2.2.1 z hz; omega)
        have hmo2 := hmo.kept hkk
        have hp0 : (ms.map Mb.pair)[k]? = some (m.id, m.ps) := by rw [List.getElem?_map, hx]; rfl
        have hR2 := hR.trans (waysL_drop _ k _ f hp0)
        obtain ⟨hm0, hm1⟩ := hmo2.rng
        have hmp := hmo2.pars
        have hids := hmo2.par
        have hmln := hmo2.len
        obtain ⟨mid, mt, mpa, mpn, mpc, mau, md, mtx, mps⟩ := m
        simp only at q0 q1 q2 q3 q4 q5 hR2 hm0 hm1 hmp hids hmln
        have hBa : Below wr.heap.size wr (wr.alloc (.cells #[.int .u64 mid, .int .u64 mt, .slice mpa mpn mpc, .string mau, .int .i64 md, .string mtx] 137)) := (Below.refl _ wr).alloc (Nat.le_refl _) _
        have hbl := hbn.lt
        have hbnA : BnAt (wr.alloc (.cells #[.int .u64 mid, .int .u64 mt, .slice mpa mpn mpc, .string mau, .int .i64 md, .string mtx] 137)) w1.heap.size f (k + 1) := hbn.kept (hBa.block _ hbl)
        have hidA := (hids.kept fun z hz => hBa.block z (Nat.lt_of_lt_of_le (H2.out.1.H.klt z hz) hT.size)).get
        have hTA : Turn (fun z => z = w1.heap.size) w2 (wr.alloc (.cells #[.int .u64 mid, .int .u64 mt, .slice mpa mpn mpc, .string mau, .int .i64 md, .string mtx] 137)) := hT.trans (Turn.of_below (fun _ => False) hBa) (fun _ _ e => e.elim)
        have d0 : (wr.alloc (.cells #[.int .u64 mid, .int .u64 mt, .slice mpa mpn mpc, .string mau, .int .i64 md, .string mtx] 137)).cell? ⟨wr.heap.size, 0, none⟩ = some (.int .u64 mid) := by simp only [World.cell?, World.alloc_heap_new]; rfl
        have d2 : (wr.alloc (.cells #[.int .u64 mid, .int .u64 mt, .slice mpa mpn mpc, .string mau, .int .i64 md, .string mtx] 137)).cell? ⟨wr.heap.size, 2, none⟩ = some (.slice mpa mpn mpc) := by simp only [World.cell?, World.alloc_heap_new]; rfl
        have hl0 := hbnA.look mid hm0 hm1 _ rfl
        have hI1 := hidA.1
        have hb1 : mpn ≤ 8 := hmln.2
        have hfm := hf mid
        have i2 : (k : Int) < (ML : Int) := by omega
        have i3 : ¬ ML ≤ k := by omega
        have i9 : (ML : Int) ≤ 9223372036854775807 := by have := HML2.out; omega
        have HW : Hid (RF = waysL ((ms.map Mb.pair).drop (k + 1)) (setG f mid (sumW f mps (f mid))) ∧ InW f ∧ BnAt (wr.alloc (.cells #[.int .u64 mid, .int .u64 mt, .slice mpa mpn mpc, .string mau, .int .i64 md, .string mtx] 137)) w1.heap.size f (k + 1) ∧ Turn (fun z => z = w1.heap.size) w2 (wr.alloc (.cells #[.int .u64 mid, .int .u64 mt, .slice mpa mpn mpc, .string mau, .int .i64 md, .string mtx] 137)) ∧ (∀ x ∈ mps, 0 ≤ x ∧ x ≤ 18446744073709551615) ∧ Ids (wr.alloc (.cells #[.int .u64 mid, .int .u64 mt, .slice mpa mpn mpc, .string mau, .int .i64 md, .string mtx] 137)) mpa mpn mps ∧ 0 ≤ f mid ∧ f mid ≤ 4611686018427387904) := ⟨hR2, hf, hbnA, hTA, hmp, hidA, hfm⟩
        generalize hfmv : f mid = fm at *
        have HFM : Hid (f mid = fm) := hfmv
        clear hfmv hfm hR hf hbn hT hx hmo hmm hc1 t0 t1 t2 t3 t4 t5 hkk hmo2 hp0 hR2 hmp hids hBa hbl hbnA hTA hidA hmln
        go_wp2
        go_loopw [13, 47] (fun v i wy => ∃ (j : Nat) (sm : Int), j ≤ mpn ∧ i = .int .i64 (j : Int) ∧ v = .int .i64 sm ∧ wy = (wr.alloc (.cells #[.int .u64 mid, .int .u64 mt, .slice mpa mpn mpc, .string mau, .int .i64 md, .string mtx] 137)) ∧ Hid (sumW f mps fm = sumW f (mps.drop j) sm ∧ 0 ≤ sm ∧ sm ≤ 4611686018427387904)) (fun _ i _ => mpn - (intOf i).toNat)
        case atStart => exact ⟨0, fm, Nat.zero_le _, rfl, rfl, rfl, rfl, HW.out.2.2.2.2.2.2.1, HW.out.2.2.2.2.2.2.2⟩
        case round =>
          obtain ⟨j, sm, hj, rfl, rfl, hwy, HS⟩ := hrel
          subst hwy
          obtain ⟨hs1, hs2, hs3⟩ := HS.out
          clear HS
          by_cases hlj : j < mpn
          · obtain ⟨p, hp⟩ : ∃ p, mps[j]? = some p := ⟨_, List.getElem?_eq_getElem (by omega)⟩
            obtain ⟨b2, o2, hpa, hc2⟩ := HW.out.2.2.2.2.2.1.2 (by omega)
            subst hpa
            have q6 := hc2 j p hp
            obtain ⟨hp0, hp1⟩ := HW.out.2.2.2.2.1 p (List.mem_of_getElem? hp)
            have hl1 := HW.out.2.2.1.look p hp0 hp1 _ rfl
            obtain ⟨hfp0, hfp1⟩ := HW.out.2.1 p
            have hs4 := hs1.trans (sumW_drop f mps j p sm hp)
            have j2 : (j : Int) < (mpn : Int) := by omega
            have j3 : ¬ mpn ≤ j := by omega
            generalize f p = fp at *
            have a1 : -9223372036854775808 ≤ 4611686018427387904 - sm := by omega
            have a2 : 4611686018427387904 - sm ≤ 9223372036854775807 := by omega
            by_cases hmin : fp ≤ 4611686018427387904 - sm
            · rw [if_pos hmin] at hs4
              have HS5 : Hid (sumW f mps fm = sumW f (mps.drop (j + 1)) (sm + fp) ∧ 0 ≤ sm + fp ∧ sm + fp ≤ 4611686018427387904) := ⟨hs4, by omega, by omega⟩
              have a3 : -9223372036854775808 ≤ sm + fp := by omega
              have a4 : sm + fp ≤ 9223372036854775807 := by omega
              have a5 : min fp (4611686018427387904 - sm) = fp := by omega
              clear hs1 hs2 hs3 hs4 hc2 hp hfp0 hfp1 hp0 hp1
              go_wp2
              go_roundw
              case rel => exact ⟨j + 1, sm + fp, by omega, by simp, rfl, by trivial, HS5.out⟩
              case measure => simp [intOf]; omega
            · rw [if_neg hmin] at hs4
              have HS5 : Hid (sumW f mps fm = sumW f (mps.drop (j + 1)) 4611686018427387904 ∧ (0 : Int) ≤ 4611686018427387904 ∧ (4611686018427387904 : Int) ≤ 4611686018427387904) := by
                refine ⟨?_, by omega, by omega⟩
                rw [hs4]
                congr 1
                omega
              have a3 : sm + (4611686018427387904 - sm) = 4611686018427387904 := by omega
              have a5 : min fp (4611686018427387904 - sm) = 4611686018427387904 - sm := by omega
              have a6 : 4611686018427387904 - sm < fp := by omega
              clear hs1 hs2 hs3 hs4 hc2 hp hfp0 hfp1 hp0 hp1
              go_wp2
              go_roundw
              case rel => exact ⟨j + 1, 4611686018427387904, by omega, by simp, by first | rfl | simp, by trivial, HS5.out⟩
              case measure => simp [intOf]; omega
          · obtain rfl : j = mpn := by omega
            have j2 : ¬ (j : Int) < (j : Int) := by omega
            have e0 : mps.drop j = [] := List.drop_of_length_le (by omega)
            rw [e0] at hs1
            obtain ⟨h1, h2, h3, h4, _⟩ := HW.out
            obtain ⟨w3, hupd, hbn3, hg3⟩ := h3.put mid hm0 hm1 (by have := HML2.out; unfold maxLen; omega) sm
            have HN : Hid (RF = waysL ((ms.map Mb.pair).drop (k + 1)) (setG f mid sm) ∧ InW (setG f mid sm) ∧ BnAt w3 w1.heap.size (setG f mid sm) (k + 1 + 1) ∧ Turn (fun z => z = w1.heap.size) w2 w3) := by
              refine ⟨?_, h2.set mid sm ⟨hs2, hs3⟩, hbn3, h4.trans (Turn.of_grownBy (Fp := fun z => z = w1.heap.size) hg3 (fun k hk => .inl (by cases hk; rfl))) (fun _ _ e => e)⟩
              rw [hs1] at h1
              exact h1
            clear h1 h2 h3 h4 hs1 hs2 hs3 hbn3 hg3
            go_wp2
            go_roundw
            case rel => exact ⟨k + 1, _, by omega, by simp, HN.out⟩
            case measure => simp [intOf]; omega
      · obtain rfl : k = ML := by omega
        have i2 : ¬ (k : Int) < (k : Int) := by omega
        have e0 : (ms.map Mb.pair).drop k = [] := List.drop_of_length_le (by rw [List.length_map, HML.out]; exact Nat.le_refl _)
        rw [e0] at hR
        have hlk := hbn.look b HA.out.2.2.1 HA.out.2.2.2 wr rfl
        have HZ : Hid (linesG os gs.ord a b = f b) := by rw [HRF.out, hR]; rfl
        have HB9 : Hid (Below w.heap.size w wr) := H2.out.2.2.1.trans (hT.below H2.out.2.2.1.size (fun z hz => by rw [hz]; exact HB1.out.size))
        generalize f b = fb at *
        clear hR hf hbn hT
        go_wp2
        go_ret2
        refine ⟨HB9.out, ?_⟩
        show _ = Ending.returned (.tuple #[.int .i64 (linesG os gs.ord a b), .int .i64 0])
        rw [HZ.out]
        rfl

/-- how Ancestor ends -/
def AOut (R : GR) (f : List Int → Bool) (e : Ending) : Prop := match R with
  | .bad er => e = .returned (.tuple #[.bool false, .int .i64 er]) ∧ er ≠ 0
  | .ok gs => e = .returned (.tuple #[.bool (f gs.ord), .int .i64 0])
theorem ancestor_any (w : World) (s d : Nat) (os : List Ob) (sz : Nat) (cut : Bool) (F : Nat → Prop) (hS : IsSt w s d os sz cut F) (hos : os.length ≤ 65536) (a b : Int) (ha : 0 ≤ a ∧ a ≤ 18446744073709551615) (hb : 0 ≤ b ∧ b ≤ 18446744073709551615) :
    Calls Tryz.prog 24 #[.pointer (some ⟨s, 0, none⟩), .int .u64 a, .int .u64 b] w fun e w' => Below w.heap.size w w' ∧ AOut (ordG os [a, b] GS.none) (fun l => decide (0 < linesG os l a b)) e := by
  have hr := lines_any w s d os sz cut F hS hos a b ha hb
  generalize ordG os [a, b] GS.none = R at *
  cases R with
  | bad er =>
    go_enter Tryz.func24, Tryz.ntmps24
    go_wp2_with (go_at_call 43; refine hr.mono ?_; clear hr; rintro e w1 ⟨hB1, he, hne⟩; subst he)
    go_ret2
    exact ⟨hB1, rfl, hne⟩
  | ok gs =>
    generalize hv : linesG os gs.ord a b = v at *
    go_enter Tryz.func24, Tryz.ntmps24
    go_wp2_with (go_at_call 43; refine hr.mono ?_; clear hr; rintro e w1 ⟨hB1, he⟩; have he' : e = .returned (.tuple #[.int .i64 v, .int .i64 0]) := (by rw [← hv]; exact he); subst he'; clear he)
    go_ret2
    refine ⟨hB1, ?_⟩
    show _ = Ending.returned (.tuple #[.bool (decide (0 < linesG os gs.ord a b)), .int .i64 0])
    rw [hv]
    rfl
end Go.Proofs.YtncagdfbgpdhfaaGreat

/- The walk of Depth. -/
namespace Go.Proofs.YtncagdfbgpdhfaaGreat
open Go.RowKit Go.Maps

attribute [local go_sem] Oper.semAt_some

end Go.Proofs.YtncagdfbgpdhfaaGreat
