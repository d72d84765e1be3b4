import Derived.Test.YtojpbemfbjkjjaaGreatL31
import Derived.Test.YtojpbemfbjkjjaaGreatL40
/- The walk of Depth. -/
namespace Go.Proofs.YtojpbemfbjkjjaaGreat
open Go.RowKit Go.Maps

attribute [local go_sem] Oper.semAt_some

/-- the greatest along parents -/
def maxD (f : Int → Int) : List Int → Int → Int
  | [], s => s
  | p :: r, s => maxD f r (if s < f p then f p else s)
def depL : List (Int × List Int) → (Int → Int) → (Int → Int)
  | [], f => f
  | m :: r, f => depL r (setG f m.1 (maxD f m.2 0 + 1))
def depthG (os : List Ob) (l : List Int) (b : Int) : Int := depL (pairsO os l) (fun _ => 0) b
def InD (f : Int → Int) (k : Int) : Prop := ∀ x, 0 ≤ f x ∧ f x ≤ k
theorem InD.set {f : Int → Int} {k : Int} (hf : InD f k) (x v : Int) (h : 0 ≤ v ∧ v ≤ k) : InD (setG f x (v + 1)) (k + 1) := fun y => by
  unfold setG
  have := hf y
  split <;> omega
theorem depL_drop (l : List (Int × List Int)) (k : Nat) (m : Int × List Int) (f : Int → Int) (h : l[k]? = some m) : depL (l.drop k) f = depL (l.drop (k + 1)) (setG f m.1 (maxD f m.2 0 + 1)) := by
  have hk := (List.getElem?_eq_some_iff.1 h).1
  rw [List.drop_eq_getElem_cons hk]
  have : l[k] = m := (List.getElem?_eq_some_iff.1 h).2
  rw [this]
  rfl
theorem maxD_drop (f : Int → Int) (l : List Int) (k : Nat) (p : Int) (s : Int) (h : l[k]? = some p) : maxD f (l.drop k) s = maxD f (l.drop (k + 1)) (if s < f p then f p else s) := by
  have hk := (List.getElem?_eq_some_iff.1 h).1
  rw [List.drop_eq_getElem_cons hk]
  have : l[k] = p := (List.getElem?_eq_some_iff.1 h).2
  rw [this]
  rfl
theorem lit_id (W : World) (x : Int) (fz : Nat × Nat) : Ids (W.alloc (.cells #[.int .u64 x] 31 fz)) (some ⟨W.heap.size, 0, none⟩) 1 [x] := by
  have hb := World.alloc_heap_new W (.cells #[.int .u64 x] 31 fz)
  generalize W.alloc (.cells #[.int .u64 x] 31 fz) = W' at hb
  refine ⟨rfl, fun _ => ⟨W.heap.size, 0, rfl, fun i z hi => ?_⟩⟩
  match i, hi with
  | 0, hi => simp at hi; subst hi; simp [World.cell?, hb]
set_option maxRecDepth 100000 in
set_option maxHeartbeats 8000000 in
theorem depth_any (w : World) (s d : Nat) (os : List Ob) (sz : Nat) (cut : Bool) (F : Nat → Prop) (hS : IsSt w s d os sz cut F) (hos : os.length ≤ 65536) (b : Int) (hb : 0 ≤ b ∧ b ≤ 18446744073709551615) :
    Calls Tryz.prog 13 #[.pointer (some ⟨s, 0, none⟩), .int .u64 b] w fun e w' => Below w.heap.size w w' ∧ NOut (ordG os [b] GS.none) (fun l => depthG os l b) e := by
  have hB0 : Below w.heap.size w (w.alloc (.cells #[.int .u64 b] 31)) := (Below.refl _ w).alloc (Nat.le_refl _) _
  have hrd := gread_any (w.alloc (.cells #[.int .u64 b] 31)) s d os sz cut F (hS.below hB0) hos _ 1 1 [b] (lit_id w b _) (fun x hx => by simp at hx; subst hx; exact hb) (Nat.le_refl _) (by omega)
  generalize ordG os [b] GS.none = R at *
  have hC : 1 + 1 + os.length * 10 ≤ 1000000000000 := by omega
  generalize 1 + 1 + os.length * 10 = C at *
  have HB0 : Hid (Below w.heap.size w (w.alloc (.cells #[.int .u64 b] 31))) := hB0
  have HA : Hid (0 ≤ b ∧ b ≤ 18446744073709551615) := hb
  have HC : Hid (C ≤ 1000000000000) := hC
  clear hB0 hS hb hC hos
  cases R with
  | bad er =>
    go_enter Tryz.func13, Tryz.ntmps13
    go_wp2_with (go_at_call 30; refine hrd.mono ?_; clear hrd; rintro e w1 ⟨hB1, he, hne⟩; subst he; have hne2 : (er == 0) = false := beq_eq_false_iff_ne.2 hne; have HB1 : Hid (Below w.heap.size w w1) := HB0.out.trans (hB1.mono (by simp)); clear hB1)
    go_ret2
    exact ⟨HB1.out, rfl, hne⟩
  | ok gs =>
    have hmm := @run_makeMap Tryz.prog
    go_enter Tryz.func13, Tryz.ntmps13
    go_wp2_with (go_at_call 30
                 refine hrd.mono ?_
                 clear hrd
                 rintro e w1 ⟨hB1, h, mb, ov, ms, K, cc, he, hN⟩
                 subst he
                 have HB1 : Hid (Below w.heap.size w w1) := HB0.out.trans (hB1.mono (by simp))
                 have hBm : Below w1.heap.size w1 (w1.alloc (.map #[] 0)) := (Below.refl _ w1).alloc (Nat.le_refl _) _
                 have hN2 := hN.below hBm
                 have c2 := hN2.H.c2
                 obtain ⟨oa, oc, hov, _⟩ := row_shapeN hN2.H.row
                 subst hov
                 have H2 : Hid (HNew (w.alloc (.cells #[.int .u64 b] 31)) (w1.alloc (.map #[] 0)) h s os gs C mb (.slice oa ms.length oc) ms K cc ∧ BnAt (w1.alloc (.map #[] 0)) w1.heap.size (fun _ => 0) 0 ∧ Below w.heap.size w (w1.alloc (.map #[] 0)) ∧ (∀ k, K k → k < w1.heap.size) ∧ w1.heap.size < (w1.alloc (.map #[] 0)).heap.size ∧ (∀ g, (Value.slice oa ms.length oc).ownBlock = some g → g < w1.heap.size)) := ⟨hN2, BnAt.new w1, HB1.out.trans (hBm.mono HB1.out.size), hN.H.klt, by simp, fun g hg => (hN.H.row.lt g hg).2⟩
                 clear hB1 hN hN2 hBm
                 generalize hML : ms.length = ML at *
                 have HML : Hid (ms.length = ML) := hML
                 clear hML)
    generalize HWW : w1.alloc (.map #[] 0) = w2 at *
    clear hmm c2 HWW
    obtain ⟨RF, hRF⟩ : ∃ RF, RF = depL (pairsO os gs.ord) (fun _ => 0) := ⟨_, rfl⟩
    have HRF : Hid (depthG os gs.ord b = RF b) := by rw [hRF]; rfl
    have HP : Hid (ms.map Mb.pair = pairsO os gs.ord) := H2.out.1.pairs
    have HR0 : Hid (RF = depL ((ms.map Mb.pair).drop 0) (fun _ => 0)) := by rw [HP.out]; exact hRF
    clear hRF
    have HML2 : Hid (ML ≤ 1000000000000) := by have h1 := H2.out.1.mc; have h2 := HC.out; have h3 := HML.out; show _ ≤ _; omega
    go_loopw [30] (fun i wr => ∃ (k : Nat) (f : Int → Int), k ≤ ML ∧ i = .int .i64 (k : Int) ∧ Hid (RF = depL ((ms.map Mb.pair).drop k) f ∧ InD f (k : Int) ∧ BnAt wr w1.heap.size f k ∧ Turn (fun z => z = w1.heap.size) w2 wr)) (fun i _ => ML - (intOf i).toNat)
    case atStart => exact ⟨0, _, Nat.zero_le _, rfl, HR0.out, (fun _ => ⟨by simp, by simp⟩), H2.out.2.1, Turn.refl _ _⟩
    case round =>
      clear HR0
      obtain ⟨k, f, hk, rfl, H⟩ := hrel
      obtain ⟨hR, hf, hbn, hT⟩ := H.out
      clear H
      by_cases hlt : k < ML
      · obtain ⟨m, hx⟩ : ∃ m, ms[k]? = some m := ⟨_, List.getElem?_eq_getElem (by have := HML.out; omega)⟩
        have hmo := H2.out.1.H.mem m (List.mem_of_getElem? hx)
        have hmm := row_mems (c := oc) (by have := H2.out.1.H.row; rw [HML.out] at this; exact this) HML.out
        obtain ⟨b1, o1, hoa, hc1⟩ := hmm.2 (by omega)
        subst hoa
        obtain ⟨t0, t1, t2, t3, t4, t5⟩ := hc1 k m hx
        have hnb : b1 ≠ w1.heap.size := fun e => by have := H2.out.2.2.2.2.2 b1 rfl; omega
        have q0 := hT.cell t0 hnb
        have q1 := hT.cell t1 hnb
        have q2 := hT.cell t2 hnb
        have q3 := hT.cell t3 hnb
        have q4 := hT.cell t4 hnb
        have q5 := hT.cell t5 hnb
        have hkk : ∀ z, K z → wr.heap[z]? = w2.heap[z]? := fun z hz => hT.block z (H2.out.1.H.klt z hz) (fun e => by have := H2.out.2.2.2.1 z hz; omega)
        have hmo2 := hmo.kept hkk
        have hp0 : (ms.map Mb.pair)[k]? = some (m.id, m.ps) := by rw [List.getElem?_map, hx]; rfl
        have hR2 := hR.trans (depL_drop _ k _ f hp0)
        obtain ⟨hm0, hm1⟩ := hmo2.rng
        have hmp := hmo2.pars
        have hids := hmo2.par
        have hmln := hmo2.len
        obtain ⟨mid, mt, mpa, mpn, mpc, mau, md, mtx, mps⟩ := m
        simp only at q0 q1 q2 q3 q4 q5 hR2 hm0 hm1 hmp hids hmln
        have hBa : Below wr.heap.size wr (wr.alloc (.cells #[.int .u64 mid, .int .u64 mt, .slice mpa mpn mpc, .string mau, .int .i64 md, .string mtx] 86)) := (Below.refl _ wr).alloc (Nat.le_refl _) _
        have hbl := hbn.lt
        have hbnA : BnAt (wr.alloc (.cells #[.int .u64 mid, .int .u64 mt, .slice mpa mpn mpc, .string mau, .int .i64 md, .string mtx] 86)) w1.heap.size f k := hbn.kept (hBa.block _ hbl)
        have hidA := (hids.kept fun z hz => hBa.block z (Nat.lt_of_lt_of_le (H2.out.1.H.klt z hz) hT.size)).get
        have hTA : Turn (fun z => z = w1.heap.size) w2 (wr.alloc (.cells #[.int .u64 mid, .int .u64 mt, .slice mpa mpn mpc, .string mau, .int .i64 md, .string mtx] 86)) := hT.trans (Turn.of_below (fun _ => False) hBa) (fun _ _ e => e.elim)
        have d0 : (wr.alloc (.cells #[.int .u64 mid, .int .u64 mt, .slice mpa mpn mpc, .string mau, .int .i64 md, .string mtx] 86)).cell? ⟨wr.heap.size, 0, none⟩ = some (.int .u64 mid) := by simp only [World.cell?, World.alloc_heap_new]; rfl
        have d2 : (wr.alloc (.cells #[.int .u64 mid, .int .u64 mt, .slice mpa mpn mpc, .string mau, .int .i64 md, .string mtx] 86)).cell? ⟨wr.heap.size, 2, none⟩ = some (.slice mpa mpn mpc) := by simp only [World.cell?, World.alloc_heap_new]; rfl
        have hI1 := hidA.1
        have hb1 : mpn ≤ 8 := hmln.2
        have i2 : (k : Int) < (ML : Int) := by omega
        have i3 : ¬ ML ≤ k := by omega
        have i9 : (ML : Int) ≤ 9223372036854775807 := by have := HML2.out; omega
        have HW : Hid (RF = depL ((ms.map Mb.pair).drop (k + 1)) (setG f mid (maxD f mps 0 + 1)) ∧ InD f (k : Int) ∧ BnAt (wr.alloc (.cells #[.int .u64 mid, .int .u64 mt, .slice mpa mpn mpc, .string mau, .int .i64 md, .string mtx] 86)) w1.heap.size f k ∧ Turn (fun z => z = w1.heap.size) w2 (wr.alloc (.cells #[.int .u64 mid, .int .u64 mt, .slice mpa mpn mpc, .string mau, .int .i64 md, .string mtx] 86)) ∧ (∀ x ∈ mps, 0 ≤ x ∧ x ≤ 18446744073709551615) ∧ Ids (wr.alloc (.cells #[.int .u64 mid, .int .u64 mt, .slice mpa mpn mpc, .string mau, .int .i64 md, .string mtx] 86)) mpa mpn mps) := ⟨hR2, hf, hbnA, hTA, hmp, hidA⟩
        clear hR hf hbn hT hx hmo hmm hc1 t0 t1 t2 t3 t4 t5 hkk hmo2 hp0 hR2 hmp hids hBa hbl hbnA hTA hidA hmln
        go_wp2
        go_loopw [11, 38] (fun v i wy => ∃ (j : Nat) (sm : Int), j ≤ mpn ∧ i = .int .i64 (j : Int) ∧ v = .int .i64 sm ∧ wy = (wr.alloc (.cells #[.int .u64 mid, .int .u64 mt, .slice mpa mpn mpc, .string mau, .int .i64 md, .string mtx] 86)) ∧ Hid (maxD f mps 0 = maxD f (mps.drop j) sm ∧ 0 ≤ sm ∧ sm ≤ (k : Int))) (fun _ i _ => mpn - (intOf i).toNat)
        case atStart => exact ⟨0, 0, Nat.zero_le _, rfl, rfl, rfl, rfl, by omega, by omega⟩
        case round =>
          obtain ⟨j, sm, hj, rfl, rfl, hwy, HS⟩ := hrel
          subst hwy
          obtain ⟨hs1, hs2, hs3⟩ := HS.out
          clear HS
          by_cases hlj : j < mpn
          · obtain ⟨p, hp⟩ : ∃ p, mps[j]? = some p := ⟨_, List.getElem?_eq_getElem (by omega)⟩
            obtain ⟨b2, o2, hpa, hc2⟩ := HW.out.2.2.2.2.2.2 (by omega)
            subst hpa
            have q6 := hc2 j p hp
            obtain ⟨hp0, hp1⟩ := HW.out.2.2.2.2.1 p (List.mem_of_getElem? hp)
            have hl1 := HW.out.2.2.1.look p hp0 hp1 _ rfl
            obtain ⟨hfp0, hfp1⟩ := HW.out.2.1 p
            have hs4 := hs1.trans (maxD_drop f mps j p sm hp)
            have j2 : (j : Int) < (mpn : Int) := by omega
            have j3 : ¬ mpn ≤ j := by omega
            generalize f p = fp at *
            have HKL : Hid (k < ML) := hlt
            by_cases hmin : sm < fp
            · rw [if_pos hmin] at hs4
              have HS5 : Hid (maxD f mps 0 = maxD f (mps.drop (j + 1)) fp ∧ 0 ≤ fp ∧ fp ≤ (k : Int)) := ⟨hs4, by omega, by omega⟩
              have a5 : max sm fp = fp := by omega
              have a6 : ¬ fp ≤ sm := by omega
              have a7 : sm ≤ fp := by omega
              clear hs1 hs2 hs3 hs4 hc2 hp hfp0 hfp1 hp0 hp1
              go_wp2
              go_roundw
              case rel => exact ⟨j + 1, fp, by omega, by simp, by first | rfl | simp [a5], by trivial, HS5.out⟩
              case measure => simp [intOf]; omega
            · rw [if_neg hmin] at hs4
              have HS5 : Hid (maxD f mps 0 = maxD f (mps.drop (j + 1)) sm ∧ 0 ≤ sm ∧ sm ≤ (k : Int)) := ⟨hs4, hs2, hs3⟩
              have a5 : max sm fp = sm := by omega
              have a6 : fp ≤ sm := by omega
              clear hs1 hs2 hs3 hs4 hc2 hp hfp0 hfp1 hp0 hp1
              go_wp2
              go_roundw
              case rel => exact ⟨j + 1, sm, by omega, by simp, by first | rfl | simp [a5], by trivial, HS5.out⟩
              case measure => simp [intOf]; omega
          · obtain rfl : j = mpn := by omega
            have j2 : ¬ (j : Int) < (j : Int) := by omega
            have e0 : mps.drop j = [] := List.drop_of_length_le (by omega)
            rw [e0] at hs1
            obtain ⟨h1, h2, h3, h4, _⟩ := HW.out
            obtain ⟨w3, hupd, hbn3, hg3⟩ := h3.put mid hm0 hm1 (by have := HML2.out; unfold maxLen; omega) (sm + 1)
            have HN : Hid (RF = depL ((ms.map Mb.pair).drop (k + 1)) (setG f mid (sm + 1)) ∧ InD (setG f mid (sm + 1)) ((k + 1 : Nat) : Int) ∧ BnAt w3 w1.heap.size (setG f mid (sm + 1)) (k + 1) ∧ Turn (fun z => z = w1.heap.size) w2 w3) := by
              refine ⟨?_, by have := h2.set mid sm ⟨hs2, hs3⟩; simpa using this, hbn3, h4.trans (Turn.of_grownBy (Fp := fun z => z = w1.heap.size) hg3 (fun k hk => .inl (by cases hk; rfl))) (fun _ _ e => e)⟩
              rw [hs1] at h1
              exact h1
            have a1 : -9223372036854775808 ≤ sm + 1 := by omega
            have a2 : sm + 1 ≤ 9223372036854775807 := by have := HML2.out; omega
            clear h1 h2 h3 h4 hs1 hs2 hs3 hbn3 hg3
            go_wp2
            go_roundw
            case rel => exact ⟨k + 1, _, by omega, by simp, HN.out⟩
            case measure => simp [intOf]; omega
      · obtain rfl : k = ML := by omega
        have i2 : ¬ (k : Int) < (k : Int) := by omega
        have e0 : (ms.map Mb.pair).drop k = [] := List.drop_of_length_le (by rw [List.length_map, HML.out]; exact Nat.le_refl _)
        rw [e0] at hR
        have hlk := hbn.look b HA.out.1 HA.out.2 wr rfl
        have HZ : Hid (depthG os gs.ord b = f b) := by rw [HRF.out, hR]; rfl
        have HB9 : Hid (Below w.heap.size w wr) := H2.out.2.2.1.trans (hT.below H2.out.2.2.1.size (fun z hz => by rw [hz]; exact HB1.out.size))
        generalize f b = fb at *
        clear hR hf hbn hT
        go_wp2
        go_ret2
        refine ⟨HB9.out, ?_⟩
        show _ = Ending.returned (.tuple #[.int .i64 (depthG os gs.ord b), .int .i64 0])
        rw [HZ.out]
        rfl

end Go.Proofs.YtojpbemfbjkjjaaGreat

/- Ways and depths along an order, plain: each commit's number out of those of its parents; ancestors. -/
namespace Go.Proofs.YtojpbemfbjkjjaaGreat
open Go.RowKit Go.Maps

def psO (os : List Ob) (x : Int) : List Int := (parsO os x).getD []
theorem waysL_snoc : ∀ (l : List (Int × List Int)) (m : Int × List Int) (f : Int → Int), waysL (l ++ [m]) f = setG (waysL l f) m.1 (sumW (waysL l f) m.2 (waysL l f m.1))
  | [], m, f => rfl
  | x :: r, m, f => by simp only [List.cons_append, waysL]; exact waysL_snoc r m _
theorem depL_snoc : ∀ (l : List (Int × List Int)) (m : Int × List Int) (f : Int → Int), depL (l ++ [m]) f = setG (depL l f) m.1 (maxD (depL l f) m.2 0 + 1)
  | [], m, f => rfl
  | x :: r, m, f => by simp only [List.cons_append, depL]; exact depL_snoc r m _
theorem sumW_congr {f g : Int → Int} : ∀ (l : List Int) (s : Int), (∀ p ∈ l, f p = g p) → sumW f l s = sumW g l s
  | [], s, _ => rfl
  | p :: r, s, h => by
    simp only [sumW]
    rw [h p (by simp)]
    exact sumW_congr r _ fun q hq => h q (by simp [hq])
theorem maxD_congr {f g : Int → Int} : ∀ (l : List Int) (s : Int), (∀ p ∈ l, f p = g p) → maxD f l s = maxD g l s
  | [], s, _ => rfl
  | p :: r, s, h => by
    simp only [maxD]
    rw [h p (by simp)]
    exact maxD_congr r _ fun q hq => h q (by simp [hq])
theorem nodup_take {l : List Int} (h : l.Nodup) {k : Nat} {x : Int} (hx : l[k]? = some x) : x ∉ l.take k := by
  have hk := (List.getElem?_eq_some_iff.1 hx).1
  have e : l = l.take k ++ l.drop k := (List.take_append_drop k l).symm
  rw [e] at h
  have h3 := (List.nodup_append.1 h).2.2
  intro hm
  refine h3 x hm x ?_ rfl
  rw [List.drop_eq_getElem_cons hk]
  have : l[k] = x := (List.getElem?_eq_some_iff.1 hx).2
  rw [this]
  simp
theorem mem_take {l : List Int} {j k : Nat} {x : Int} (h : j < k) (hx : l[j]? = some x) : x ∈ l.take k :=
  List.mem_of_getElem? (i := j) (by rw [List.getElem?_take_of_lt h]; exact hx)
theorem nodup_at {l : List Int} (h : l.Nodup) {j k : Nat} {x : Int} (h1 : l[j]? = some x) (h2 : l[k]? = some x) : j = k := by
  rcases Nat.lt_trichotomy j k with e | e | e
  · exact absurd (mem_take e h1) (nodup_take h h2)
  · exact e
  · exact absurd (mem_take e h2) (nodup_take h h1)
/-- each parent stands ahead -/
def Ahead (P : Int → List Int) (l : List Int) : Prop := ∀ (i : Nat) x, l[i]? = some x → ∀ p ∈ P x, ∃ j, j < i ∧ l[j]? = some p
theorem Topo.ahead {os : List Ob} {l : List Int} (h : Topo (parsO os) l) : Ahead (psO os) l := by
  intro i x hx p hp
  obtain ⟨ps, h1, h2⟩ := h i x hx
  unfold psO at hp
  rw [h1] at hp
  exact h2 p hp
/-- a number for each commit, set in the order, each out of its parents' -/
theorem fix_of {P : Int → List Int} {l : List Int} (hn : l.Nodup) (hA : Ahead P l) (G : List Int → Int → Int) (V : (Int → Int) → Int → Int → Int) (f0 : Int → Int) (h0 : G [] = f0)
    (hs : ∀ m x, G (m ++ [x]) = setG (G m) x (V (G m) x (G m x))) (hV : ∀ f g x v, (∀ p ∈ P x, f p = g p) → V f x v = V g x v) :
    (∀ x ∈ l, G l x = V (G l) x (f0 x)) ∧ ∀ x, x ∉ l → G l x = f0 x := by
  have key : ∀ k, k ≤ l.length → (∀ j x, j < k → l[j]? = some x → G (l.take k) x = V (G (l.take k)) x (f0 x)) ∧ ∀ x, x ∉ l.take k → G (l.take k) x = f0 x := by
    intro k
    induction k with
    | zero => intro _; exact ⟨fun j x h => by omega, fun x _ => by simp [h0]⟩
    | succ k ih =>
      intro hk
      obtain ⟨ih1, ih2⟩ := ih (by omega)
      have hk' : k < l.length := by omega
      obtain ⟨y, hy⟩ : ∃ y, l[k]? = some y := ⟨_, List.getElem?_eq_getElem hk'⟩
      have hye : l[k] = y := (List.getElem?_eq_some_iff.1 hy).2
      have hyt := nodup_take hn hy
      rw [List.take_succ_eq_append_getElem hk', hye, hs]
      refine ⟨fun j x hj hx => ?_, fun x hx => ?_⟩
      · have hpar : ∀ p ∈ P x, setG (G (l.take k)) y (V (G (l.take k)) y (G (l.take k) y)) p = G (l.take k) p := by
          intro p hp
          obtain ⟨i, hi, hpi⟩ := hA j x hx p hp
          have hpt := mem_take (show i < k by omega) hpi
          have : p ≠ y := fun e => hyt (e ▸ hpt)
          simp [setG, this]
        rw [hV _ (G (l.take k)) x _ hpar]
        by_cases hjk : j = k
        · subst hjk
          rw [hx] at hy
          obtain rfl := Option.some.inj hy
          simp only [setG, if_pos]
          rw [ih2 _ hyt]
        · have hjk' : j < k := by omega
          have hxt := mem_take hjk' hx
          have : x ≠ y := fun e => hyt (e ▸ hxt)
          simp only [setG, if_neg this]
          exact ih1 j x hjk' hx
      · have h1 : x ∉ l.take k := fun e => hx (by simp [e])
        have h2 : x ≠ y := fun e => hx (by simp [e])
        simp only [setG, if_neg h2]
        exact ih2 x h1
  obtain ⟨h1, h2⟩ := key l.length (Nat.le_refl _)
  rw [List.take_length] at h1 h2
  exact ⟨fun x hx => by
    obtain ⟨j, hj⟩ := List.getElem?_of_mem hx
    exact h1 j x (List.getElem?_eq_some_iff.1 hj).1 hj, h2⟩
theorem ways_fix {os : List Ob} {l : List Int} (hn : l.Nodup) (hA : Ahead (psO os) l) (f0 : Int → Int) :
    (∀ x ∈ l, waysL (pairsO os l) f0 x = sumW (waysL (pairsO os l) f0) (psO os x) (f0 x)) ∧ ∀ x, x ∉ l → waysL (pairsO os l) f0 x = f0 x :=
  fix_of hn hA (fun l => waysL (pairsO os l) f0) (fun f x v => sumW f (psO os x) v) f0 rfl
    (fun m x => by unfold pairsO; rw [List.map_append]; exact waysL_snoc _ _ _) (fun f g x v h => sumW_congr _ _ h)
theorem dep_fix {os : List Ob} {l : List Int} (hn : l.Nodup) (hA : Ahead (psO os) l) :
    (∀ x ∈ l, depL (pairsO os l) (fun _ => 0) x = maxD (depL (pairsO os l) (fun _ => 0)) (psO os x) 0 + 1) ∧ ∀ x, x ∉ l → depL (pairsO os l) (fun _ => 0) x = 0 :=
  fix_of hn hA (fun l => depL (pairsO os l) (fun _ => 0)) (fun f x _ => maxD f (psO os x) 0 + 1) (fun _ => 0) rfl
    (fun m x => by unfold pairsO; rw [List.map_append]; exact depL_snoc _ _ _) (fun f g x v h => by rw [maxD_congr _ _ h])
/-- what each commit says by its parents stands for one thing -/
theorem fix_one {P : Int → List Int} {l : List Int} (hA : Ahead P l) (V : (Int → Int) → Int → Int) (hV : ∀ f g x, (∀ p ∈ P x, f p = g p) → V f x = V g x) {F G : Int → Int} (hF : ∀ x ∈ l, F x = V F x) (hG : ∀ x ∈ l, G x = V G x) : ∀ x ∈ l, F x = G x := by
  have key : ∀ (n i : Nat) (x : Int), i < n → l[i]? = some x → F x = G x := by
    intro n
    induction n with
    | zero => intro i x h; omega
    | succ n ih =>
      intro i x hi hx
      rw [hF x (List.mem_of_getElem? hx), hG x (List.mem_of_getElem? hx)]
      refine hV F G x fun p hp => ?_
      obtain ⟨j, hj, hpj⟩ := hA i x hx p hp
      exact ih j p (by omega) hpj
  intro x hx
  obtain ⟨i, hi⟩ := List.getElem?_of_mem hx
  exact key (i + 1) i x (by omega) hi
theorem sumW_zero {f : Int → Int} : ∀ (l : List Int) (s : Int), (∀ p ∈ l, f p = 0) → s ≤ 4611686018427387904 → sumW f l s = s
  | [], s, _, _ => rfl
  | p :: r, s, h, hs => by
    simp only [sumW]
    rw [h p (by simp), if_pos (by omega), Int.add_zero]
    exact sumW_zero r s (fun q hq => h q (by simp [hq])) hs
theorem InW.ways : ∀ (l : List (Int × List Int)) (f : Int → Int), InW f → InW (waysL l f)
  | [], _, h => h
  | m :: r, _, h => InW.ways r _ (h.set m.1 _ (sumW_in h m.2 _ (h m.1)))
theorem sumW_pos {f : Int → Int} (hf : InW f) : ∀ (l : List Int) (s : Int), 0 ≤ s ∧ s ≤ 4611686018427387904 → (0 < sumW f l s ↔ 0 < s ∨ ∃ p ∈ l, 0 < f p)
  | [], s, _ => by simp [sumW]
  | p :: r, s, h => by
    have hp := hf p
    simp only [sumW]
    rw [sumW_pos hf r _ (by split <;> omega)]
    constructor
    · rintro (h1 | ⟨q, hq, h1⟩)
      · by_cases h2 : 0 < s
        · exact .inl h2
        · refine .inr ⟨p, by simp, ?_⟩
          split at h1 <;> omega
      · exact .inr ⟨q, by simp [hq], h1⟩
    · rintro (h1 | ⟨q, hq, h1⟩)
      · left; split <;> omega
      · rcases List.mem_cons.1 hq with e | e
        · subst e; left; split <;> omega
        · exact .inr ⟨q, e, h1⟩
/-- an ancestor, along parents -/
inductive Anc (P : Int → Option (List Int)) (a : Int) : Int → Prop where
  | refl : Anc P a a
  | step {x p : Int} {ps : List Int} : P x = some ps → p ∈ ps → Anc P a p → Anc P a x
theorem Anc.trans {P : Int → Option (List Int)} {a b c : Int} (h : Anc P a b) (k : Anc P b c) : Anc P a c := by
  induction k with
  | refl => exact h
  | step h1 h2 _ ih => exact .step h1 h2 ih
theorem Anc.at_ {P : Int → Option (List Int)} {l : List Int} (hT : Topo P l) {a x : Int} (h : Anc P a x) : ∀ (i : Nat), l[i]? = some x → ∃ j : Nat, j ≤ i ∧ l[j]? = some a := by
  induction h with
  | refl => intro i hi; exact ⟨i, Nat.le_refl _, hi⟩
  | step h1 h2 _ ih =>
    intro i hi
    obtain ⟨qs, h3, h4⟩ := hT i _ hi
    rw [h1] at h3
    cases h3
    obtain ⟨j, hj, hp⟩ := h4 _ h2
    obtain ⟨m, hm, ha⟩ := ih j hp
    exact ⟨m, by omega, ha⟩
theorem Anc.mem {P : Int → Option (List Int)} {l : List Int} (hT : Topo P l) {a x : Int} (h : Anc P a x) (hx : x ∈ l) : a ∈ l := by
  obtain ⟨i, hi⟩ := List.getElem?_of_mem hx
  obtain ⟨j, _, hj⟩ := h.at_ hT i hi
  exact List.mem_of_getElem? hj
theorem Anc.anti {P : Int → Option (List Int)} {l : List Int} (hT : Topo P l) (hn : l.Nodup) {a b : Int} (h : Anc P a b) (k : Anc P b a) (hb : b ∈ l) : a = b := by
  obtain ⟨i, hi⟩ := List.getElem?_of_mem hb
  obtain ⟨j, hj, ha⟩ := h.at_ hT i hi
  obtain ⟨m, hm, hb'⟩ := k.at_ hT j ha
  have := nodup_at hn hi hb'
  have e : j = i := by omega
  subst e
  rw [hi] at ha
  exact (Option.some.inj ha).symm
/-- ways to a, along an order in which it stands or not -/
theorem ways_doc {os : List Ob} {l : List Int} (hT : Topo (parsO os) l) (hn : l.Nodup) (a : Int) :
    (∀ x ∈ l, waysL (pairsO os l) (setG (fun _ => 0) a 1) x = if x = a then 1 else sumW (waysL (pairsO os l) (setG (fun _ => 0) a 1)) (psO os x) 0) := by
  obtain ⟨h1, _⟩ := ways_fix hn hT.ahead (setG (fun _ => 0) a 1)
  generalize waysL (pairsO os l) (setG (fun _ => 0) a 1) = W at *
  intro x hx
  by_cases e : x = a
  · subst e
    rw [if_pos rfl, h1 x hx]
    obtain ⟨k, hk⟩ := List.getElem?_of_mem hx
    have hz : ∀ (n j : Nat) (y : Int), j < n → j < k → l[j]? = some y → W y = 0 := by
      intro n
      induction n with
      | zero => intro j y h; omega
      | succ n ih =>
        intro j y hj hjk hy
        have hne : y ≠ x := fun e => by
          subst e
          have := nodup_at hn hy hk
          omega
        rw [h1 y (List.mem_of_getElem? hy)]
        have e0 : setG (fun _ => 0) x 1 y = 0 := by simp [setG, hne]
        rw [e0]
        refine sumW_zero _ _ (fun p hp => ?_) (by omega)
        obtain ⟨i, hi, hpi⟩ := hT.ahead j y hy p hp
        exact ih i p (by omega) (by omega) hpi
    have e1 : setG (fun _ => 0) x 1 x = 1 := by simp [setG]
    rw [e1]
    refine sumW_zero _ _ (fun p hp => ?_) (by omega)
    obtain ⟨i, hi, hpi⟩ := hT.ahead k x hk p hp
    exact hz (i + 1) i p (by omega) hi hpi
  · rw [if_neg e, h1 x hx]
    have e0 : setG (fun _ => 0) a 1 x = 0 := by simp [setG, e]
    rw [e0]
theorem ways_anc {os : List Ob} {l : List Int} (hT : Topo (parsO os) l) (hn : l.Nodup) (a : Int) : ∀ x ∈ l, (0 < waysL (pairsO os l) (setG (fun _ => 0) a 1) x ↔ Anc (parsO os) a x) := by
  have h1 := ways_doc hT hn a
  have hW : InW (waysL (pairsO os l) (setG (fun _ => 0) a 1)) := InW.ways _ _ (fun x => by unfold setG; split <;> simp)
  generalize waysL (pairsO os l) (setG (fun _ => 0) a 1) = W at *
  have f : ∀ (n i : Nat) (x : Int), i < n → l[i]? = some x → 0 < W x → Anc (parsO os) a x := by
    intro n
    induction n with
    | zero => intro i x h; omega
    | succ n ih =>
      intro i x hi hx h0
      rw [h1 x (List.mem_of_getElem? hx)] at h0
      by_cases e : x = a
      · subst e; exact .refl
      · rw [if_neg e] at h0
        rcases (sumW_pos hW _ 0 (by omega)).1 h0 with h | ⟨p, hp, h⟩
        · omega
        · obtain ⟨ps, h3, h4⟩ := hT i x hx
          unfold psO at hp
          rw [h3] at hp
          obtain ⟨j, hj, hpj⟩ := h4 p hp
          exact .step h3 hp (ih j p (by omega) hpj h)
  have b : ∀ x, Anc (parsO os) a x → x ∈ l → 0 < W x := by
    intro x h
    induction h with
    | refl => intro hx; rw [h1 a hx, if_pos rfl]; omega
    | @step x p ps h2 h3 _ ih =>
      intro hx
      rw [h1 x hx]
      by_cases e : x = a
      · rw [if_pos e]; omega
      · rw [if_neg e]
        refine (sumW_pos hW _ 0 (by omega)).2 (.inr ⟨p, by unfold psO; rw [h2]; exact h3, ih ?_⟩)
        obtain ⟨i, hi⟩ := List.getElem?_of_mem hx
        obtain ⟨qs, h4, h5⟩ := hT i x hi
        rw [h2] at h4
        cases h4
        obtain ⟨j, _, hj⟩ := h5 p h3
        exact List.mem_of_getElem? hj
  intro x hx
  obtain ⟨i, hi⟩ := List.getElem?_of_mem hx
  exact ⟨f (i + 1) i x (by omega) hi, fun h => b x h hx⟩
/-- what is gone through is an ancestor -/
theorem goL_anc {P : Int → Option (List Int)} {v : Int → GS → GR} (hv : ∀ x s s', v x s = .ok s' → ∀ y ∈ s'.ord, y ∈ s.ord ∨ Anc P y x) : ∀ (l : List Int) (s s' : GS), goL v l s = .ok s' → ∀ y ∈ s'.ord, y ∈ s.ord ∨ ∃ x ∈ l, Anc P y x
  | [], s, s', h, y, hy => by simp only [goL, GR.ok.injEq] at h; subst h; exact .inl hy
  | x :: r, s, s', h, y, hy => by
    simp only [goL] at h
    cases h1 : v x s with
    | bad e => rw [h1] at h; cases h
    | ok s1 =>
      rw [h1] at h
      rcases goL_anc hv r s1 s' h y hy with h2 | ⟨z, hz, h2⟩
      · rcases hv x s s1 h1 y h2 with h3 | h3
        · exact .inl h3
        · exact .inr ⟨x, by simp, h3⟩
      · exact .inr ⟨z, by simp [hz], h2⟩
theorem visit_anc {P : Int → Option (List Int)} {ge : Int → Int} : ∀ (f : Nat) (x : Int) (s s' : GS), visit P ge f x s = .ok s' → ∀ y ∈ s'.ord, y ∈ s.ord ∨ Anc P y x
  | 0, x, s, s', h => by simp [visit] at h
  | f + 1, x, s, s', h => by
    simp only [visit] at h
    split at h
    · cases h
    · split at h
      · simp only [GR.ok.injEq] at h; subst h; exact fun y hy => .inl hy
      · cases hP : P x with
        | none => rw [hP] at h; cases h
        | some ps =>
          rw [hP] at h
          simp only at h
          cases h1 : goL (visit P ge f) ps (s.opn x) with
          | bad e => rw [h1] at h; cases h
          | ok s1 =>
            rw [h1] at h
            simp only [GR.ok_then, GR.ok.injEq] at h
            subst h
            intro y hy
            simp only [GS.plc, List.mem_append, List.mem_singleton] at hy
            rcases hy with hy | hy
            · rcases goL_anc (visit_anc f) ps _ s1 h1 y hy with h2 | ⟨z, hz, h2⟩
              · exact .inl h2
              · exact .inr (.step hP hz h2)
            · subst hy; exact .inr .refl
theorem ord_anc {os : List Ob} {l : List Int} {gs : GS} (h : ordG os l GS.none = .ok gs) : ∀ y ∈ gs.ord, ∃ x ∈ l, Anc (parsO os) y x := by
  intro y hy
  rcases goL_anc (visit_anc (os.length + 2)) l _ gs h y hy with h1 | h1
  · simp [GS.none] at h1
  · exact h1
theorem ord_inv {os : List Ob} {l : List Int} {gs : GS} (h : ordG os l GS.none = .ok gs) : GInv (parsO os) gs := (btw_sim os l [] gs h).1
/-- heads stand in their order -/
theorem ord_heads {os : List Ob} {l : List Int} {gs : GS} (h : ordG os l GS.none = .ok gs) : ∀ x ∈ l, x ∈ gs.ord := by
  have h0 : goL (visit (parsO os) (errO os) (os.length + 2)) l GS.none = .ok gs := h
  exact (goL_gone (fun x s s' => visit_gone (os.length + 2) x s s') l _ _ (ginv_none (parsO os)) h0).2.1
theorem goL_placed {os : List Ob} : ∀ (l : List Int) (gs : GS), GInv (parsO os) gs → (∀ x ∈ l, x ∈ gs.ord) → ordG os l gs = .ok gs
  | [], gs, _, _ => rfl
  | x :: r, gs, hI, h => by
    have h2 := (hI.two x).2 (h x (by simp))
    have e : visit (parsO os) (errO os) (os.length + 2) x gs = .ok gs := by
      show (if gs.been x = 1 then _ else if gs.been x = 2 then _ else _) = _
      rw [h2]; rfl
    have ih := goL_placed r gs hI (fun y hy => h y (by simp [hy]))
    unfold ordG at ih ⊢
    simp only [goL, e, GR.ok_then]
    exact ih
/-- what stands in an order has an order of its own, within it -/
theorem ord_within {os : List Ob} {l m : List Int} {gs : GS} (h : ordG os l GS.none = .ok gs) (hm : ∀ x ∈ m, x ∈ gs.ord) : ∃ g2, ordG os m GS.none = .ok g2 ∧ ∀ y ∈ g2.ord, y ∈ gs.ord := by
  obtain ⟨hI, ha⟩ := btw_sim os l m gs h
  rw [goL_placed m gs hI hm] at ha
  cases h3 : ordG os m GS.none with
  | bad f => rw [h3] at ha; exact ha.elim
  | ok t =>
    refine ⟨t, rfl, fun y hy => ?_⟩
    obtain ⟨x, hx, h4⟩ := ord_anc h3 y hy
    exact h4.mem hI.topo (hm x hx)
end Go.Proofs.YtojpbemfbjkjjaaGreat

/- A row of ints of the call's own, read and set in place. -/
namespace Go.Proofs.YtojpbemfbjkjjaaGreat
open Go.RowKit Go.Maps

attribute [local go_sem] Oper.semAt_some

theorem infoIntG : (Tryz.prog.info? 3).map (fun i => (i.zero, i.size, i.bytes)) = some (some (.int .i64 0), 1, 8) := by kernel_rfl
theorem below_drewG {n0 : Nat} {w W : World} (h : Below n0 w W) : Below n0 w W.drew := ⟨h.os, h.tape, h.output, h.size, h.block⟩
/-- a row of ints in block g, new since w0 -/
structure IR (w0 w : World) (g : Nat) (ds : List Int) : Prop where
  bel : Below w0.heap.size w0 w
  new : w0.heap.size ≤ g
  row : w.heap[g]? = some (.cells (ds.map (Value.int .i64)).toArray 3 (0, 0))
theorem IR.cell {w0 w : World} {g : Nat} {ds : List Int} (h : IR w0 w g ds) {k : Nat} {v : Int} (hk : ds[k]? = some v) : w.cell? ⟨g, k, none⟩ = some (.int .i64 v) ∧ w.frozen? ⟨g, k, none⟩ = false := by
  refine ⟨?_, by simp [World.frozen?, h.row]⟩
  simp only [World.cell?, h.row]
  rw [← Array.getElem?_toList]
  simp [hk]
theorem IR.drew {w0 w : World} {g : Nat} {ds : List Int} (h : IR w0 w g ds) : IR w0 w.drew g ds := ⟨below_drewG h.bel, h.new, h.row⟩
theorem IR.drewN {w0 w : World} {g : Nat} {ds : List Int} (h : IR w0 w g ds) (n : Nat) : IR w0 (w.drewN n) g ds := ⟨below_drewN h.bel n, h.new, h.row⟩
theorem IR.set {w0 w : World} {g : Nat} {ds : List Int} (h : IR w0 w g ds) (k : Nat) (v : Int) : IR w0 (w.setCell ⟨g, k, none⟩ (.int .i64 v)) g (ds.set k v) := by
  refine ⟨h.bel.trans ((turn_setCell w g k (.int .i64 v)).below h.bel.size (fun z hz => by have := h.new; omega)), h.new, ?_⟩
  simp [World.setCell, Array.getElem?_modify, h.row, List.map_set]
theorem IR.ids {w0 w : World} {g : Nat} {ds : List Int} (h : IR w0 w g ds) {a : Option Addr} {n : Nat} {l : List Int} (hi : Ids w0 a n l) : Ids w a n l := hi.kept h.bel
theorem made_ints (n : Nat) : madeCells (Value.int .i64 0).cells n = ((List.replicate n (0 : Int)).map (Value.int .i64)).toArray := by
  apply Array.toList_inj.1
  simp [madeCells, Value.cells, Nat.mod_one, List.map_const']
/-- make of ints -/
theorem wpList_make_ints (w : World) {ops : Array Oper} {rest : List Oper} {o : Oper} {a : Act} {Q : Exit → Act → World → Prop}
    (hg : o.guard = none) (l c : Operand) (hop : o.op = Op.makeSlice 29 l c)
    (kl kc : IntKind) (n : Nat) (L C : Int) (hl : a.eval l = .int kl L) (hc : a.eval c = .int kc C) (hL : L = (n : Int)) (hC : C = (n : Int)) (b2 : n ≤ 1000000)
    (hK : ∀ w1, IR w w1 w.heap.size (List.replicate n 0) → wpList Tryz.prog ops Q rest (a.put o.dst (.slice (some ⟨w.heap.size, 0, none⟩) n n)) w1) :
    wpList Tryz.prog ops Q (o :: rest) a w := by
  obtain ⟨i0, hi, hz0, hz1, hz2⟩ := info_parts infoIntG
  refine wpList_plain hg fun K hK' => ?_
  have hrun := run_make (P := Tryz.prog) w 29 3 i0 (.int .i64 0) Tryz.underlying29 hi hz0 kl kc L C (by omega) (by omega) (by rw [hz2]; omega) (by omega)
  subst hL
  subst hC
  simp only [hz1, Nat.mul_one, Int.toNat_natCast] at hrun
  unfold Oper.wp
  simp [execOp, hop, hl, hc, hrun, Result.andThen]
  refine hK' _ _ (hK _ ⟨(Below.refl _ _).alloc (Nat.le_refl _) _, Nat.le_refl _, ?_⟩)
  rw [heap_alloc_new, made_ints]
end Go.Proofs.YtojpbemfbjkjjaaGreat
