import Derived.Test.YtojpbemfbjkjjaaGreatL41
import Derived.Deep.RegionHeld3
/- The walk of the document's Depth. -/
namespace Go.Proofs.YtojpbemfbjkjjaaGreat
open Go.RowKit Go.Maps

attribute [local go_sem] Oper.semAt_some

/-- the greatest among those of a list that stand among ps -/
def runM (V : Int → Int) (ps : List Int) : List Int → Int → Int
  | [], s => s
  | x :: r, s => runM V ps r (if ps.contains x = true ∧ s < V x then V x else s)
theorem runM_drop (V : Int → Int) (ps l : List Int) (k : Nat) (x s : Int) (h : l[k]? = some x) : runM V ps (l.drop k) s = runM V ps (l.drop (k + 1)) (if ps.contains x = true ∧ s < V x then V x else s) := by
  have hk := (List.getElem?_eq_some_iff.1 h).1
  rw [List.drop_eq_getElem_cons hk]
  have : l[k] = x := (List.getElem?_eq_some_iff.1 h).2
  rw [this]
  rfl
theorem runM_ge {V : Int → Int} {ps : List Int} : ∀ (l : List Int) (s : Int), s ≤ runM V ps l s ∧ ∀ x ∈ l, x ∈ ps → V x ≤ runM V ps l s
  | [], s => by simp [runM]
  | y :: r, s => by
    simp only [runM]
    obtain ⟨h1, h2⟩ := runM_ge (V := V) (ps := ps) r (if ps.contains y = true ∧ s < V y then V y else s)
    refine ⟨?_, fun x hx hp => ?_⟩
    · refine Int.le_trans ?_ h1
      split
      · omega
      · omega
    · rcases List.mem_cons.1 hx with e | e
      · subst e
        refine Int.le_trans ?_ h1
        have hc : ps.contains x = true := by simpa using hp
        split
        · omega
        · rename_i hh
          have : ¬ s < V x := fun e => hh ⟨hc, e⟩
          omega
      · exact h2 x e hp
theorem runM_is {V : Int → Int} {ps : List Int} : ∀ (l : List Int) (s : Int), runM V ps l s = s ∨ ∃ x ∈ ps, runM V ps l s = V x
  | [], s => .inl rfl
  | y :: r, s => by
    simp only [runM]
    rcases runM_is (V := V) (ps := ps) r (if ps.contains y = true ∧ s < V y then V y else s) with h | h
    · rw [h]
      split
      · rename_i hh
        exact .inr ⟨y, by simpa using hh.1, rfl⟩
      · exact .inl rfl
    · exact .inr h
theorem maxD_ge {f : Int → Int} : ∀ (l : List Int) (s : Int), s ≤ maxD f l s ∧ ∀ p ∈ l, f p ≤ maxD f l s
  | [], s => by simp [maxD]
  | q :: r, s => by
    simp only [maxD]
    obtain ⟨h1, h2⟩ := maxD_ge (f := f) r (if s < f q then f q else s)
    refine ⟨?_, fun p hp => ?_⟩
    · refine Int.le_trans ?_ h1; split <;> omega
    · rcases List.mem_cons.1 hp with e | e
      · subst e; refine Int.le_trans ?_ h1; split <;> omega
      · exact h2 p e
theorem maxD_is {f : Int → Int} : ∀ (l : List Int) (s : Int), maxD f l s = s ∨ ∃ p ∈ l, maxD f l s = f p
  | [], s => .inl rfl
  | q :: r, s => by
    simp only [maxD]
    rcases maxD_is (f := f) r (if s < f q then f q else s) with h | ⟨p, hp, h⟩
    · rw [h]
      split
      · exact .inr ⟨q, by simp, rfl⟩
      · exact .inl rfl
    · exact .inr ⟨p, by simp [hp], h⟩
theorem runM_max {V : Int → Int} {ps L : List Int} (hp : ∀ p ∈ ps, p ∈ L) : runM V ps L 0 = maxD V ps 0 := by
  obtain ⟨a1, a2⟩ := runM_ge (V := V) (ps := ps) L 0
  obtain ⟨b1, b2⟩ := maxD_ge (f := V) ps 0
  have h1 : runM V ps L 0 ≤ maxD V ps 0 := by
    rcases runM_is (V := V) (ps := ps) L 0 with h | ⟨x, hx, h⟩
    · omega
    · rw [h]; exact b2 x hx
  have h2 : maxD V ps 0 ≤ runM V ps L 0 := by
    rcases maxD_is (f := V) ps 0 with h | ⟨x, hx, h⟩
    · omega
    · rw [h]; exact a2 x (hp x hx) hx
  omega
/-- a row of numbers along an order: told up to i, m at i, 0 behind -/
structure DR (V : Int → Int) (ord : List Int) (i : Nat) (m : Int) (ds : List Int) : Prop where
  len : ds.length = ord.length
  pre : ∀ (j : Nat) x, j < i → ord[j]? = some x → ds[j]? = some (V x)
  at_ : i < ord.length → ds[i]? = some m
  post : ∀ j, i < j → j < ord.length → ds[j]? = some 0
theorem DR.set {V : Int → Int} {ord : List Int} {i : Nat} {m : Int} {ds : List Int} (h : DR V ord i m ds) (v : Int) : DR V ord i v (ds.set i v) := by
  refine ⟨by simp [h.len], fun j x hj hx => ?_, fun hi => ?_, fun j h1 h2 => ?_⟩
  · rw [List.getElem?_set_ne (by omega)]; exact h.pre j x hj hx
  · rw [List.getElem?_set_self (by rw [h.len]; exact hi)]
  · rw [List.getElem?_set_ne (by omega)]; exact h.post j h1 h2
theorem DR.next {V : Int → Int} {ord : List Int} {i : Nat} {x : Int} {ds : List Int} (hx : ord[i]? = some x) (h : DR V ord i (V x) ds) : DR V ord (i + 1) 0 ds := by
  have hi := (List.getElem?_eq_some_iff.1 hx).1
  refine ⟨h.len, fun j y hj hy => ?_, fun h1 => h.post (i + 1) (by omega) h1, fun j h1 h2 => h.post j (by omega) h2⟩
  by_cases e : j = i
  · subst e; rw [hx] at hy; cases hy; exact h.at_ hi
  · exact h.pre j y (by omega) hy
theorem DR.start (V : Int → Int) (ord : List Int) (n : Nat) (hn : ord.length = n) : DR V ord 0 0 (List.replicate n 0) := by
  subst hn
  exact ⟨by simp, fun j x h => by omega, fun h => by simp [h], fun j _ h => by simp [h]⟩
set_option maxRecDepth 100000 in
set_option maxHeartbeats 8000000 in
theorem depth11_any (w : World) (na : Option Addr) (N nc : Nat) (ns : List Nd) (hE : NEnv w na N ns) (oa : Option Addr) (n oc : Nat) (ord : List Int) (hO : Ids w oa n ord) (hn : n ≤ 1000) (V : Int → Int)
    (hV : ∀ (i : Nat) x, ord[i]? = some x → ∃ ps, parsN ns x = some ps ∧ V x = maxD V ps 0 + 1 ∧ ∀ p ∈ ps, ∃ j, j < i ∧ ord[j]? = some p) (hB : ∀ x, 0 ≤ V x ∧ V x ≤ 100000) (c : Int) (hc : c ∈ ord) :
    Calls Tryz.prog 14 #[.slice na N nc, .slice oa n oc, .int .u64 c] w fun e w' => e = .returned (.int .i64 (V c)) ∧ Below w.heap.size w w' := by
  have hll := hO.1
  have HEv : Hid (NEnv w na N ns ∧ Ids w oa n ord ∧ (∀ (i : Nat) x, ord[i]? = some x → ∃ ps, parsN ns x = some ps ∧ V x = maxD V ps 0 + 1 ∧ ∀ p ∈ ps, ∃ j, j < i ∧ ord[j]? = some p) ∧ (∀ x, 0 ≤ V x ∧ V x ≤ 100000) ∧ c ∈ ord ∧ ord.length = n) := ⟨hE, hO, hV, hB, hc, hll⟩
  clear hE hO hV hB hc hll
  have i9 : (n : Int) ≤ 9223372036854775807 := by omega
  go_enter Tryz.func14, Tryz.ntmps14
  go_wp2_with (at_make; refine wpList_make_ints _ rfl _ _ rfl _ _ n _ _ rfl rfl (by simp) (by simp) (by omega) ?_; intro w1 hr1)
  obtain ⟨g, hg⟩ : ∃ g, w.heap.size = g := ⟨_, rfl⟩
  have HST : Hid (∃ ds, IR w w1 g ds ∧ DR V ord 0 0 ds) := ⟨_, by rw [← hg]; exact hr1, DR.start V ord n HEv.out.2.2.2.2.2⟩
  have HW0 : Hid (w.heap.size = g) := hg
  rw [hg]
  clear hr1 hg
  go_loopg [8] n (fun gg v wr => ∃ i : Nat, i + gg = n ∧ i ≤ n ∧ v = .int .i64 (i : Int) ∧ Hid ((∃ ds, IR w wr g ds ∧ DR V ord i 0 ds) ∧ c ∉ ord.take i))
  case atStart => exact ⟨0, by omega, Nat.zero_le _, rfl, HST.out, by simp⟩
  case round =>
    clear HST
    obtain ⟨i, hig, hi, rfl, H⟩ := hrel
    cases gk with
    | zero =>
      obtain rfl : i = n := by omega
      exfalso
      have h1 := H.out.2
      rw [List.take_of_length_le (by rw [HEv.out.2.2.2.2.2]; exact Nat.le_refl _)] at h1
      exact h1 HEv.out.2.2.2.2.1
    | succ go =>
      have hlt : i < n := by omega
      obtain ⟨x, hx⟩ : ∃ x, ord[i]? = some x := ⟨_, List.getElem?_eq_getElem (by rw [HEv.out.2.2.2.2.2]; exact hlt)⟩
      obtain ⟨ps, hps, hVx, hpa⟩ := HEv.out.2.2.1 i x hx
      obtain ⟨ds, hIR, hDR⟩ := H.out.1
      obtain ⟨hNd, hNp⟩ := HEv.out.1.at_ wr hIR.bel
      obtain ⟨b1, o1, hoa, hc1⟩ := (hIR.ids HEv.out.2.1).2 (by omega)
      have q0 := hc1 i x hx
      have hpar := parents11_any wr na N nc ns hNd (by have := HEv.out.1.len; omega) x ps hps
      have i2 : (i : Int) < (n : Int) := by omega
      have i3 : ¬ n ≤ i := by omega
      have HX : Hid (ord[i]? = some x ∧ parsN ns x = some ps ∧ V x = maxD V ps 0 + 1 ∧ (∀ p ∈ ps, p ∈ ord.take i) ∧ ps.length ≤ 1000) := ⟨hx, hps, hVx, fun p hp => by obtain ⟨j, hj, hpj⟩ := hpa p hp; exact mem_take hj hpj, by
        have := HEv.out.1.par
        obtain ⟨j, y, _, hy, h1, _⟩ := fiN_some ns x 0 (fun h => by have := (fiN_none ns x 0 h).1; rw [hps] at this; cases this)
        have h2 := this y (List.mem_of_getElem? hy)
        have h3 := (hNp y (List.mem_of_getElem? hy)).1
        rw [hps] at h1
        split at h1
        · cases h1
        · cases h1; omega⟩
      have HD : Hid (∃ ds, IR w wr g ds ∧ DR V ord i 0 ds) := ⟨ds, hIR, hDR⟩
      have HC : Hid (c ∉ ord.take i) := H.out.2
      subst hoa
      clear hc1 hx hps hVx hpa hNd hNp H hIR hDR
      go_wp2_with fail
      refine hpar.mono ?_
      clear hpar
      rintro e w2 ⟨nd, hnd, hnp, rfl, h1⟩
      subst h1
      obtain ⟨pa, hpa⟩ : ∃ pa, nd.pa = pa := ⟨_, rfl⟩
      obtain ⟨pn, hpn⟩ : ∃ pn, nd.pn = pn := ⟨_, rfl⟩
      obtain ⟨pc, hpc⟩ : ∃ pc, nd.pc = pc := ⟨_, rfl⟩
      rw [hpa, hpn, hpc]
      have HIp : Hid (∀ W, Below w.heap.size w W → Ids W pa pn ps) := fun W hW => by rw [← hpa, ← hpn, ← hnp]; exact (HEv.out.1.at_ W hW).2 nd hnd
      clear hpa hpn hpc hnd hnp
      go_wp2_with fail
      have HS : Hid (∃ ds m, IR w w2 g ds ∧ DR V ord i m ds ∧ 0 ≤ m ∧ m ≤ 100000 ∧ runM V ps (ord.take i) 0 = runM V ps ((ord.take i).drop 0) m) := by
        obtain ⟨ds, h1, h2⟩ := HD.out
        exact ⟨ds, 0, h1, h2, by omega, by omega, rfl⟩
      clear HD q0
      go_loopg [10] i (fun gg v wr => ∃ k : Nat, k + gg = i ∧ k ≤ i ∧ v = .int .i64 (k : Int) ∧ Hid (∃ ds m, IR w wr g ds ∧ DR V ord i m ds ∧ 0 ≤ m ∧ m ≤ 100000 ∧ runM V ps (ord.take i) 0 = runM V ps ((ord.take i).drop k) m))
      case atStart => exact ⟨0, by omega, Nat.zero_le _, rfl, HS.out⟩
      case round =>
        clear HS
        obtain ⟨k, hkg, hk, rfl, H⟩ := hrel
        obtain ⟨ds, m, hIR, hDR, hm0, hm1, hrun⟩ := H.out
        clear H
        have hil : i < ord.length := by rw [HEv.out.2.2.2.2.2]; exact hlt
        obtain ⟨ci, fi⟩ := hIR.cell (hDR.at_ hil)
        cases gk with
        | succ gi =>
          have hil2 : ¬ ord.length ≤ i := by omega
          have hki : k < i := by omega
          obtain ⟨y, hy⟩ : ∃ y, ord[k]? = some y := ⟨_, List.getElem?_eq_getElem (by omega)⟩
          obtain ⟨ck, fk⟩ := hIR.cell (hDR.pre k y hki hy)
          obtain ⟨_, _, ee, hc1⟩ := (hIR.ids HEv.out.2.1).2 (by omega)
          cases ee
          have q1 := hc1 k y hy
          have hst := runM_drop V ps (ord.take i) k y m (by rw [List.getElem?_take_of_lt hki]; exact hy)
          have hIds := HIp.out wr hIR.bel
          have hhs : ∀ W, Below w.heap.size w W → Calls Tryz.prog 15 #[.slice pa pn pc, .int .u64 y] W fun e w' => e = .returned (.bool (ps.contains y)) ∧ w' = W := fun W hW => has11_any W pa pn pc ps (HIp.out W hW) (by have h1 := HX.out.2.2.2.2; have h2 := hIds.1; omega) y
          have HBW : Hid (Below w.heap.size w wr) := hIR.bel
          have hVy := HEv.out.2.2.2.1 y
          have i4 : (k : Int) < (i : Int) := by omega
          have i5 : (k : Int) < (n : Int) := by omega
          have i6 : ¬ n ≤ k := by omega
          have HJ : Hid (k + 1 + gi = i ∧ k + 1 ≤ i) := ⟨by omega, by omega⟩
          by_cases hcon : ps.contains y = true
          · simp only [hcon] at hhs
            by_cases hgt : m < V y
            · have HN : Hid (∀ nq, ∃ ds2 m2, IR w ((wr.drewN nq).setCell ⟨g, i, none⟩ (.int .i64 (V y))) g ds2 ∧ DR V ord i m2 ds2 ∧ 0 ≤ m2 ∧ m2 ≤ 100000 ∧ runM V ps (ord.take i) 0 = runM V ps ((ord.take i).drop (k + 1)) m2) := by
                rw [if_pos ⟨hcon, hgt⟩] at hst
                exact fun nq => ⟨_, V y, (hIR.drewN nq).set i (V y), hDR.set (V y), hVy.1, hVy.2, hrun.trans hst⟩
              clear hst hrun hIR hDR hIds hc1 hy hcon
              generalize V y = vy at *
              go_wp2_with fail
              go_quiet ((go_at_call 15; refine Calls.quiet_of_same (hhs _ (below_drewN HBW.out _))))
              go_wp2
              go_roundg gi
              case measure => omega
              case rel => exact ⟨k + 1, HJ.out.1, HJ.out.2, by simp, HN.out _⟩
            · have HN : Hid (∀ nq, ∃ ds2 m2, IR w (wr.drewN nq) g ds2 ∧ DR V ord i m2 ds2 ∧ 0 ≤ m2 ∧ m2 ≤ 100000 ∧ runM V ps (ord.take i) 0 = runM V ps ((ord.take i).drop (k + 1)) m2) := by
                rw [if_neg (fun h => hgt h.2)] at hst
                exact fun nq => ⟨_, m, hIR.drewN nq, hDR, hm0, hm1, hrun.trans hst⟩
              clear hst hrun hIR hDR hIds hc1 hy hcon
              generalize V y = vy at *
              go_wp2_with fail
              go_quiet ((go_at_call 15; refine Calls.quiet_of_same (hhs _ (below_drewN HBW.out _))))
              go_wp2
              go_roundg gi
              case measure => omega
              case rel => exact ⟨k + 1, HJ.out.1, HJ.out.2, by simp, HN.out _⟩
          · have hcon2 : ps.contains y = false := by simpa using hcon
            simp only [hcon2] at hhs
            have HN : Hid (∀ nq, ∃ ds2 m2, IR w (wr.drewN nq) g ds2 ∧ DR V ord i m2 ds2 ∧ 0 ≤ m2 ∧ m2 ≤ 100000 ∧ runM V ps (ord.take i) 0 = runM V ps ((ord.take i).drop (k + 1)) m2) := by
              rw [if_neg (fun h => hcon h.1)] at hst
              exact fun nq => ⟨_, m, hIR.drewN nq, hDR, hm0, hm1, hrun.trans hst⟩
            clear hst hrun hIR hDR hIds hc1 hy hcon hcon2
            generalize V y = vy at *
            go_wp2_with fail
            go_quiet ((go_at_call 15; refine Calls.quiet_of_same (hhs _ (below_drewN HBW.out _))))
            go_wp2
            go_roundg gi
            case measure => omega
            case rel => exact ⟨k + 1, HJ.out.1, HJ.out.2, by simp, HN.out _⟩
        | zero =>
          obtain rfl : k = i := by omega
          have i4 : ¬ (k : Int) < (k : Int) := by omega
          have hmx : V x = m + 1 := by
            rw [List.drop_of_length_le (by rw [List.length_take]; omega)] at hrun
            rw [HX.out.2.2.1, ← runM_max HX.out.2.2.2.1, hrun]
            rfl
          have HI2 : Hid (IR w (wr.setCell ⟨g, k, none⟩ (.int .i64 (m + 1))) g (ds.set k (m + 1)) ∧ DR V ord (k + 1) 0 (ds.set k (m + 1))) := ⟨hIR.set k (m + 1), DR.next HX.out.1 (by rw [hmx]; exact hDR.set (m + 1))⟩
          have q0 : wr.cell? ⟨b1, o1 + k, none⟩ = some (.int .u64 x) := by
            obtain ⟨_, _, ee, hc1⟩ := (hIR.ids HEv.out.2.1).2 (by omega)
            cases ee
            exact hc1 k x HX.out.1
          have q1 : (wr.setCell ⟨g, k, none⟩ (.int .i64 (m + 1))).cell? ⟨b1, o1 + k, none⟩ = some (.int .u64 x) := by
            obtain ⟨_, _, ee, hc1⟩ := (HI2.out.1.ids HEv.out.2.1).2 (by omega)
            cases ee
            exact hc1 k x HX.out.1
          have q2 := (HI2.out.1.cell (k := k) (v := m + 1) (by rw [List.getElem?_set_self (by rw [hDR.len]; exact hil)])).1
          have HVX : Hid (V x = m + 1) := hmx
          have HJ : Hid (k + 1 + go = n ∧ k + 1 ≤ n) := ⟨by omega, by omega⟩
          by_cases hxc : x = c
          · subst hxc
            clear hrun hIR hDR hmx
            go_wp2
            go_ret
            exact ⟨congrArg (fun z => Ending.returned (Value.int .i64 z)) HVX.out.symm, HI2.out.1.bel⟩
          · have hxc2 : (x == c) = false := beq_eq_false_iff_ne.2 hxc
            have HCE : Hid (c ∉ ord.take (k + 1)) := by
              intro hm
              have hkl : k < ord.length := hil
              rw [List.take_succ_eq_append_getElem hkl] at hm
              have hxe : ord[k] = x := (List.getElem?_eq_some_iff.1 HX.out.1).2
              rw [hxe] at hm
              rcases List.mem_append.1 hm with h1 | h1
              · exact HC.out h1
              · exact hxc (List.mem_singleton.1 h1).symm
            clear hrun hIR hDR hmx
            go_wp2
            go_roundg go
            case measure => omega
            case rel => exact ⟨k + 1, HJ.out.1, HJ.out.2, by simp, ⟨_, HI2.out⟩, HCE.out⟩
end Go.Proofs.YtojpbemfbjkjjaaGreat

/- The walk of the document's Lines. -/
namespace Go.Proofs.YtojpbemfbjkjjaaGreat
open Go.RowKit Go.Maps

attribute [local go_sem] Oper.semAt_some

/-- ways added up to 2^62 -/
def addW (s v : Int) : Int := s + (if v ≤ 4611686018427387904 - s then v else 4611686018427387904 - s)
theorem addW_in {s v : Int} (h : 0 ≤ s ∧ s ≤ 4611686018427387904) (hv : 0 ≤ v) : 0 ≤ addW s v ∧ addW s v ≤ 4611686018427387904 := by unfold addW; split <;> omega
theorem addW_min {s v : Int} : addW s v = if s + v < 4611686018427387904 then s + v else 4611686018427387904 := by
  unfold addW
  split <;> split <;> omega
set_option maxRecDepth 100000 in
set_option maxHeartbeats 8000000 in
theorem lines11_any (w : World) (na : Option Addr) (N nc : Nat) (ns : List Nd) (hE : NEnv w na N ns) (oa : Option Addr) (n oc : Nat) (ord : List Int) (hO : Ids w oa n ord) (hn : n ≤ 1000) (hnd : ord.Nodup) (a : Int) (V : Int → Int) (hW : InW V)
    (hV : ∀ (i : Nat) x, ord[i]? = some x → ∃ ps, parsN ns x = some ps ∧ V x = (if x = a then 1 else sumW V ps 0) ∧ ∀ p ∈ ps, ∃ j, j < i ∧ ord[j]? = some p) (hB : ∀ (i : Nat) x, ord[i]? = some x → i + 1 < n → V x < 4611686018427387904) (b : Int) (hn0 : 0 < n) (hb : ord[n - 1]? = some b) :
    Calls Tryz.prog 16 #[.slice na N nc, .slice oa n oc, .int .u64 a] w fun e w' => e = .returned (.int .i64 (V b)) ∧ Below w.heap.size w w' := by
  have hll := hO.1
  have HEv : Hid (NEnv w na N ns ∧ Ids w oa n ord ∧ (∀ (i : Nat) x, ord[i]? = some x → ∃ ps, parsN ns x = some ps ∧ V x = (if x = a then 1 else sumW V ps 0) ∧ ∀ p ∈ ps, ∃ j, j < i ∧ ord[j]? = some p) ∧ InW V ∧ ord[n - 1]? = some b ∧ ord.length = n ∧ ord.Nodup ∧ ∀ (i : Nat) x, ord[i]? = some x → i + 1 < n → V x < 4611686018427387904) := ⟨hE, hO, hV, hW, hb, hll, hnd, hB⟩
  clear hE hO hV hB hb hll hW hnd
  have i9 : (n : Int) ≤ 9223372036854775807 := by omega
  go_enter Tryz.func16, Tryz.ntmps16
  go_wp2_with (at_make; refine wpList_make_ints _ rfl _ _ rfl _ _ n _ _ rfl rfl (by simp) (by simp) (by omega) ?_; intro w1 hr1)
  obtain ⟨g, hg⟩ : ∃ g, w.heap.size = g := ⟨_, rfl⟩
  have HST : Hid (∃ ds, IR w w1 g ds ∧ DR V ord 0 0 ds) := ⟨_, by rw [← hg]; exact hr1, DR.start V ord n HEv.out.2.2.2.2.2.1⟩
  have HW0 : Hid (w.heap.size = g) := hg
  rw [hg]
  clear hr1 hg
  go_loopg [8] n (fun gg v wr => ∃ i : Nat, i + gg = n ∧ i ≤ n ∧ v = .int .i64 (i : Int) ∧ Hid (∃ ds, IR w wr g ds ∧ DR V ord i 0 ds))
  case atStart => exact ⟨0, by omega, Nat.zero_le _, rfl, HST.out⟩
  case round =>
    clear HST
    obtain ⟨i, hig, hi, rfl, H⟩ := hrel
    cases gk with
    | zero =>
      obtain rfl : i = n := by omega
      obtain ⟨ds, hIR, hDR⟩ := H.out
      have q9 := (hIR.cell (hDR.pre (i - 1) b (by omega) HEv.out.2.2.2.2.1)).1
      have i2 : ¬ (i : Int) < (i : Int) := by omega
      have i4 : ((i : Int) == 0) = false := by simp; omega
      have i5 : (0 : Int) ≤ (i : Int) - 1 := by omega
      have i6 : (i : Int) - 1 < (i : Int) := by omega
      have e1 : ((i : Int) - 1).toNat = i - 1 := by omega
      have HBl : Hid (Below w.heap.size w wr) := hIR.bel
      clear H hIR hDR
      go_wp2
      go_ret
      exact ⟨rfl, HBl.out⟩
    | succ go =>
      have hlt : i < n := by omega
      obtain ⟨x, hx⟩ : ∃ x, ord[i]? = some x := ⟨_, List.getElem?_eq_getElem (by rw [HEv.out.2.2.2.2.2.1]; exact hlt)⟩
      obtain ⟨ps, hps, hVx, hpa⟩ := HEv.out.2.2.1 i x hx
      obtain ⟨ds, hIR, hDR⟩ := H.out
      obtain ⟨hNd, hNp⟩ := HEv.out.1.at_ wr hIR.bel
      obtain ⟨b1, o1, hoa, hc1⟩ := (hIR.ids HEv.out.2.1).2 (by omega)
      have q0 := hc1 i x hx
      obtain ⟨ci, fi⟩ := hIR.cell (hDR.at_ (by rw [HEv.out.2.2.2.2.2.1]; exact hlt))
      have i2 : (i : Int) < (n : Int) := by omega
      have i3 : ¬ n ≤ i := by omega
      have HJ0 : Hid (i + 1 + go = n ∧ i + 1 ≤ n) := ⟨by omega, by omega⟩
      by_cases hxa : x = a
      · subst hxa
        have HN : Hid (∃ ds, IR w (wr.setCell ⟨g, i, none⟩ (.int .i64 1)) g ds ∧ DR V ord (i + 1) 0 ds) := ⟨_, hIR.set i 1, DR.next hx (by rw [hVx, if_pos rfl]; exact hDR.set 1)⟩
        subst hoa
        clear hc1 hx hps hVx hpa hNd hNp H hIR hDR
        go_wp2
        go_roundg go
        case measure => omega
        case rel => exact ⟨i + 1, HJ0.out.1, HJ0.out.2, by simp, HN.out⟩
      · rw [if_neg hxa] at hVx
        have hxa2 : (x == a) = false := beq_eq_false_iff_ne.2 hxa
        have hpar := parents11_any wr na N nc ns hNd (by have := HEv.out.1.len; omega) x ps hps
        have HX : Hid (ord[i]? = some x ∧ (∀ p ∈ ps, ∃ j, j < i ∧ ord[j]? = some p) ∧ ps.length ≤ 1000 ∧ V x = sumW V ps 0) := ⟨hx, hpa, by
          have := HEv.out.1.par
          obtain ⟨j, y, _, hy, h1, _⟩ := fiN_some ns x 0 (fun h => by have := (fiN_none ns x 0 h).1; rw [hps] at this; cases this)
          have h2 := this y (List.mem_of_getElem? hy)
          have h3 := (hNp y (List.mem_of_getElem? hy)).1
          rw [hps] at h1
          split at h1
          · cases h1
          · cases h1; omega, hVx⟩
        have HD : Hid (∃ ds, IR w wr g ds ∧ DR V ord i 0 ds) := ⟨ds, hIR, hDR⟩
        subst hoa
        clear hc1 hx hps hVx hpa hNd hNp H hIR hDR ci fi
        go_wp2_with fail
        refine hpar.mono ?_
        clear hpar
        rintro e w2 ⟨nd, hnd, hnp, rfl, h1⟩
        subst h1
        obtain ⟨pa, hpa⟩ : ∃ pa, nd.pa = pa := ⟨_, rfl⟩
        obtain ⟨pn, hpn⟩ : ∃ pn, nd.pn = pn := ⟨_, rfl⟩
        obtain ⟨pc, hpc⟩ : ∃ pc, nd.pc = pc := ⟨_, rfl⟩
        rw [hpa, hpn, hpc]
        have HIp : Hid (∀ W, Below w.heap.size w W → Ids W pa pn ps) := fun W hW => by rw [← hpa, ← hpn, ← hnp]; exact (HEv.out.1.at_ W hW).2 nd hnd
        clear hpa hpn hpc hnd hnp
        go_wp2_with fail
        have HS : Hid (∃ ds s, IR w w2 g ds ∧ DR V ord i s ds ∧ (0 ≤ s ∧ s ≤ 4611686018427387904) ∧ V x = sumW V (ps.drop 0) s) := by
          obtain ⟨ds, h1, h2⟩ := HD.out
          exact ⟨ds, 0, h1, h2, by omega, HX.out.2.2.2⟩
        have hpl : pn ≤ 1000 := by
          obtain ⟨ds, h1, h2⟩ := HD.out
          have h3 := (HIp.out w2 h1.bel).1
          have h4 := HX.out.2.2.1
          omega
        clear HD q0
        go_loopg [10] pn (fun gg v wr => ∃ p : Nat, p + gg = pn ∧ p ≤ pn ∧ v = .int .i64 (p : Int) ∧ Hid (∃ ds s, IR w wr g ds ∧ DR V ord i s ds ∧ (0 ≤ s ∧ s ≤ 4611686018427387904) ∧ V x = sumW V (ps.drop p) s))
        case atStart => exact ⟨0, by omega, Nat.zero_le _, rfl, HS.out⟩
        case round =>
          clear HS
          obtain ⟨p, hpg, hp, rfl, H⟩ := hrel
          obtain ⟨ds, s, hIR, hDR, hs, hsum⟩ := H.out
          clear H
          have hpsl : ps.length = pn := (HIp.out wr hIR.bel).1
          have hil : i < ord.length := by rw [HEv.out.2.2.2.2.2.1]; exact hlt
          cases gk with
          | zero =>
            obtain rfl : p = pn := by omega
            have i4 : ¬ (p : Int) < (p : Int) := by omega
            have hVs : V x = s := by rw [hsum, List.drop_of_length_le (by omega)]; rfl
            have HN : Hid (∃ ds, IR w wr g ds ∧ DR V ord (i + 1) 0 ds) := ⟨_, hIR, DR.next HX.out.1 (by rw [hVs]; exact hDR)⟩
            clear hIR hDR hsum hVs
            go_wp2
            go_roundg go
            case measure => omega
            case rel => exact ⟨i + 1, HJ0.out.1, HJ0.out.2, by simp, HN.out⟩
          | succ gp =>
            have hplt : p < pn := by omega
            obtain ⟨q, hq⟩ : ∃ q, ps[p]? = some q := ⟨_, List.getElem?_eq_getElem (by omega)⟩
            obtain ⟨j0, hj0, hqj⟩ := HX.out.2.1 q (List.mem_of_getElem? hq)
            have hst : V x = sumW V (ps.drop (p + 1)) (addW s (V q)) := hsum.trans (sumW_drop V ps p q s hq)
            have hVq : 0 ≤ V q ∧ V q < 4611686018427387904 := ⟨(HEv.out.2.2.2.1 q).1, HEv.out.2.2.2.2.2.2.2 j0 q hqj (by omega)⟩
            have HP : Hid (ps[p]? = some q ∧ ord[j0]? = some q ∧ V x = sumW V (ps.drop (p + 1)) (addW s (V q))) := ⟨hq, hqj, hst⟩
            have HST2 : Hid (∃ ds, IR w wr g ds ∧ DR V ord i (if 0 ≤ j0 then s else addW s (V q)) ds) := ⟨ds, hIR, by rw [if_pos (Nat.zero_le _)]; exact hDR⟩
            have i4 : (p : Int) < (pn : Int) := by omega
            have i5 : ¬ pn ≤ p := by omega
            have HJ1 : Hid (p + 1 + gp = pn ∧ p + 1 ≤ pn) := ⟨by omega, by omega⟩
            clear hq hqj hst hsum hIR hDR
            go_wp2_with fail
            obtain ⟨wo, hwo⟩ : ∃ wo : World, wo = wr := ⟨_, rfl⟩
            subst hwo
            go_loopg [11] i (fun gg v wr => ∃ k : Nat, k + gg = i ∧ k ≤ i ∧ v = .int .i64 (k : Int) ∧ Hid (∃ ds, IR w wr g ds ∧ DR V ord i (if k ≤ j0 then s else addW s (V q)) ds))
            case atStart => exact ⟨0, by omega, Nat.zero_le _, rfl, HST2.out⟩
            case round =>
              clear HST2
              obtain ⟨k, hkg, hk, rfl, H⟩ := hrel
              obtain ⟨ds, hIR, hDR⟩ := H.out
              clear H
              cases gk with
              | zero =>
                obtain rfl : k = i := by omega
                have i6 : ¬ (k : Int) < (k : Int) := by omega
                have HN : Hid (∃ ds s, IR w wr g ds ∧ DR V ord k s ds ∧ (0 ≤ s ∧ s ≤ 4611686018427387904) ∧ V x = sumW V (ps.drop (p + 1)) s) := by
                  rw [if_neg (by omega)] at hDR
                  exact ⟨ds, _, hIR, hDR, addW_in hs hVq.1, HP.out.2.2⟩
                clear hIR hDR
                go_wp2
                go_roundg gp
                case measure => omega
                case rel => exact ⟨p + 1, HJ1.out.1, HJ1.out.2, by simp, HN.out⟩
              | succ gi =>
                have hki : k < i := by omega
                obtain ⟨y, hy⟩ : ∃ y, ord[k]? = some y := ⟨_, List.getElem?_eq_getElem (by omega)⟩
                obtain ⟨ck, fk⟩ := hIR.cell (hDR.pre k y hki hy)
                obtain ⟨ci, fi⟩ := hIR.cell (hDR.at_ hil)
                obtain ⟨_, _, ee, hc1⟩ := (hIR.ids HEv.out.2.1).2 (by omega)
                cases ee
                have q1 := hc1 k y hy
                obtain ⟨pb, po, hpe, hc2⟩ := (HIp.out wr hIR.bel).2 (by omega)
                subst hpe
                have q2 := hc2 p q HP.out.1
                have i6 : (k : Int) < (i : Int) := by omega
                have i7 : (k : Int) < (n : Int) := by omega
                have i8 : ¬ n ≤ k := by omega
                have HJ : Hid (k + 1 + gi = i ∧ k + 1 ≤ i) := ⟨by omega, by omega⟩
                by_cases hkj : k = j0
                · subst hkj
                  have hyq : y = q := by have := HP.out.2.1; rw [hy] at this; exact Option.some.inj this
                  subst hyq
                  rw [if_pos (Nat.le_refl _)] at hDR ci
                  have HN : Hid (∃ av, av = (if s + V y < 4611686018427387904 then s + V y else 4611686018427387904) ∧ ∀ nq, ∃ ds, IR w ((wr.drewN nq).setCell ⟨g, i, none⟩ (.int .i64 av)) g ds ∧ DR V ord i (if k + 1 ≤ k then s else addW s (V y)) ds) := ⟨_, rfl, fun nq => ⟨_, (hIR.drewN nq).set i _, by rw [if_neg (by omega), ← addW_min]; exact hDR.set _⟩⟩
                  clear hIR hDR hc1 hc2 hy
                  generalize V y = vy at *
                  have a6 : -9223372036854775808 ≤ s + vy ∧ s + vy ≤ 9223372036854775807 := ⟨by omega, by omega⟩
                  by_cases hcmp : s + vy < 4611686018427387904
                  · obtain ⟨av, hav, hN⟩ := HN.out
                    rw [if_pos hcmp] at hav
                    subst hav
                    have HN2 : Hid _ := hN
                    clear hN HN
                    go_wp2
                    go_quiet (fail)
                    go_wp2
                    go_region
                    go_wp2
                    go_roundg gi
                    case measure => omega
                    case rel => exact ⟨k + 1, HJ.out.1, HJ.out.2, by simp, HN2.out _⟩
                  · obtain ⟨av, hav, hN⟩ := HN.out
                    rw [if_neg hcmp] at hav
                    subst hav
                    have HN2 : Hid _ := hN
                    clear hN HN
                    go_wp2
                    go_quiet (fail)
                    go_wp2
                    go_region
                    go_wp2
                    go_roundg gi
                    case measure => omega
                    case rel => exact ⟨k + 1, HJ.out.1, HJ.out.2, by simp, HN2.out _⟩
                · have hyq : y ≠ q := fun e => by
                    subst e
                    exact hkj (nodup_at HEv.out.2.2.2.2.2.2.1 hy HP.out.2.1)
                  have hyq2 : (y == q) = false := beq_eq_false_iff_ne.2 hyq
                  have HN : Hid (∀ nq, ∃ ds, IR w (wr.drewN nq) g ds ∧ DR V ord i (if k + 1 ≤ j0 then s else addW s (V q)) ds) := by
                    refine fun nq => ⟨ds, hIR.drewN nq, ?_⟩
                    by_cases e : k ≤ j0
                    · rw [if_pos e] at hDR; rw [if_pos (by omega)]; exact hDR
                    · rw [if_neg e] at hDR; rw [if_neg (by omega)]; exact hDR
                  clear hIR hDR hc1 hc2 hy ck fk ci fi
                  go_wp2
                  go_quiet (fail)
                  go_wp2
                  go_roundg gi
                  case measure => omega
                  case rel => exact ⟨k + 1, HJ.out.1, HJ.out.2, by simp, HN.out _⟩
end Go.Proofs.YtojpbemfbjkjjaaGreat
