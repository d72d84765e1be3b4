import Derived.Test.YtggnglgehobglaaGreatDoorN27
import Derived.Test.YtggnglgehobglaaGreatDoorN29
import Derived.Test.YtggnglgehobglaaGreatDoorN24
import Derived.Test.YtggnglgehobglaaGreatDoorN14
import Derived.Test.YtggnglgehobglaaGreatDoorN28
import Derived.Sort.OwnSorted
import Derived.RangeFuncBound
/- The walk of Compare, with how much was drawn; Compare as a sort takes it (gend.py, out of NRest and NCmp). -/
namespace Go.Proofs.YtggnglgehobglaaGreatDoor
open Go.RowKit Go.Shelf Go.Lib

attribute [local go_sem] Oper.semAt_some

theorem lod_drewN {B : Nat} {w w' : World} (h : LoD B w w') (n : Nat) : LoD B w (w'.drewN n) := ⟨below_drewN h.toBelow n, Nat.le_trans h.d (Nat.le_add_right _ _)⟩
theorem disPath_any (s : ByteArray) (w : World) (hs : s.size ≤ maxLen) :
    Calls Tryz.prog 77 #[.string s] w fun e w' => e = .returned (.bool (isP (bs s))) ∧ LoD w.heap.size w w' := by
  have hp := dpath_any s w hs
  obtain ⟨e1, h1⟩ : ∃ e1, e1 = (pathSpot (bs s)).1 := ⟨_, rfl⟩
  obtain ⟨e2, h2⟩ : ∃ e2, e2 = (pathSpot (bs s)).2 := ⟨_, rfl⟩
  simp only [spotV] at hp
  rw [← h1, ← h2] at hp
  have H : Hid (((e1 : Int) == 0) = isP (bs s)) := by
    show _ = _
    unfold isP
    rw [← h1, Bool.eq_iff_iff, beq_iff_eq, beq_iff_eq]; omega
  clear h1 h2
  have hfd := fun w => field0 (.int .i64 (e1 : Int)) (.int .i64 (e2 : Int)) w
  go_enter Tryz.func77, Tryz.ntmps77
  go_wp2_with (go_at_call 50; refine hp.mono ?_; rintro e w' ⟨rfl, hB⟩)
  go_ret
  exact ⟨by rw [← H.out]; rfl, hB⟩

set_option maxHeartbeats 2000000 in
theorem dcomparePaths_any (a b : ByteArray) (w : World) (hsa : a.size ≤ 1000000) (hsb : b.size ≤ 1000000) (ha : ∀ c ∈ bs a, 32 ≤ c.toNat) (hb : ∀ c ∈ bs b, 32 ≤ c.toNat) :
    Calls Tryz.prog 78 #[.string a, .string b] w fun e w' => e = .returned (.int .i64 (cmpW (bs a) (bs b))) ∧ LoD w.heap.size w w' := by
  have HA : Hid ((∀ c ∈ bs a, 32 ≤ c.toNat) ∧ ∀ c ∈ bs b, 32 ≤ c.toNat) := ⟨ha, hb⟩
  clear ha hb
  by_cases hab : b.size < a.size
  · have iab : (b.size : Int) < a.size := by omega
    go_enter Tryz.func78, Tryz.ntmps78
    go_wp2
    go_loopw [11] (fun i wr => ∃ k : Nat, k ≤ b.size ∧ i = .int .i64 k ∧ Hid (LoD w.heap.size w wr ∧ (bs a).take k = (bs b).take k)) (fun i _ => b.size - (intOf i).toNat)
    case atStart => exact ⟨0, Nat.zero_le _, rfl, LoD.refl _ _, rfl⟩
    case round =>
      obtain ⟨k, hk, rfl, H⟩ := hrel
      by_cases hlt : k < b.size
      · have i1 : (k : Int) < (b.size : Int) := by omega
        have ka : k < a.size := by omega
        have kb : k < b.size := by omega
        have i2 : (k : Int) < a.size := by omega
        have i3 : (k : Int) < b.size := by omega
        by_cases he : a[k] = b[k]
        · have HT : Hid ((bs a).take (k + 1) = (bs b).take (k + 1)) := by
            show _ = _
            rw [List.take_add_one, List.take_add_one, H.out.2, bs_get a k ka, bs_get b k kb, he]
          go_wp2_with fail
          go_quiet (fail)
          go_wp2_with fail
          go_roundw
          case rel => exact ⟨k + 1, by omega, by simp, lod_drewN H.out.1 _, HT.out⟩
          case measure => simp [intOf]; omega
        · have j1 : ¬ (a[k].toNat : Int) = (b[k].toNat : Int) := fun e => he (UInt8.toNat_inj.1 (by omega))
          have HC : Hid (cmpW (bs a) (bs b) = cmpI ((wt a[k]).toNat : Int) ((wt b[k]).toNat : Int)) := by
            show _ = _
            have l1 : k < (bs a).length := by rw [bs_len]; exact ka
            have l2 : k < (bs b).length := by rw [bs_len]; exact kb
            exact cmpW_at (bs a) (bs b) k l1 l2 H.out.2 he HA.out.1 HA.out.2
          go_wp2_with fail
          go_quiet (fail)
          go_wp2_with fail
          go_region_held3 (fun _ => True)
            (trivial)
            (first
              | (go_at_call 101; refine (weight_any _ _).mono ?_; rintro e w' ⟨rfl, rfl⟩)
              | (go_at_call 100; refine (cmp_byte _ _ _).mono ?_; rintro e w' ⟨rfl, rfl⟩))
          all_goals go_wp2_with fail
          all_goals go_ret
          all_goals exact ⟨by rw [HC.out]; rfl, lod_drewN H.out.1 _⟩
      · obtain rfl : k = b.size := by omega
        have HC : Hid (cmpW (bs a) (bs b) = cmpI (a.size : Int) (b.size : Int)) := by
          show _ = _
          rw [← bs_len a, ← bs_len b]
          exact cmpW_end _ _ b.size (by rw [bs_len, bs_len]; omega) H.out.2
        go_wp2_with (go_at_call 102; refine (cmp_int _ _ _).mono ?_; rintro e w' ⟨rfl, rfl⟩)
        go_ret
        exact ⟨by rw [HC.out]; rfl, H.out.1⟩
  · have iab : ¬ (b.size : Int) < a.size := by omega
    go_enter Tryz.func78, Tryz.ntmps78
    go_wp2
    go_loopw [11] (fun i wr => ∃ k : Nat, k ≤ a.size ∧ i = .int .i64 k ∧ Hid (LoD w.heap.size w wr ∧ (bs a).take k = (bs b).take k)) (fun i _ => a.size - (intOf i).toNat)
    case atStart => exact ⟨0, Nat.zero_le _, rfl, LoD.refl _ _, rfl⟩
    case round =>
      obtain ⟨k, hk, rfl, H⟩ := hrel
      by_cases hlt : k < a.size
      · have i1 : (k : Int) < (a.size : Int) := by omega
        have ka : k < a.size := by omega
        have kb : k < b.size := by omega
        have i2 : (k : Int) < a.size := by omega
        have i3 : (k : Int) < b.size := by omega
        by_cases he : a[k] = b[k]
        · have HT : Hid ((bs a).take (k + 1) = (bs b).take (k + 1)) := by
            show _ = _
            rw [List.take_add_one, List.take_add_one, H.out.2, bs_get a k ka, bs_get b k kb, he]
          go_wp2_with fail
          go_quiet (fail)
          go_wp2_with fail
          go_roundw
          case rel => exact ⟨k + 1, by omega, by simp, lod_drewN H.out.1 _, HT.out⟩
          case measure => simp [intOf]; omega
        · have j1 : ¬ (a[k].toNat : Int) = (b[k].toNat : Int) := fun e => he (UInt8.toNat_inj.1 (by omega))
          have HC : Hid (cmpW (bs a) (bs b) = cmpI ((wt a[k]).toNat : Int) ((wt b[k]).toNat : Int)) := by
            show _ = _
            have l1 : k < (bs a).length := by rw [bs_len]; exact ka
            have l2 : k < (bs b).length := by rw [bs_len]; exact kb
            exact cmpW_at (bs a) (bs b) k l1 l2 H.out.2 he HA.out.1 HA.out.2
          go_wp2_with fail
          go_quiet (fail)
          go_wp2_with fail
          go_region_held3 (fun _ => True)
            (trivial)
            (first
              | (go_at_call 101; refine (weight_any _ _).mono ?_; rintro e w' ⟨rfl, rfl⟩)
              | (go_at_call 100; refine (cmp_byte _ _ _).mono ?_; rintro e w' ⟨rfl, rfl⟩))
          all_goals go_wp2_with fail
          all_goals go_ret
          all_goals exact ⟨by rw [HC.out]; rfl, lod_drewN H.out.1 _⟩
      · obtain rfl : k = a.size := by omega
        have HC : Hid (cmpW (bs a) (bs b) = cmpI (a.size : Int) (b.size : Int)) := by
          show _ = _
          rw [← bs_len a, ← bs_len b]
          exact cmpW_end _ _ a.size (by rw [bs_len, bs_len]; omega) H.out.2
        go_wp2_with (go_at_call 102; refine (cmp_int _ _ _).mono ?_; rintro e w' ⟨rfl, rfl⟩)
        go_ret
        exact ⟨by rw [HC.out]; rfl, H.out.1⟩

theorem dCompare_any (a b : ByteArray) (w : World) (hsa : a.size ≤ 1000000) (hsb : b.size ≤ 1000000) :
    Calls Tryz.prog 55 #[.string a, .string b] w fun e w' => e = .returned (.int .i64 (ordP (bs a) (bs b))) ∧ LoD w.heap.size w w' := by
  have hx := disPath_any a w (by unfold maxLen; omega)
  have hy := fun w => disPath_any b w (by unfold maxLen; omega)
  have hcs := fun w => cmp_str a b w
  have hcp := fun w h1 h2 => dcomparePaths_any a b w hsa hsb h1 h2
  unfold ordP
  cases h1 : isP (bs a) with
  | false =>
    rw [h1] at hx
    cases h2 : isP (bs b) with
    | false =>
      rw [h2] at hy
      generalize compareBytes (bs a) (bs b) = r at hcs ⊢
      go_enter Tryz.func55, Tryz.ntmps55
      go_wp2_with first
        | (go_at_call 77; refine hx.mono ?_; clear hx; rintro e w1 ⟨rfl, hB1⟩; replace hy := hy w1)
        | (go_at_call 77; refine hy.mono ?_; clear hy; rintro e w2 ⟨rfl, hB2⟩)
        | (go_at_call 79; refine (hcs _).mono ?_; rintro e w3 ⟨rfl, rfl⟩)
      go_ret
      exact ⟨rfl, hB1.trans (hB2.mono hB1.size)⟩
    | true =>
      rw [h2] at hy
      go_enter Tryz.func55, Tryz.ntmps55
      go_wp2_with first
        | (go_at_call 77; refine hx.mono ?_; clear hx; rintro e w1 ⟨rfl, hB1⟩; replace hy := hy w1)
        | (go_at_call 77; refine hy.mono ?_; clear hy; rintro e w2 ⟨rfl, hB2⟩)
      go_ret
      exact ⟨rfl, hB1.trans (hB2.mono hB1.size)⟩
  | true =>
    rw [h1] at hx
    cases h2 : isP (bs b) with
    | false =>
      rw [h2] at hy
      go_enter Tryz.func55, Tryz.ntmps55
      go_wp2_with first
        | (go_at_call 77; refine hx.mono ?_; clear hx; rintro e w1 ⟨rfl, hB1⟩; replace hy := hy w1)
        | (go_at_call 77; refine hy.mono ?_; clear hy; rintro e w2 ⟨rfl, hB2⟩)
      go_ret
      exact ⟨rfl, hB1.trans (hB2.mono hB1.size)⟩
    | true =>
      rw [h2] at hy
      have hcq := fun w => hcp w (isP_bytes _ h1) (isP_bytes _ h2)
      clear hcp
      generalize cmpW (bs a) (bs b) = r at hcq ⊢
      go_enter Tryz.func55, Tryz.ntmps55
      go_wp2_with first
        | (go_at_call 77; refine hx.mono ?_; clear hx; rintro e w1 ⟨rfl, hB1⟩; replace hy := hy w1)
        | (go_at_call 77; refine hy.mono ?_; clear hy; rintro e w2 ⟨rfl, hB2⟩)
        | (go_at_call 78; refine (hcq _).mono ?_; rintro e w3 ⟨rfl, hB3⟩)
      go_ret
      have h3 := hB1.trans (hB2.mono hB1.size)
      exact ⟨rfl, h3.trans (hB3.mono h3.size)⟩
end Go.Proofs.YtggnglgehobglaaGreatDoor

/- slices.SortedFunc of a table's keys by name.Compare: each From once, in order. -/
namespace Go.Proofs.YtggnglgehobglaaGreatDoor
open Go.RowKit Go.Shelf Go.Lib Go.Maps

attribute [local go_sem] Oper.semAt_some

/-- a text that Compare takes -/
abbrev Pth := {l : List UInt8 // l.length ≤ 1000000}
instance : Inhabited Pth := ⟨⟨[], Nat.zero_le _⟩⟩
def encP (p : Pth) : Value := encStr p.1
def cfP (a b : Pth) : Int := ordP a.1 b.1
theorem ltP (a b : Pth) : ltOf cfP a b = decide (ordP a.1 b.1 < 0) := rfl
theorem swoP : Sort.SWO (ltOf cfP) := by
  refine ⟨fun x => ?_, fun x y z h1 h2 => ?_, fun x y z h1 h2 => ?_⟩
  · rw [ltP, (ordP_zero _ _).2 rfl]
    decide
  · rw [ltP, decide_eq_true_eq] at *
    have h3 := ordP_trans x.1 y.1 z.1 (by omega) (by omega)
    by_cases h4 : ordP x.1 z.1 = 0
    · have e := (ordP_zero _ _).1 h4
      rw [← e, ordP_neg x.1 y.1] at h2
      omega
    · omega
  · rw [ltP, decide_eq_false_iff_not] at *
    have := ordP_trans' x.1 y.1 z.1 (by omega) (by omega)
    omega
theorem lod_grow {W w' : World} (h : LoD W.heap.size W w') : ∃ q os', w' = Sort.grow (W.drewN q) os' := by
  obtain ⟨⟨h1, h2, h3, h4, h5⟩, h6⟩ := h
  refine ⟨w'.drawn - W.drawn, w'.heap.extract W.heap.size w'.heap.size, ?_⟩
  obtain ⟨hp, tp, dr, o, ou⟩ := w'
  obtain ⟨hp0, tp0, dr0, o0, ou0⟩ := W
  simp only at h1 h2 h3 h4 h5 h6 ⊢
  subst h1 h2 h3
  have e1 : dr0 + (dr - dr0) = dr := by omega
  have e2 : hp0 ++ hp.extract hp0.size hp.size = hp := by
    apply Array.ext_getElem?
    intro k
    by_cases hk : k < hp0.size
    · rw [Array.getElem?_append_left hk, h5 k hk]
    · rw [Array.getElem?_append_right (by omega), Array.getElem?_extract]
      by_cases hk2 : k < hp.size
      · rw [if_pos (by omega)]
        congr 1
        omega
      · rw [if_neg (by omega), Array.getElem?_eq_none (by omega)]
  simp only [Sort.grow, World.drewN, e1, e2]
theorem bs_enc (l : List UInt8) : bs ⟨l.toArray⟩ = l := by simp [bs]
theorem cmpP (blk off size : Nat) (w : World) : CmpLays1 Tryz.prog 55 #[] encP cfP blk off size w := fun m os dk _ x y => by
  have h := dCompare_any ⟨x.1.toArray⟩ ⟨y.1.toArray⟩ (sortWorld encP w blk off m dk os) (by show x.1.toArray.size ≤ _; simpa using x.2) (by show y.1.toArray.size ≤ _; simpa using y.2)
  refine Calls.mono h ?_
  rintro e w' ⟨rfl, hL⟩
  exact ⟨by rw [bs_enc, bs_enc]; rfl, lod_grow hL⟩
theorem nodupT {w : World} {b n : Nat} {M : DataW Value} (h : w.ownsMap Tryz.prog 9 rvT b n M) : (strKeys M).Nodup ∧ ∀ x, x ∈ strKeys M ↔ has M (.string x) = true := by
  obtain ⟨es, hD, hpw, _⟩ := h.entries keyedT
  obtain ⟨es', hD', hko⟩ := h.keysOf
  obtain rfl : es = es' := by rw [hD] at hD'; simpa using hD'
  subst hD
  have hk : ∀ q ∈ es, ∃ x, q.1 = .string x := fun q hq => by
    obtain ⟨v, hv⟩ := hko q hq
    obtain ⟨x, _, hx, _⟩ := Maps.keyOf_str Tryz.underlying9 hv
    exact ⟨x, hx⟩
  constructor
  · show (es.map fun q => strOf q.1).Nodup
    refine List.pairwise_map.2 (hpw.imp_of_mem fun {q r} hq hr hne e => hne ?_)
    obtain ⟨x, hx⟩ := hk q hq
    obtain ⟨y, hy⟩ := hk r hr
    rw [hx, hy] at e ⊢
    exact congrArg _ e
  · intro x
    rw [has_eq, List.any_eq_true]
    show x ∈ es.map (fun q => strOf q.1) ↔ _
    rw [List.mem_map]
    constructor
    · rintro ⟨q, hq, rfl⟩
      obtain ⟨y, hy⟩ := hk q hq
      exact ⟨q, hq, by rw [hy]; simp [Lit.sameKey, strOf]⟩
    · rintro ⟨q, hq, hs⟩
      obtain ⟨y, hy⟩ := hk q hq
      rw [hy] at hs
      exact ⟨q, hq, by rw [hy]; simpa [Lit.sameKey, strOf] using hs⟩
theorem lenT {w : World} {b n : Nat} {M : DataW Value} (h : w.ownsMap Tryz.prog 9 rvT b n M) : (strKeys M).length = size M := by
  obtain ⟨es, rfl⟩ := h.isMap
  simp [strKeys, size]

/-- texts as Compare takes them -/
def toP : (ss : List (List UInt8)) → (∀ x ∈ ss, x.length ≤ 1000000) → List Pth
  | [], _ => []
  | x :: xs, h => ⟨x, h x (by simp)⟩ :: toP xs fun y hy => h y (by simp [hy])
theorem toP_map (ss : List (List UInt8)) (h : ∀ x ∈ ss, x.length ≤ 1000000) : (toP ss h).map (·.1) = ss := by
  induction ss with
  | nil => rfl
  | cons x xs ih => simp only [toP, List.map_cons, ih]
theorem toP_enc (ss : List (List UInt8)) (h : ∀ x ∈ ss, x.length ≤ 1000000) : (toP ss h).map encP = ss.map encStr := by
  conv => rhs; rw [← toP_map ss h]
  rw [List.map_map]
  rfl
theorem toP_len (ss : List (List UInt8)) (h : ∀ x ∈ ss, x.length ≤ 1000000) : (toP ss h).length = ss.length := by
  conv => rhs; rw [← toP_map ss h]
  rw [List.length_map]
theorem getP (d : List Pth) (k : Nat) (hk : k < d.length) : (d.toArray[k]! : Pth).1 = (d.map (·.1)).toArray[k]! := by
  rw [getElem!_pos d.toArray k (by simpa using hk), getElem!_pos (d.map (·.1)).toArray k (by simpa using hk)]
  simp
theorem putRow_P (w : World) (blk : Nat) (d : List Pth) : Sort.putRow encP w blk 0 d.toArray = Sort.putRow encStr w blk 0 (d.map (·.1)).toArray := by
  unfold Sort.putRow
  congr 1
  funext c
  unfold Sort.putCells
  congr 1
  funext k x
  have hl : (d.map (·.1)).toArray.size = d.toArray.size := by simp
  rw [hl]
  by_cases h : 0 ≤ k ∧ k < 0 + d.toArray.size
  · rw [if_pos h, if_pos h]
    show encStr (d.toArray[k - 0]! : Pth).1 = _
    rw [getP d (k - 0) (by simpa using h.2)]
  · rw [if_neg h, if_neg h]
theorem holdsP {w : World} {g : Nat} {cur : Array Value} {e : TypeId} {ss : List (List UInt8)} (h : ∀ x ∈ ss, x.length ≤ 1000000) (hb : w.heap[g]? = some (.cells cur e (0, 0))) (ht : cur.toList.take ss.length = ss.map encStr) : Sort.Holds encP w g 0 (toP ss h).toArray := by
  have H := holds_of_block hb ht
  intro j hj
  have hj1 : j < (toP ss h).length := by simpa using hj
  have hj2 : j < ss.length := by rw [toP_len] at hj1; exact hj1
  obtain ⟨a, b⟩ := H j (by simpa using hj2)
  refine ⟨?_, b⟩
  rw [a]
  show some (encStr _) = some (encStr _)
  rw [getP _ j hj1, toP_map]
/-- these are the table's Froms, each once, in order -/
structure KeyL (g : Tb) (ks : List (List UInt8)) : Prop where
  nd : ks.Nodup
  mem : ∀ x, x ∈ ks ↔ (g x).isSome = true
  ord : ks.Pairwise fun x y => ordP x y ≤ 0
theorem sorted_pw (d' : Array Pth) (h : Sort.SortedIn (ltOf cfP) 0 d'.size d') : (d'.toList.map (·.1)).Pairwise fun x y => ordP x y ≤ 0 := by
  rw [List.pairwise_map, List.pairwise_iff_getElem]
  intro i j hi hj hij
  have hi' : i < d'.size := by simpa using hi
  have hj' : j < d'.size := by simpa using hj
  have := h i j (Nat.zero_le _) hij hj'
  rw [ltP, decide_eq_false_iff_not, getElem!_pos d' j hj', getElem!_pos d' i hi'] at this
  have e := ordP_neg (d'[j]).1 (d'[i]).1
  simp only [Array.getElem_toList]
  omega
end Go.Proofs.YtggnglgehobglaaGreatDoor
