import Derived.Shelf.SlSortCmp.NoneTotal
import Derived.Shelf.SlSortCmp.WholeK
import Derived.Test.YtfkepoibgmljkaaProg
import Derived.Test.YtfkepoibgmljkaaB11
import Derived.Sort.OwnSorted
import Derived.Shelf.Spec.SlicesGrow
/- The kit's contracts, laid at this translation by the kit's own command, in plain words. -/
namespace Go.Proofs.Ytfkepoibgmljkaa
open Go.RowKit Go.Shelf

def Try.sortV_ren : Go.Shelf.Ren := ⟨fun | 6 => 26 | 15 => 48 | 14 => 47 | 28 => 67 | 29 => 68 | 20 => 59 | 21 => 60 | 22 => 61 | 23 => 62 | 24 => 63 | 25 => 64 | 26 => 65 | 27 => 66 | 46 => 69 | 47 => 70 | 48 => 71 | 49 => 72 | 50 => 73 | 57 => 74 | n => n, fun | 22 => 25 | 24 => 32 | 25 => 69 | 3 => 3 | 39 => 88 | 0 => 0 | 53 => 108 | 55 => 29 | 4 => 4 | 46 => 101 | 45 => 100 | 50 => 105 | 5 => 5 | 9 => 9 | 66 => 110 | 70 => 113 | 76 => 115 | 77 => 116 | n => n, fun | n => n⟩
theorem Try.sortV : Go.Proofs.SlLaysF0.n6 Try.prog Try.sortV_ren := {
  mixed := by kernel_rfl
  f6 := ⟨Try.f26.name, by decide, Try.func26.trans (congrArg some (by kernel_rfl))⟩
  f14 := ⟨Try.f47.name, by decide, Try.func47.trans (congrArg some (by kernel_rfl))⟩
  f15 := Try.func48.trans (congrArg some (by kernel_rfl))
  f20 := ⟨Try.f59.name, by decide, Try.func59.trans (congrArg some (by kernel_rfl))⟩
  f21 := ⟨Try.f60.name, by decide, Try.func60.trans (congrArg some (by kernel_rfl))⟩
  f22 := ⟨Try.f61.name, by decide, Try.func61.trans (congrArg some (by kernel_rfl))⟩
  f23 := ⟨Try.f62.name, by decide, Try.func62.trans (congrArg some (by kernel_rfl))⟩
  f24 := ⟨Try.f63.name, by decide, Try.func63.trans (congrArg some (by kernel_rfl))⟩
  f25 := ⟨Try.f64.name, by decide, Try.func64.trans (congrArg some (by kernel_rfl))⟩
  f26 := ⟨Try.f65.name, by decide, Try.func65.trans (congrArg some (by kernel_rfl))⟩
  f27 := ⟨Try.f66.name, by decide, Try.func66.trans (congrArg some (by kernel_rfl))⟩
  f28 := Try.func67.trans (congrArg some (by kernel_rfl))
  f29 := Try.func68.trans (congrArg some (by kernel_rfl))
  f46 := ⟨Try.f69.name, by decide, Try.func69.trans (congrArg some (by kernel_rfl))⟩
  f47 := Try.func70.trans (congrArg some (by kernel_rfl))
  f48 := Try.func71.trans (congrArg some (by kernel_rfl))
  f49 := ⟨Try.f72.name, by decide, Try.func72.trans (congrArg some (by kernel_rfl))⟩
  f50 := ⟨Try.f73.name, by decide, Try.func73.trans (congrArg some (by kernel_rfl))⟩
  f57 := ⟨Try.f74.name, by decide, Try.func74.trans (congrArg some (by kernel_rfl))⟩
  t0 := Try.underlying0
  a0 := Try.isAgg0
  z0 := Try.sizeOf0
  v0 := Try.zeroValue0
  t3 := Try.underlying3
  a3 := Try.isAgg3
  z3 := Try.sizeOf3
  v3 := Try.zeroValue3
  t4 := Try.underlying4
  a4 := Try.isAgg4
  z4 := Try.sizeOf4
  v4 := Try.zeroValue4
  t5 := Try.underlying5
  a5 := Try.isAgg5
  z5 := Try.sizeOf5
  v5 := Try.zeroValue5
  t9 := Try.underlying9
  a9 := Try.isAgg9
  z9 := Try.sizeOf9
  v9 := Try.zeroValue9
  t22 := Try.underlying25
  a22 := Try.isAgg25
  z22 := Try.sizeOf25
  v22 := Try.zeroValue25
  t25 := Try.underlying69
  a25 := Try.isAgg69
  z25 := Try.sizeOf69
  v25 := Try.zeroValue69
  t39 := Try.underlying88
  a39 := Try.isAgg88
  z39 := Try.sizeOf88
  v39 := Try.zeroValue88
  t45 := Try.underlying100
  a45 := Try.isAgg100
  z45 := Try.sizeOf100
  v45 := Try.zeroValue100
  t46 := Try.underlying101
  a46 := Try.isAgg101
  z46 := Try.sizeOf101
  v46 := Try.zeroValue101
  t50 := Try.underlying105
  a50 := Try.isAgg105
  z50 := Try.sizeOf105
  v50 := Try.zeroValue105
  t53 := Try.underlying108
  a53 := Try.isAgg108
  z53 := Try.sizeOf108
  v53 := Try.zeroValue108
  t55 := Try.underlying29
  a55 := Try.isAgg29
  z55 := Try.sizeOf29
  v55 := Try.zeroValue29
  t66 := Try.underlying110
  a66 := Try.isAgg110
  z66 := Try.sizeOf110
  v66 := Try.zeroValue110
  t70 := Try.underlying113
  a70 := Try.isAgg113
  z70 := Try.sizeOf113
  v70 := Try.zeroValue113
  t76 := Try.underlying115
  a76 := Try.isAgg115
  z76 := Try.sizeOf115
  v76 := Try.zeroValue115
  t77 := Try.underlying116
  a77 := Try.isAgg116
  z77 := Try.sizeOf116
  v77 := Try.zeroValue116 }

end Go.Proofs.Ytfkepoibgmljkaa

/- slices.Clone and slices.SortFunc at pairs, by their Froms. -/
namespace Go.Proofs.Ytfkepoibgmljkaa
open Go.RowKit Go.Shelf Go.Maps Go.Lib

attribute [local go_sem] Oper.semAt_some

def cmpN (x y : Nat) : Int := if x < y then -1 else if y < x then 1 else 0
theorem isNaN_any (x : Int) (w : World) : Calls Try.prog 49 #[.int .u64 x] w fun e w' => e = .returned (.bool false) ∧ w' = w := by
  go_enter Try.func49, Try.ntmps49
  go_wp2
  go_ret
  exact ⟨rfl, rfl⟩
theorem compare_any (x y : Nat) (w : World) : Calls Try.prog 28 #[.int .u64 (x : Int), .int .u64 (y : Int)] w fun e w' => e = .returned (.int .i64 (cmpN x y)) ∧ w' = w := by
  by_cases h1 : x < y
  · have i1 : (x : Int) < (y : Int) := by omega
    have HC : Hid (cmpN x y = -1) := by show _ = _; unfold cmpN; rw [if_pos h1]
    go_enter Try.func28, Try.ntmps28
    go_wp2_with (go_at_call 49; refine (isNaN_any _ _).mono ?_; rintro e w1 ⟨rfl, rfl⟩)
    go_ret
    exact ⟨by rw [HC.out]; rfl, rfl⟩
  · by_cases h2 : y < x
    · have i1 : ¬ (x : Int) < (y : Int) := by omega
      have i2 : (y : Int) < (x : Int) := by omega
      have HC : Hid (cmpN x y = 1) := by show _ = _; unfold cmpN; rw [if_neg h1, if_pos h2]
      go_enter Try.func28, Try.ntmps28
      go_wp2_with (go_at_call 49; refine (isNaN_any _ _).mono ?_; rintro e w1 ⟨rfl, rfl⟩)
      go_ret
      exact ⟨by rw [HC.out]; rfl, rfl⟩
    · have i1 : ¬ (x : Int) < (y : Int) := by omega
      have i2 : ¬ (y : Int) < (x : Int) := by omega
      have HC : Hid (cmpN x y = 0) := by show _ = _; unfold cmpN; rw [if_neg h1, if_neg h2]
      go_enter Try.func28, Try.ntmps28
      go_wp2_with (go_at_call 49; refine (isNaN_any _ _).mono ?_; rintro e w1 ⟨rfl, rfl⟩)
      go_ret
      exact ⟨by rw [HC.out]; rfl, rfl⟩
def cfV (p q : Pr) : Int := cmpN p.1 q.1
theorem ltV (p q : Pr) : ltOf cfV p q = decide (p.1 < q.1) := by
  unfold ltOf cfV cmpN
  by_cases h1 : p.1 < q.1
  · simp [h1]
  · by_cases h2 : q.1 < p.1 <;> simp [h1, h2]
theorem swoV : Sort.SWO (ltOf cfV) where
  irrefl x := by rw [ltV]; simp
  trans x y z h1 h2 := by rw [ltV] at *; simp at *; omega
  ntrans x y z h1 h2 := by rw [ltV] at *; simp at *; omega
def encV (p : Pr) : List Value := [.int .u64 (p.1 : Int), .int .u64 (p.2 : Int)]
theorem cmpV_any (p q : Pr) (W : World) : Calls Try.prog 27 #[.agg #[.int .u64 (p.1 : Int), .int .u64 (p.2 : Int)], .agg #[.int .u64 (q.1 : Int), .int .u64 (q.2 : Int)]] W fun e w' => e = .returned (.int .i64 (cfV p q)) ∧ ∃ m os', w' = Sort.grow (W.drewN m) os' := by
  have hcon := fun W' => compare_any p.1 q.1 W'
  change ∀ W', Calls Try.prog 28 _ _ fun e w' => e = .returned (.int .i64 (cfV p q)) ∧ _ at hcon
  generalize cfV p q = r at hcon ⊢
  go_enter Try.func27, Try.ntmps27
  go_wp2_with (go_at_call 28; refine (hcon _).mono ?_; rintro e w' ⟨rfl, rfl⟩)
  go_ret
  exact ⟨rfl, 0, _, by rw [Sort.alloc_eq_grow, Sort.alloc_eq_grow, Sort.grow_grow]; rfl⟩
theorem cmpLaysV (blk off size : Nat) (w : World) : CmpLays Try.prog 27 #[] encV 2 cfV blk off size w :=
  fun _ _ _ _ x y => cmpV_any x y _
theorem getV! {l : List Pr} {j : Nat} {x : Pr} (h : l[j]? = some x) : (l.toArray[j]! : Pr) = x := by
  obtain ⟨hj, rfl⟩ := List.getElem?_eq_some_iff.1 h
  rw [getElem!_pos l.toArray j (by simpa using hj)]
  simp
theorem holdsV {w : World} {b off n : Nat} {l : List Pr} (h : Prs w (some ⟨b, off, none⟩) n l) (hf : ∀ j, w.frozen? ⟨b, off + j, none⟩ = false) : Sort.HoldsK encV 2 w b off l.toArray := by
  intro t ht
  rw [Sort.size_flatK] at ht
  have ht' : t < l.length * 2 := by simpa using ht
  refine ⟨?_, hf t⟩
  rw [Sort.get_flatK _ _ _ t ht]
  have hk : t / 2 < l.length := by omega
  have hx : l[t / 2]? = some l[t / 2] := List.getElem?_eq_getElem hk
  obtain ⟨b', off', e, hc⟩ := h.2 (by have := h.1; omega)
  cases e
  obtain ⟨c1, c2⟩ := hc _ _ hx
  rw [getV! hx]
  rcases Nat.mod_two_eq_zero_or_one t with h0 | h1
  · rw [h0]
    rw [show b = b from rfl, show off + t = off + t / 2 * 2 by omega]
    exact c1
  · rw [h1]
    rw [show off + t = off + t / 2 * 2 + 1 by omega]
    exact c2
theorem prsV {w : World} {b off : Nat} {d : Array Pr} (h : Sort.HoldsK encV 2 w b off d) : Prs w (some ⟨b, off, none⟩) d.size d.toList := by
  refine ⟨by simp, fun h0 => ⟨b, off, rfl, fun j x hx => ?_⟩⟩
  have hj : j < d.size := by have := (List.getElem?_eq_some_iff.1 hx).1; simpa using this
  have e : (d[j]! : Pr) = x := by
    rw [getElem!_pos d j hj]
    have := (List.getElem?_eq_some_iff.1 hx).2
    rw [← this]; simp
  have c1 := (h (j * 2) (by rw [Sort.size_flatK]; omega)).1
  have c2 := (h (j * 2 + 1) (by rw [Sort.size_flatK]; omega)).1
  rw [Sort.get_flatK _ _ _ _ (by omega), show j * 2 / 2 = j by omega, show j * 2 % 2 = 0 by omega, e] at c1
  rw [Sort.get_flatK _ _ _ _ (by omega), show (j * 2 + 1) / 2 = j by omega, show (j * 2 + 1) % 2 = 1 by omega, e, ← Nat.add_assoc] at c2
  exact ⟨c1, c2⟩
theorem grownBy_sortV {w : World} {g off m : Nat} {os : Array Obj} (d : Array Pr) : w.grownBy (sortWorldK encV 2 w g off m d os) (some g) := by
  unfold sortWorldK Sort.putRowK
  refine ⟨rfl, rfl, rfl, by simp, fun k hk hne => ?_⟩
  rw [Sort.heap_grow_old _ _ (by simpa using hk)]
  have : g ≠ k := fun e => hne (by rw [e])
  simp [Sort.putRow, Sort.mapBlock, Sort.ahead, Array.getElem?_modify, this]
theorem sorted_le {d : Array Pr} (h : Sort.SortedIn (ltOf cfV) 0 d.size d) : d.toList.Pairwise fun p q => p.1 ≤ q.1 := by
  rw [List.pairwise_iff_getElem]
  intro i j hi hj hij
  have hi' : i < d.size := by simpa using hi
  have hj' : j < d.size := by simpa using hj
  have := h i j (Nat.zero_le _) hij hj'
  rw [ltV, decide_eq_false_iff_not, getElem!_pos d j hj', getElem!_pos d i hi'] at this
  simp only [Array.getElem_toList]
  omega
theorem row_frozenV {w : World} {B n g c : Nat} {xs : List Value} (h : w.ownsRow B 32 2 (.slice (some ⟨g, 0, none⟩) n c) n xs) (j : Nat) : w.frozen? ⟨g, 0 + j, none⟩ = false := by
  rcases h.2 with ⟨e, _⟩ | ⟨g', cap, cur, e, _, hg, _⟩
  · cases e
  · cases e
    simp [World.frozen?, hg]
set_option maxHeartbeats 1000000 in
/-- slices.SortFunc by Make's closure -/
theorem vsort_any (w : World) (B : Nat) (ad : Option Addr) (n c : Nat) (l : List Pr) (hown : w.ownsRow B 32 2 (.slice ad n c) n (prCells l)) (hl : l.length = n) (hB : B ≤ w.heap.size) (hn : n ≤ 1000000) :
    Calls Try.prog 26 #[.slice ad n c, .func (.func 27) #[] #[]] w fun e w' => e = .returned (.tuple #[]) ∧ ∃ l', l'.Perm l ∧ (l'.Pairwise fun p q => p.1 ≤ q.1) ∧ Prs w' ad n l' ∧ Below B w w' := by
  by_cases h0 : n = 0
  · subst h0
    have hl0 : l = [] := List.eq_nil_of_length_eq_zero hl
    subst hl0
    refine Calls.mono (AnyF.slices_SortFunc_none Try.sortV ad c (.func (.func 27) #[] #[]) w) ?_
    rintro e w' ⟨rfl, rfl⟩
    exact ⟨rfl, [], List.Perm.refl _, List.Pairwise.nil, prs_nil _ _, Below.refl _ _⟩
  · rcases hown.2 with ⟨e, h'⟩ | ⟨g, cap, cur, e, hb, hg, _⟩
    · omega
    · cases e
      have hgl : g < w.heap.size := (Array.getElem?_eq_some_iff.1 hg).1
      have eg : ∀ args w, (callFunc 27 args).run Try.prog w = .ok (.enter 27 args) w := enters_of Try.func27 (by kernel_rfl) rfl
      have hH := holdsV (own_prs hown hl) (row_frozenV hown)
      have hs : l.toArray.size = n := by simpa using hl
      have hcon := AnyQ.slices_SortFunc Try.sortV 2 Try.isAgg32 Try.sizeOf32 encV (fun _ => rfl) (fun x v hv => by simp [encV] at hv; rcases hv with rfl | rfl <;> rfl) cfV swoV 27 #[] g 0 c l.toArray w eg (cmpLaysV _ _ _ _) hH hgl (by rw [hs]; omega)
      rw [hs] at hcon
      refine Calls.mono hcon ?_
      rintro e w' ⟨rfl, d', m, os, hP, hS, rfl⟩
      obtain ⟨p1, _, p3⟩ := hP
      rw [hs] at p1
      have e1 : d'.extract 0 n = d' := by rw [← p1]; simp
      have e2 : l.toArray.extract 0 n = l.toArray := by rw [← hs]; simp
      rw [e1, e2] at p3
      refine ⟨rfl, d'.toList, by simpa using p3, sorted_le (by rw [p1]; exact hS), ?_, ?_⟩
      · have := prsV (holdsK_sortWorldK_c encV 2 w g 0 l.toArray d' m os hH hgl (by rw [p1, hs]))
        rw [p1] at this
        exact this
      · exact (Below.refl B w).grown (grownBy_sortV d') hB (fun k hk => by cases hk; exact hb)

set_option maxHeartbeats 1000000 in
theorem vclone_any (a : Option Addr) (n c : Nat) (l : List Pr) (w : World) (hb : Prs w a n l) (hnil : a = none → n = 0 ∧ c = 0) (hbig : n ≤ 1000000) :
    Calls Try.prog 25 #[.slice a n c] w fun e w' => ∃ ad cp, e = .returned (.slice ad n cp) ∧ w'.ownsRow w.heap.size 32 2 (.slice ad n cp) n (prCells l) ∧ Below w.heap.size w w' := by
  have q22 : ∀ (w : World) (a : Option Addr) (n c n' c' : Nat), (binOp .eql 25 (.slice a n c) (.slice none n' c')).run Try.prog w = .ok (.bool a.isNone) w := fun w a n c n' c' => Lib.run_eql_slice_nil w _ _ a n c n' c' Try.underlying25
  cases a with
  | none =>
    obtain ⟨rfl, rfl⟩ := hnil rfl
    have hl : l = [] := List.eq_nil_of_length_eq_zero hb.1
    subst hl
    go_enter Try.func25, Try.ntmps25
    go_wp2
    go_ret
    exact ⟨none, 0, rfl, World.ownsRow_nil _ _ _ _, Below.refl _ _⟩
  | some a =>
    have hB0 : Below w.heap.size w (w.alloc (.cells #[] 32)) := (Below.refl _ _).alloc (Nat.le_refl _) _
    have hb0 : Prs (w.alloc (.cells #[] 32)) (some a) n l := hb.kept hB0
    have hr0 : (w.alloc (.cells #[] 32)).ownsRow w.heap.size 32 2 (.slice (some ⟨w.heap.size, 0, none⟩) 0 0) 0 (prCells []) := row_emptyV w w.heap.size (Nat.le_refl _)
    go_enter Try.func25, Try.ntmps25
    go_wp2_with (at_builtin; refine wpList_appV rfl _ _ rfl w.heap.size 0 n c (.slice (some ⟨w.heap.size, 0, none⟩) 0 0) [] l (some a) rfl rfl hr0 hb0 hnil (by omega) (by simp) ?_; intro a' c' w1 hnc hown hB1)
    go_ret
    simp only [Nat.zero_add, List.nil_append] at *
    exact ⟨_, _, rfl, hown, hB0.trans hB1⟩
end Go.Proofs.Ytfkepoibgmljkaa

/- The kit's contracts, laid at this translation by the kit's own command, in plain words. -/
namespace Go.Proofs.Ytfkepoibgmljkaa
open Go.RowKit Go.Shelf

def Try.growB_ren : Go.Shelf.Ren := ⟨fun | 4 => 43 | n => n, fun | 22 => 23 | 25 => 5 | 3 => 3 | 4 => 4 | 9 => 9 | 20 => 20 | 0 => 0 | n => n, fun | n => n⟩
theorem Try.growB : Go.Proofs.Lays8.n4 Try.prog Try.growB_ren := {
  mixed := by kernel_rfl
  f4 := ⟨Try.f43.name, by decide, Try.func43.trans (congrArg some (by kernel_rfl))⟩
  t0 := Try.underlying0
  a0 := Try.isAgg0
  z0 := Try.sizeOf0
  v0 := Try.zeroValue0
  t3 := Try.underlying3
  a3 := Try.isAgg3
  z3 := Try.sizeOf3
  v3 := Try.zeroValue3
  t4 := Try.underlying4
  a4 := Try.isAgg4
  z4 := Try.sizeOf4
  v4 := Try.zeroValue4
  t9 := Try.underlying9
  a9 := Try.isAgg9
  z9 := Try.sizeOf9
  v9 := Try.zeroValue9
  t20 := Try.underlying20
  a20 := Try.isAgg20
  z20 := Try.sizeOf20
  v20 := Try.zeroValue20
  t22 := Try.underlying23
  a22 := Try.isAgg23
  z22 := Try.sizeOf23
  v22 := Try.zeroValue23 }

end Go.Proofs.Ytfkepoibgmljkaa
