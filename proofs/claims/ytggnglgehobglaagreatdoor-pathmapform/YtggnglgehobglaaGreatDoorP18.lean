import Derived.Shelf.SlIter.Collect
import Derived.Shelf.SlSortCmp.Whole1
import Derived.Test.YtggnglgehobglaaGreatDoorProg
import Derived.Test.YtggnglgehobglaaGreatDoorP03
/- The kit's contracts on a map's keys, slices.Collect and slices.SortFunc, laid at this translation by the kit's own command, in plain words. -/
namespace Go.Proofs.YtggnglgehobglaaGreatDoor
open Go.RowKit Go.Maps Go.Sort Go.Shelf

def Tryz.keysM_ren : Go.Shelf.Ren := ⟨fun | 7 => 54 | 10 => 76 | n => n, fun | 23 => 58 | 26 => 9 | 3 => 31 | 28 => 85 | 0 => 0 | 27 => 84 | 33 => 42 | 4 => 4 | n => n, fun | n => n⟩
theorem Tryz.keysM : Go.Proofs.SlLaysZ.n7 Tryz.prog Tryz.keysM_ren := {
  mixed := by kernel_rfl
  f7 := ⟨Tryz.f54.name, by decide, Tryz.func54.trans (congrArg some (by kernel_rfl))⟩
  f10 := ⟨Tryz.f76.name, by decide, Tryz.func76.trans (congrArg some (by kernel_rfl))⟩
  t0 := Tryz.underlying0
  a0 := Tryz.isAgg0
  z0 := Tryz.sizeOf0
  v0 := Tryz.zeroValue0
  t4 := Tryz.underlying4
  a4 := Tryz.isAgg4
  z4 := Tryz.sizeOf4
  v4 := Tryz.zeroValue4
  t23 := Tryz.underlying58
  a23 := Tryz.isAgg58
  z23 := Tryz.sizeOf58
  v23 := Tryz.zeroValue58
  t26 := Tryz.underlying9
  a26 := Tryz.isAgg9
  z26 := Tryz.sizeOf9
  v26 := Tryz.zeroValue9
  t27 := Tryz.underlying84
  a27 := Tryz.isAgg84
  z27 := Tryz.sizeOf84
  v27 := Tryz.zeroValue84
  t28 := Tryz.underlying85
  a28 := Tryz.isAgg85
  z28 := Tryz.sizeOf85
  v28 := Tryz.zeroValue85
  t33 := Tryz.underlying42
  a33 := Tryz.isAgg42
  z33 := Tryz.sizeOf42
  v33 := Tryz.zeroValue42 }
def Tryz.collectM_ren : Go.Shelf.Ren := ⟨fun | 8 => 74 | 11 => 97 | n => n, fun | 26 => 9 | 28 => 85 | 24 => 82 | 0 => 0 | 33 => 42 | 4 => 4 | n => n, fun | n => n⟩
theorem Tryz.collectM : Go.Proofs.SlLaysZ.n8 Tryz.prog Tryz.collectM_ren := {
  mixed := by kernel_rfl
  f8 := ⟨Tryz.f74.name, by decide, Tryz.func74.trans (congrArg some (by kernel_rfl))⟩
  f11 := ⟨Tryz.f97.name, by decide, Tryz.func97.trans (congrArg some (by kernel_rfl))⟩
  t0 := Tryz.underlying0
  a0 := Tryz.isAgg0
  z0 := Tryz.sizeOf0
  v0 := Tryz.zeroValue0
  t24 := Tryz.underlying82
  a24 := Tryz.isAgg82
  z24 := Tryz.sizeOf82
  v24 := Tryz.zeroValue82
  t26 := Tryz.underlying9
  a26 := Tryz.isAgg9
  z26 := Tryz.sizeOf9
  v26 := Tryz.zeroValue9
  t28 := Tryz.underlying85
  a28 := Tryz.isAgg85
  z28 := Tryz.sizeOf85
  v28 := Tryz.zeroValue85
  i26 := by kernel_rfl }
def Tryz.sortM_ren : Go.Shelf.Ren := ⟨fun | 6 => 75 | 15 => 99 | 14 => 98 | 28 => 121 | 29 => 122 | 20 => 113 | 21 => 114 | 22 => 115 | 23 => 116 | 24 => 117 | 25 => 118 | 26 => 119 | 27 => 120 | 46 => 130 | 47 => 131 | 48 => 132 | 49 => 133 | 50 => 134 | 57 => 139 | n => n, fun | 22 => 82 | 24 => 9 | 25 => 87 | 3 => 3 | 39 => 120 | 0 => 0 | 53 => 138 | 55 => 37 | 4 => 4 | 46 => 131 | 45 => 130 | 50 => 135 | 5 => 5 | 9 => 9 | 66 => 148 | 70 => 152 | 76 => 155 | 77 => 114 | n => n, fun | n => n⟩
theorem Tryz.sortM : Go.Proofs.SlLaysF.n6 Tryz.prog Tryz.sortM_ren := {
  mixed := by kernel_rfl
  f6 := ⟨Tryz.f75.name, by decide, Tryz.func75.trans (congrArg some (by kernel_rfl))⟩
  f14 := ⟨Tryz.f98.name, by decide, Tryz.func98.trans (congrArg some (by kernel_rfl))⟩
  f15 := Tryz.func99.trans (congrArg some (by kernel_rfl))
  f20 := ⟨Tryz.f113.name, by decide, Tryz.func113.trans (congrArg some (by kernel_rfl))⟩
  f21 := ⟨Tryz.f114.name, by decide, Tryz.func114.trans (congrArg some (by kernel_rfl))⟩
  f22 := ⟨Tryz.f115.name, by decide, Tryz.func115.trans (congrArg some (by kernel_rfl))⟩
  f23 := ⟨Tryz.f116.name, by decide, Tryz.func116.trans (congrArg some (by kernel_rfl))⟩
  f24 := ⟨Tryz.f117.name, by decide, Tryz.func117.trans (congrArg some (by kernel_rfl))⟩
  f25 := ⟨Tryz.f118.name, by decide, Tryz.func118.trans (congrArg some (by kernel_rfl))⟩
  f26 := ⟨Tryz.f119.name, by decide, Tryz.func119.trans (congrArg some (by kernel_rfl))⟩
  f27 := ⟨Tryz.f120.name, by decide, Tryz.func120.trans (congrArg some (by kernel_rfl))⟩
  f28 := Tryz.func121.trans (congrArg some (by kernel_rfl))
  f29 := Tryz.func122.trans (congrArg some (by kernel_rfl))
  f46 := ⟨Tryz.f130.name, by decide, Tryz.func130.trans (congrArg some (by kernel_rfl))⟩
  f47 := Tryz.func131.trans (congrArg some (by kernel_rfl))
  f48 := Tryz.func132.trans (congrArg some (by kernel_rfl))
  f49 := ⟨Tryz.f133.name, by decide, Tryz.func133.trans (congrArg some (by kernel_rfl))⟩
  f50 := ⟨Tryz.f134.name, by decide, Tryz.func134.trans (congrArg some (by kernel_rfl))⟩
  f57 := ⟨Tryz.f139.name, by decide, Tryz.func139.trans (congrArg some (by kernel_rfl))⟩
  t0 := Tryz.underlying0
  a0 := Tryz.isAgg0
  z0 := Tryz.sizeOf0
  v0 := Tryz.zeroValue0
  t3 := Tryz.underlying3
  a3 := Tryz.isAgg3
  z3 := Tryz.sizeOf3
  v3 := Tryz.zeroValue3
  t4 := Tryz.underlying4
  a4 := Tryz.isAgg4
  z4 := Tryz.sizeOf4
  v4 := Tryz.zeroValue4
  t5 := Tryz.underlying5
  a5 := Tryz.isAgg5
  z5 := Tryz.sizeOf5
  v5 := Tryz.zeroValue5
  t9 := Tryz.underlying9
  a9 := Tryz.isAgg9
  z9 := Tryz.sizeOf9
  v9 := Tryz.zeroValue9
  t22 := Tryz.underlying82
  a22 := Tryz.isAgg82
  z22 := Tryz.sizeOf82
  v22 := Tryz.zeroValue82
  a24 := Tryz.isAgg9
  z24 := Tryz.sizeOf9
  t25 := Tryz.underlying87
  a25 := Tryz.isAgg87
  z25 := Tryz.sizeOf87
  v25 := Tryz.zeroValue87
  t39 := Tryz.underlying120
  a39 := Tryz.isAgg120
  z39 := Tryz.sizeOf120
  v39 := Tryz.zeroValue120
  t45 := Tryz.underlying130
  a45 := Tryz.isAgg130
  z45 := Tryz.sizeOf130
  v45 := Tryz.zeroValue130
  t46 := Tryz.underlying131
  a46 := Tryz.isAgg131
  z46 := Tryz.sizeOf131
  v46 := Tryz.zeroValue131
  t50 := Tryz.underlying135
  a50 := Tryz.isAgg135
  z50 := Tryz.sizeOf135
  v50 := Tryz.zeroValue135
  t53 := Tryz.underlying138
  a53 := Tryz.isAgg138
  z53 := Tryz.sizeOf138
  v53 := Tryz.zeroValue138
  t55 := Tryz.underlying37
  a55 := Tryz.isAgg37
  z55 := Tryz.sizeOf37
  v55 := Tryz.zeroValue37
  t66 := Tryz.underlying148
  a66 := Tryz.isAgg148
  z66 := Tryz.sizeOf148
  v66 := Tryz.zeroValue148
  t70 := Tryz.underlying152
  a70 := Tryz.isAgg152
  z70 := Tryz.sizeOf152
  v70 := Tryz.zeroValue152
  t76 := Tryz.underlying155
  a76 := Tryz.isAgg155
  z76 := Tryz.sizeOf155
  v76 := Tryz.zeroValue155
  t77 := Tryz.underlying114
  a77 := Tryz.isAgg114
  z77 := Tryz.sizeOf114
  v77 := Tryz.zeroValue114 }

end Go.Proofs.YtggnglgehobglaaGreatDoor

/- The walk of Check, with how much was drawn (gend.py, out of NCheck). -/
namespace Go.Proofs.YtggnglgehobglaaGreatDoor
open Go.RowKit

attribute [local go_sem] Oper.semAt_some

/-- what lay below stays, and nothing that was drawn is given back -/
structure LoD (B : Nat) (w w' : World) : Prop where
  toBelow : Below B w w'
  d : w.drawn ≤ w'.drawn
theorem LoD.refl (B : Nat) (w : World) : LoD B w w := ⟨Below.refl B w, Nat.le_refl _⟩
theorem LoD.trans {B : Nat} {a b c : World} (h : LoD B a b) (k : LoD B b c) : LoD B a c := ⟨h.toBelow.trans k.toBelow, Nat.le_trans h.d k.d⟩
theorem LoD.mono {B B' : Nat} {w w' : World} (h : LoD B w w') (hb : B' ≤ B) : LoD B' w w' := ⟨h.toBelow.mono hb, h.d⟩
theorem LoD.size {B : Nat} {w w' : World} (h : LoD B w w') : w.heap.size ≤ w'.heap.size := h.toBelow.size
theorem LoD.alloc {B : Nat} {w w' : World} (h : LoD B w w') (hb : B ≤ w'.heap.size) (o : Obj) : LoD B w (w'.alloc o) := ⟨h.toBelow.alloc hb o, h.d⟩
theorem LoD.setCell {B : Nat} {w w' : World} (h : LoD B w w') {p : Addr} (hp : B ≤ p.block) (v : Value) : LoD B w (w'.setCell p v) := ⟨h.toBelow.setCell hp v, h.d⟩
theorem dspot_new {w : World} {s : ByteArray} (a b : Int) (h : spotV (spot (bs s)) = .agg #[.int .i64 a, .int .i64 b]) {x : Act} (ha : x.tmps[2]?.getD undef = .pointer (some ⟨w.heap.size, 0, none⟩)) (hd : x.defers = []) :
    bodyPost Tryz.prog Tryz.f73 (fun e w' => e = Ending.returned (spotV (spot (bs s))) ∧ LoD w.heap.size w w') Exit.ret x (w.alloc (.cells #[.int .i64 a, .int .i64 b] 48)) :=
  spot_ret (k := 2) rfl (Box2.new _ _ _) ha hd ⟨by rw [h], (LoD.refl _ w).alloc (Nat.le_refl _) _⟩

set_option maxHeartbeats 2000000 in
theorem dcheck_any (s : ByteArray) (w : World) (hs : s.size ≤ maxLen) :
    Calls Tryz.prog 73 #[.string s] w fun e w' => e = .returned (spotV (spot (bs s))) ∧ LoD w.heap.size w w' := by
  have hs' : s.size ≤ 9223372036854775807 := by unfold maxLen at hs; omega
  by_cases h1 : s.toList = []
  · go_enter Tryz.func73, Tryz.ntmps73
    go_wp2
    exact dspot_new _ _ (by rw [toList_bs] at h1; rw [h1]; rfl) rfl rfl
  · by_cases h2 : s.toList = [46]
    · go_enter Tryz.func73, Tryz.ntmps73
      go_wp2
      exact dspot_new _ _ (by rw [toList_bs] at h2; rw [h2]; rfl) rfl rfl
    · by_cases h3 : s.toList = [46, 46]
      · go_enter Tryz.func73, Tryz.ntmps73
        go_wp2
        exact dspot_new _ _ (by rw [toList_bs] at h3; rw [h3]; rfl) rfl rfl
      · have h0 : ¬ (bs s = [] ∨ bs s = [46] ∨ bs s = [46, 46]) := by rw [← toList_bs]; simp [h1, h2, h3]
        have b1 : s.toList.isEmpty = false := by simpa using h1
        have b2 : (s.toList == [46]) = false := by simpa using h2
        have b3 : (s.toList == [46, 46]) = false := by simpa using h3
        by_cases h4 : 32 < s.size
        · have i4 : (32 : Int) < s.size := by omega
          go_enter Tryz.func73, Tryz.ntmps73
          go_wp2
          exact dspot_new _ _ (by unfold spot; rw [if_neg h0, if_pos (show 32 < (bs s).length by rw [bs_len]; exact h4)]; rfl) rfl rfl
        · have i4 : ¬ (32 : Int) < s.size := by omega
          have hsp : spot (bs s) = match badAt (bs s) with | some k => (140, k) | none => (0, 0) := by
            unfold spot; rw [if_neg h0, if_neg (show ¬ 32 < (bs s).length by rw [bs_len]; exact h4)] <;> cases badAt (bs s) <;> rfl
          have HS : Hid (spot (bs s) = match badAt (bs s) with | some k => (140, k) | none => (0, 0)) := hsp
          clear hsp h0
          go_enter Tryz.func73, Tryz.ntmps73
          go_wp2
          go_loopw [] (fun wr => ∃ p : Nat, p ≤ s.size ∧ wr = (w.alloc (.cells #[.int .i64 0, .int .i64 0] 48)).iter s p ∧ Hid (badAt (bs s) = (badAt ((bs s).drop p)).map (· + p))) (fun wr => s.size - wr.iterPos (w.heap.size + 1))
          case atStart => exact ⟨0, Nat.zero_le _, rfl, by simp [Hid]⟩
          case round =>
            obtain ⟨p, hp, rfl, H⟩ := hrel
            by_cases hlt : p < s.size
            · obtain ⟨r, hr⟩ : ∃ r, r = (dec ((bs s).drop p)).1 := ⟨_, rfl⟩
              obtain ⟨d, hd⟩ : ∃ d, d = (dec ((bs s).drop p)).2 := ⟨_, rfl⟩
              have hne : (bs s).drop p ≠ [] := fun e => by
                have := congrArg List.length e
                rw [List.length_drop, bs_len] at this; simp at this; omega
              have hd1 : 1 ≤ d := by rw [hd]; exact dec_pos _
              have hd2 : p + d ≤ s.size := by
                have := dec_le _ hne
                rw [← hd, List.length_drop, bs_len] at this; omega
              have hdec : Utf8.decode s p = (r, d) := by rw [decode_dec, hr, hd]; rfl
              have hrle : r ≤ 2147483647 := by have := decode_le s p; rw [hdec] at this; exact this
              have hnx := run_next_any (P := Tryz.prog) (w.alloc (.cells #[.int .i64 0, .int .i64 0] 48)) s p (h := hlt)
              rw [hdec] at hnx
              obtain ⟨W1, hW1⟩ : ∃ W1, W1 = (w.alloc (.cells #[.int .i64 0, .int .i64 0] 48)).iter s p := ⟨_, rfl⟩
              obtain ⟨W2, hW2⟩ : ∃ W2, W2 = (w.alloc (.cells #[.int .i64 0, .int .i64 0] 48)).iter s (p + d) := ⟨_, rfl⟩
              have hbox : Box2 W2 w.heap.size (.int .i64 0) (.int .i64 0) := by
                rw [hW2]; exact (Box2.new w _ _).kept ((Below.refl _ _).alloc (Nat.le_refl _) _)
              have HB2 : Hid (LoD w.heap.size w W2) := by
                rw [hW2]; exact ((LoD.refl _ w).alloc (Nat.le_refl _) _).alloc (by simp) _
              have HBox : Hid (Box2 W2 w.heap.size (.int .i64 0) (.int .i64 0)) := hbox
              have HW2 : Hid (W2 = (w.alloc (.cells #[.int .i64 0, .int .i64 0] 48)).iter s (p + d)) := hW2
              have hm1 : Hid (s.size - W2.iterPos (w.heap.size + 1) < s.size - W1.iterPos (w.heap.size + 1)) := by
                have e1 := World.iterPos_iter (w.alloc (.cells #[.int .i64 0, .int .i64 0] 48)) s p
                have e2 := World.iterPos_iter (w.alloc (.cells #[.int .i64 0, .int .i64 0] 48)) s (p + d)
                rw [← hW1, World.size_alloc] at e1
                rw [← hW2, World.size_alloc] at e2
                show _ < _
                rw [e1, e2]; omega
              rw [← hW1, ← hW2, World.size_alloc] at hnx
              rw [← hW1]
              obtain ⟨c0, c1⟩ := hbox.cell
              obtain ⟨f0, f1⟩ := hbox.frozen
              have HBd : Hid (bad ((bs s).drop p) = (!may (r : Int) || (decide (r = 65533) && !(fffd.isPrefixOf (bs (s.extract p s.size)))))) := by
                show _ = _
                rw [bs_extract, show (bs s).take s.size = bs s by rw [← bs_len]; exact List.take_length]
                simp only [bad, may, ← hr, Bool.not_not]
                have e1 : decide ((r : Int) < 32) = decide (r < 32) := decide_eq_decide.2 (by omega)
                have e2 : decide ((r : Int) = 127) = decide (r = 127) := decide_eq_decide.2 (by omega)
                have e3 : decide ((r : Int) = 47) = decide (r = 47) := decide_eq_decide.2 (by omega)
                rw [e1, e2, e3]
              have HStop : Hid (bad ((bs s).drop p) = true → spotV (spot (bs s)) = .agg #[.int .i64 140, .int .i64 (p : Int)]) := fun hb => by
                rw [HS.out, H.out, badAt_bad _ hne hb]; simp [spotV]
              have HGo : Hid (bad ((bs s).drop p) = false → badAt (bs s) = (badAt ((bs s).drop (p + d))).map (· + (p + d))) := fun hb => by
                rw [H.out, badAt_go _ hne hb, ← hd, List.drop_drop, Option.map_map]
                congr 1
                funext x; simp; omega
              have HNe : Hid ((bs s).drop p ≠ []) := hne
              clear hne hd hr hdec hW1 hW2 hbox HS H
              have i3 : (p : Int) ≤ s.size := by omega
              have HEnd : Hid (bad ((bs s).drop p) = true → ∀ a : Act, a.tmps[2]?.getD undef = .pointer (some ⟨w.heap.size, 0, none⟩) → a.defers = [] → bodyPost Tryz.prog Tryz.f73 (fun e w' => e = Ending.returned (spotV (spot (bs s))) ∧ LoD w.heap.size w w') Exit.ret a ((W2.setCell ⟨w.heap.size, 0, none⟩ (.int .i64 140)).setCell ⟨w.heap.size, 1, none⟩ (.int .i64 (p : Int)))) := fun hb a ha hd =>
                spot_ret (k := 2) rfl (HBox.out.all _ _) ha hd ⟨by rw [HStop.out hb], (HB2.out.setCell (p := ⟨w.heap.size, 0, none⟩) (Nat.le_refl _) _).setCell (p := ⟨w.heap.size, 1, none⟩) (Nat.le_refl _) _⟩
              have HNext : Hid (bad ((bs s).drop p) = false → ∃ p', p' ≤ s.size ∧ W2 = (w.alloc (.cells #[.int .i64 0, .int .i64 0] 48)).iter s p' ∧ Hid (badAt (bs s) = (badAt ((bs s).drop p')).map (· + p'))) := fun hb => ⟨p + d, hd2, HW2.out, HGo.out hb⟩
              clear HW2 HBox HStop HGo HNe
              cases hmy : may (r : Int) with
              | false =>
                have HX : Hid (bad ((bs s).drop p) = true) := by show _ = _; rw [HBd.out, hmy]; rfl
                clear HBd HNext
                go_wp2_with (go_at_call 95; refine (mayStand_any r _).mono ?_; rintro e w' ⟨rfl, rfl⟩; rw [hmy])
                exact HEnd.out HX.out _ rfl rfl
              | true =>
                by_cases h65 : r = 65533
                · subst h65
                  simp only [show ((65533 : Nat) : Int) = 65533 from rfl] at hnx hmy HBd
                  cases hfp : (!(fffd.isPrefixOf (bs (s.extract p s.size)))) with
                  | true =>
                    have HX : Hid (bad ((bs s).drop p) = true) := by show _ = _; rw [HBd.out, hmy, hfp]; rfl
                    clear HBd HNext
                    go_wp2_with first
                      | (go_at_call 95; refine (mayStand_any 65533 _).mono ?_; rintro e w' ⟨rfl, rfl⟩; rw [hmy])
                      | (go_at_call 96; refine (broken_any (s.extract p s.size) _ (by simp; omega)).mono ?_; rintro e w' ⟨rfl, rfl⟩; rw [hfp])
                    exact HEnd.out HX.out _ rfl rfl
                  | false =>
                    have HX : Hid (bad ((bs s).drop p) = false) := by show _ = _; rw [HBd.out, hmy, hfp]; simp
                    clear HBd HEnd
                    go_wp2_with first
                      | (go_at_call 95; refine (mayStand_any 65533 _).mono ?_; rintro e w' ⟨rfl, rfl⟩; rw [hmy])
                      | (go_at_call 96; refine (broken_any (s.extract p s.size) _ (by simp; omega)).mono ?_; rintro e w' ⟨rfl, rfl⟩; rw [hfp])
                    go_roundw
                    case rel => exact HNext.out HX.out
                    case measure => exact hm1.out
                · have i5 : ¬ (r : Int) = 65533 := by omega
                  have HX : Hid (bad ((bs s).drop p) = false) := by show _ = _; rw [HBd.out, hmy]; simp [h65]
                  clear HBd HEnd
                  go_wp2_with (go_at_call 95; refine (mayStand_any r _).mono ?_; rintro e w' ⟨rfl, rfl⟩; rw [hmy])
                  go_roundw
                  case rel => exact HNext.out HX.out
                  case measure => exact hm1.out
            · obtain rfl : p = s.size := by omega
              have hnx := run_next_end (P := Tryz.prog) (w.alloc (.cells #[.int .i64 0, .int .i64 0] 48)) s s.size (h := Nat.lt_irrefl _)
              obtain ⟨W1, hW1⟩ : ∃ W1, W1 = (w.alloc (.cells #[.int .i64 0, .int .i64 0] 48)).iter s s.size := ⟨_, rfl⟩
              have hbox : Box2 W1 w.heap.size (.int .i64 0) (.int .i64 0) := by
                rw [hW1]; exact (Box2.new w _ _).kept ((Below.refl _ _).alloc (Nat.le_refl _) _)
              have HBox : Hid (Box2 W1 w.heap.size (.int .i64 0) (.int .i64 0)) := hbox
              have HB1 : Hid (LoD w.heap.size w W1) := by
                rw [hW1]; exact ((LoD.refl _ w).alloc (Nat.le_refl _) _).alloc (by simp) _
              rw [← hW1, World.size_alloc] at hnx
              rw [← hW1]
              obtain ⟨c0, c1⟩ := hbox.cell
              obtain ⟨f0, f1⟩ := hbox.frozen
              have HE : Hid (spotV (spot (bs s)) = .agg #[.int .i64 0, .int .i64 0]) := by
                show _ = _
                rw [HS.out, H.out, List.drop_eq_nil_of_le (by rw [bs_len]; exact Nat.le_refl _), badAt_nil]; rfl
              clear hW1 hbox HS H
              go_wp2
              exact spot_ret (k := 2) rfl (HBox.out.all _ _) rfl rfl ⟨by rw [HE.out], (HB1.out.setCell (p := ⟨w.heap.size, 0, none⟩) (Nat.le_refl _) _).setCell (p := ⟨w.heap.size, 1, none⟩) (Nat.le_refl _) _⟩
end Go.Proofs.YtggnglgehobglaaGreatDoor
