import Derived.Test.YtggnglgehobglaaGreatDoorProg
import Derived.Test.YtggnglgehobglaaGreatDoorP01
import Derived.Test.YtggnglgehobglaaGreatDoorP02
import Derived.Outline
import Derived.WalkSpells
import Derived.RangeFuncBox
/- The walks of Check and of what it calls. -/
namespace Go.Proofs.YtggnglgehobglaaGreatDoor
open Go.RowKit

/-- a text's bytes -/
def bs (s : ByteArray) : List UInt8 := s.data.toList
def mk (l : List UInt8) : ByteArray := ⟨l.toArray⟩
theorem bs_mk (l : List UInt8) : bs (mk l) = l := by simp [bs, mk]
theorem bs_inj {a b : ByteArray} (h : bs a = bs b) : a = b := by
  obtain ⟨x⟩ := a; obtain ⟨y⟩ := b
  exact congrArg ByteArray.mk (Array.toList_inj.1 h)
theorem mk_bs (s : ByteArray) : mk (bs s) = s := bs_inj (bs_mk _)
theorem bs_len (s : ByteArray) : (bs s).length = s.size := by simp [bs]
theorem bs_extract (s : ByteArray) (i j : Nat) : bs (s.extract i j) = ((bs s).take j).drop i := by
  unfold bs
  rw [ByteArray.data_extract, Array.toList_extract, List.extract_eq_take_drop, List.drop_take]
theorem bs_append (s t : ByteArray) : bs (s ++ t) = bs s ++ bs t := by
  unfold bs
  rw [ByteArray.data_append, Array.toList_append]
theorem bs_nil (s : ByteArray) : bs s = [] ↔ s.size = 0 := by rw [← bs_len]; exact List.length_eq_zero_iff.symm
theorem str_beq (s t : ByteArray) : (s.toList == t.toList) = decide (bs s = bs t) := by
  rw [ByteArray.toList_eq, ByteArray.toList_eq, Bool.eq_iff_iff, beq_iff_eq, decide_eq_true_eq]; rfl
/-- does l begin with p? -/
def pre (p l : List UInt8) : Bool := p.isPrefixOf l
theorem pre_iff (p l : List UInt8) : pre p l = true ↔ p <+: l := List.isPrefixOf_iff_prefix

theorem lite_prefix (s p : ByteArray) (w : World) (hs : s.size ≤ maxLen) (hp : p.size ≤ maxLen) :
    Calls Tryz.prog 84 #[.string s, .string p] w fun e w' => e = .returned (.bool (pre (bs p) (bs s))) ∧ w' = w := by
  have hs' : s.size ≤ 9223372036854775807 := by unfold maxLen at hs; omega
  have hp' : p.size ≤ 9223372036854775807 := by unfold maxLen at hp; omega
  by_cases h : p.size ≤ s.size
  · have i1 : (p.size : Int) ≤ s.size := by omega
    go_enter Tryz.func84, Tryz.ntmps84
    go_wp2
    go_ret
    refine ⟨?_, rfl⟩
    have e : ((s.extract 0 p.size).toList == p.toList) = pre (bs p) (bs s) := by
      rw [str_beq, bs_extract, List.drop_zero, Bool.eq_iff_iff, decide_eq_true_eq, pre_iff, List.prefix_iff_eq_take, bs_len]
      exact ⟨fun h => h.symm, fun h => h.symm⟩
    rw [← e]; rfl
  · have i1 : ¬ (p.size : Int) ≤ s.size := by omega
    go_enter Tryz.func84, Tryz.ntmps84
    go_wp2
    go_ret
    refine ⟨?_, rfl⟩
    have e : pre (bs p) (bs s) = false := by
      rw [Bool.eq_false_iff]; intro hh
      have := ((pre_iff _ _).1 hh).length_le
      rw [bs_len, bs_len] at this; omega
    rw [e]; rfl

theorem has_prefix (s p : ByteArray) (w : World) (hs : s.size ≤ maxLen) (hp : p.size ≤ maxLen) :
    Calls Tryz.prog 62 #[.string s, .string p] w fun e w' => e = .returned (.bool (pre (bs p) (bs s))) ∧ w' = w := by
  go_enter Tryz.func62, Tryz.ntmps62
  go_wp2_with (go_at_call 84; refine (lite_prefix s p w hs hp).mono ?_; rintro e w' ⟨rfl, rfl⟩)
  go_ret
  exact ⟨rfl, rfl⟩

theorem broken_any (s : ByteArray) (w : World) (hs : s.size ≤ maxLen) :
    Calls Tryz.prog 96 #[.string s] w fun e w' => e = .returned (.bool (!(fffd.isPrefixOf (bs s)))) ∧ w' = w := by
  go_enter Tryz.func96, Tryz.ntmps96
  go_wp2_with (go_at_call 62; refine (has_prefix s ⟨#[239, 191, 189]⟩ w hs (by decide)).mono ?_; rintro e w' ⟨rfl, rfl⟩)
  go_ret
  exact ⟨rfl, rfl⟩

def may (r : Int) : Bool := !(decide (r < 32) || decide (r = 127) || decide (r = 47))
theorem mayStand_any (r : Int) (w : World) :
    Calls Tryz.prog 95 #[.int .i32 r] w fun e w' => e = .returned (.bool (may r)) ∧ w' = w := by
  go_enter Tryz.func95, Tryz.ntmps95
  go_wp2
  all_goals go_ret
  all_goals refine ⟨?_, rfl⟩
  all_goals congr 2
  all_goals simp_all [may]
  all_goals omega

/-- what is wrong with a text, as a value -/
def spotV (p : Nat × Nat) : Value := .agg #[.int .i64 (p.1 : Int), .int .i64 (p.2 : Int)]
def Box2 (W : World) (g : Nat) (u0 u1 : Value) : Prop := W.heap[g]? = some (.cells #[u0, u1] 48 (0, 0))
theorem Box2.lt {W : World} {g : Nat} {u0 u1 : Value} (h : Box2 W g u0 u1) : g < W.heap.size := (Array.getElem?_eq_some_iff.1 h).1
theorem Box2.new (W : World) (u0 u1 : Value) : Box2 (W.alloc (.cells #[u0, u1] 48)) W.heap.size u0 u1 := World.alloc_heap_new W _
theorem Box2.cell {W : World} {g : Nat} {u0 u1 : Value} (h : Box2 W g u0 u1) : W.cell? ⟨g, 0, none⟩ = some u0 ∧ W.cell? ⟨g, 1, none⟩ = some u1 := by
  simp [World.cell?, show W.heap[g]? = _ from h]
theorem Box2.frozen {W : World} {g : Nat} {u0 u1 : Value} (h : Box2 W g u0 u1) : W.frozen? ⟨g, 0, none⟩ = false ∧ W.frozen? ⟨g, 1, none⟩ = false := by
  simp [World.frozen?, show W.heap[g]? = _ from h]
theorem Box2.all {W : World} {g : Nat} {v0 v1 : Value} (h : Box2 W g v0 v1) (u0 u1 : Value) : Box2 ((W.setCell ⟨g, 0, none⟩ u0).setCell ⟨g, 1, none⟩ u1) g u0 u1 := by
  have h' : W.heap[g]? = _ := h
  simp [Box2, World.setCell, Array.getElem?_modify, h', Array.setIfInBounds]
theorem Box2.other {W : World} {g k i : Nat} {u0 u1 : Value} (h : Box2 W g u0 u1) (hk : g ≠ k) (u : Value) : Box2 (W.setCell ⟨k, i, none⟩ u) g u0 u1 :=
  (Below.heap_setCell _ _ _ _ hk).trans h
theorem Box2.kept {W W' : World} {g : Nat} {u0 u1 : Value} (h : Box2 W g u0 u1) (hB : Below W.heap.size W W') : Box2 W' g u0 u1 := (hB.block g h.lt).trans h

theorem spot_ret {k : Nat} {f : Func} {W : World} {p : Nat} {u0 u1 : Value} {a : Act} {P : Ending → World → Prop} (hf : f.results = #[ResultVar.cell k 48]) (hb : Box2 W p u0 u1) (ha : a.tmps[k]?.getD undef = .pointer (some ⟨p, 0, none⟩)) (hd : a.defers = []) (hP : P (.returned (.agg #[u0, u1])) W) : bodyPost Tryz.prog f P Exit.ret a W := by
  obtain ⟨c0, c1⟩ := hb.cell
  exact bodyPost_ret (v := .agg #[u0, u1]) (by simp [results, hf, go_sem, ha, c0, c1]) hd hP

theorem toList_bs (s : ByteArray) : s.toList = bs s := ByteArray.toList_eq s

theorem spot_new {w : World} {s : ByteArray} (a b : Int) (h : spotV (spot (bs s)) = .agg #[.int .i64 a, .int .i64 b]) {x : Act} (ha : x.tmps[2]?.getD undef = .pointer (some ⟨w.heap.size, 0, none⟩)) (hd : x.defers = []) :
    bodyPost Tryz.prog Tryz.f73 (fun e w' => e = Ending.returned (spotV (spot (bs s))) ∧ Below w.heap.size w w') Exit.ret x (w.alloc (.cells #[.int .i64 a, .int .i64 b] 48)) :=
  spot_ret (k := 2) rfl (Box2.new _ _ _) ha hd ⟨by rw [h], (Below.refl _ w).alloc (Nat.le_refl _) _⟩

set_option maxHeartbeats 2000000 in
theorem check_any (s : ByteArray) (w : World) (hs : s.size ≤ maxLen) :
    Calls Tryz.prog 73 #[.string s] w fun e w' => e = .returned (spotV (spot (bs s))) ∧ Below w.heap.size w w' := by
  have hs' : s.size ≤ 9223372036854775807 := by unfold maxLen at hs; omega
  by_cases h1 : s.toList = []
  · go_enter Tryz.func73, Tryz.ntmps73
    go_wp2
    exact spot_new _ _ (by rw [toList_bs] at h1; rw [h1]; rfl) rfl rfl
  · by_cases h2 : s.toList = [46]
    · go_enter Tryz.func73, Tryz.ntmps73
      go_wp2
      exact spot_new _ _ (by rw [toList_bs] at h2; rw [h2]; rfl) rfl rfl
    · by_cases h3 : s.toList = [46, 46]
      · go_enter Tryz.func73, Tryz.ntmps73
        go_wp2
        exact spot_new _ _ (by rw [toList_bs] at h3; rw [h3]; rfl) rfl rfl
      · have h0 : ¬ (bs s = [] ∨ bs s = [46] ∨ bs s = [46, 46]) := by rw [← toList_bs]; simp [h1, h2, h3]
        have b1 : s.toList.isEmpty = false := by simpa using h1
        have b2 : (s.toList == [46]) = false := by simpa using h2
        have b3 : (s.toList == [46, 46]) = false := by simpa using h3
        by_cases h4 : 32 < s.size
        · have i4 : (32 : Int) < s.size := by omega
          go_enter Tryz.func73, Tryz.ntmps73
          go_wp2
          exact spot_new _ _ (by unfold spot; rw [if_neg h0, if_pos (show 32 < (bs s).length by rw [bs_len]; exact h4)]; rfl) rfl rfl
        · have i4 : ¬ (32 : Int) < s.size := by omega
          have hsp : spot (bs s) = match badAt (bs s) with | some k => (140, k) | none => (0, 0) := by
            unfold spot; rw [if_neg h0, if_neg (show ¬ 32 < (bs s).length by rw [bs_len]; exact h4)] <;> cases badAt (bs s) <;> rfl
          have HS : Hid (spot (bs s) = match badAt (bs s) with | some k => (140, k) | none => (0, 0)) := hsp
          clear hsp h0
          go_enter Tryz.func73, Tryz.ntmps73
          go_wp2
          go_loopw [] (fun wr => ∃ p : Nat, p ≤ s.size ∧ wr = (w.alloc (.cells #[.int .i64 0, .int .i64 0] 48)).iter s p ∧ Hid (badAt (bs s) = (badAt ((bs s).drop p)).map (· + p))) (fun wr => s.size - wr.iterPos (w.heap.size + 1))
          case atStart => exact ⟨0, Nat.zero_le _, rfl, by simp [Hid]⟩
          case round =>
            obtain ⟨p, hp, rfl, H⟩ := hrel
            by_cases hlt : p < s.size
            · obtain ⟨r, hr⟩ : ∃ r, r = (dec ((bs s).drop p)).1 := ⟨_, rfl⟩
              obtain ⟨d, hd⟩ : ∃ d, d = (dec ((bs s).drop p)).2 := ⟨_, rfl⟩
              have hne : (bs s).drop p ≠ [] := fun e => by
                have := congrArg List.length e
                rw [List.length_drop, bs_len] at this; simp at this; omega
              have hd1 : 1 ≤ d := by rw [hd]; exact dec_pos _
              have hd2 : p + d ≤ s.size := by
                have := dec_le _ hne
                rw [← hd, List.length_drop, bs_len] at this; omega
              have hdec : Utf8.decode s p = (r, d) := by rw [decode_dec, hr, hd]; rfl
              have hrle : r ≤ 2147483647 := by have := decode_le s p; rw [hdec] at this; exact this
              have hnx := run_next_any (P := Tryz.prog) (w.alloc (.cells #[.int .i64 0, .int .i64 0] 48)) s p (h := hlt)
              rw [hdec] at hnx
              obtain ⟨W1, hW1⟩ : ∃ W1, W1 = (w.alloc (.cells #[.int .i64 0, .int .i64 0] 48)).iter s p := ⟨_, rfl⟩
              obtain ⟨W2, hW2⟩ : ∃ W2, W2 = (w.alloc (.cells #[.int .i64 0, .int .i64 0] 48)).iter s (p + d) := ⟨_, rfl⟩
              have hbox : Box2 W2 w.heap.size (.int .i64 0) (.int .i64 0) := by
                rw [hW2]; exact (Box2.new w _ _).kept ((Below.refl _ _).alloc (Nat.le_refl _) _)
              have HB2 : Hid (Below w.heap.size w W2) := by
                rw [hW2]; exact ((Below.refl _ w).alloc (Nat.le_refl _) _).alloc (by simp) _
              have HBox : Hid (Box2 W2 w.heap.size (.int .i64 0) (.int .i64 0)) := hbox
              have HW2 : Hid (W2 = (w.alloc (.cells #[.int .i64 0, .int .i64 0] 48)).iter s (p + d)) := hW2
              have hm1 : Hid (s.size - W2.iterPos (w.heap.size + 1) < s.size - W1.iterPos (w.heap.size + 1)) := by
                have e1 := World.iterPos_iter (w.alloc (.cells #[.int .i64 0, .int .i64 0] 48)) s p
                have e2 := World.iterPos_iter (w.alloc (.cells #[.int .i64 0, .int .i64 0] 48)) s (p + d)
                rw [← hW1, World.size_alloc] at e1
                rw [← hW2, World.size_alloc] at e2
                show _ < _
                rw [e1, e2]; omega
              rw [← hW1, ← hW2, World.size_alloc] at hnx
              rw [← hW1]
              obtain ⟨c0, c1⟩ := hbox.cell
              obtain ⟨f0, f1⟩ := hbox.frozen
              have HBd : Hid (bad ((bs s).drop p) = (!may (r : Int) || (decide (r = 65533) && !(fffd.isPrefixOf (bs (s.extract p s.size)))))) := by
                show _ = _
                rw [bs_extract, show (bs s).take s.size = bs s by rw [← bs_len]; exact List.take_length]
                simp only [bad, may, ← hr, Bool.not_not]
                have e1 : decide ((r : Int) < 32) = decide (r < 32) := decide_eq_decide.2 (by omega)
                have e2 : decide ((r : Int) = 127) = decide (r = 127) := decide_eq_decide.2 (by omega)
                have e3 : decide ((r : Int) = 47) = decide (r = 47) := decide_eq_decide.2 (by omega)
                rw [e1, e2, e3]
              have HStop : Hid (bad ((bs s).drop p) = true → spotV (spot (bs s)) = .agg #[.int .i64 140, .int .i64 (p : Int)]) := fun hb => by
                rw [HS.out, H.out, badAt_bad _ hne hb]; simp [spotV]
              have HGo : Hid (bad ((bs s).drop p) = false → badAt (bs s) = (badAt ((bs s).drop (p + d))).map (· + (p + d))) := fun hb => by
                rw [H.out, badAt_go _ hne hb, ← hd, List.drop_drop, Option.map_map]
                congr 1
                funext x; simp; omega
              have HNe : Hid ((bs s).drop p ≠ []) := hne
              clear hne hd hr hdec hW1 hW2 hbox HS H
              have i3 : (p : Int) ≤ s.size := by omega
              have HEnd : Hid (bad ((bs s).drop p) = true → ∀ a : Act, a.tmps[2]?.getD undef = .pointer (some ⟨w.heap.size, 0, none⟩) → a.defers = [] → bodyPost Tryz.prog Tryz.f73 (fun e w' => e = Ending.returned (spotV (spot (bs s))) ∧ Below w.heap.size w w') Exit.ret a ((W2.setCell ⟨w.heap.size, 0, none⟩ (.int .i64 140)).setCell ⟨w.heap.size, 1, none⟩ (.int .i64 (p : Int)))) := fun hb a ha hd =>
                spot_ret (k := 2) rfl (HBox.out.all _ _) ha hd ⟨by rw [HStop.out hb], (HB2.out.setCell (p := ⟨w.heap.size, 0, none⟩) (Nat.le_refl _) _).setCell (p := ⟨w.heap.size, 1, none⟩) (Nat.le_refl _) _⟩
              have HNext : Hid (bad ((bs s).drop p) = false → ∃ p', p' ≤ s.size ∧ W2 = (w.alloc (.cells #[.int .i64 0, .int .i64 0] 48)).iter s p' ∧ Hid (badAt (bs s) = (badAt ((bs s).drop p')).map (· + p'))) := fun hb => ⟨p + d, hd2, HW2.out, HGo.out hb⟩
              clear HW2 HBox HStop HGo HNe
              cases hmy : may (r : Int) with
              | false =>
                have HX : Hid (bad ((bs s).drop p) = true) := by show _ = _; rw [HBd.out, hmy]; rfl
                clear HBd HNext
                go_wp2_with (go_at_call 95; refine (mayStand_any r _).mono ?_; rintro e w' ⟨rfl, rfl⟩; rw [hmy])
                exact HEnd.out HX.out _ rfl rfl
              | true =>
                by_cases h65 : r = 65533
                · subst h65
                  simp only [show ((65533 : Nat) : Int) = 65533 from rfl] at hnx hmy HBd
                  cases hfp : (!(fffd.isPrefixOf (bs (s.extract p s.size)))) with
                  | true =>
                    have HX : Hid (bad ((bs s).drop p) = true) := by show _ = _; rw [HBd.out, hmy, hfp]; rfl
                    clear HBd HNext
                    go_wp2_with first
                      | (go_at_call 95; refine (mayStand_any 65533 _).mono ?_; rintro e w' ⟨rfl, rfl⟩; rw [hmy])
                      | (go_at_call 96; refine (broken_any (s.extract p s.size) _ (by simp; omega)).mono ?_; rintro e w' ⟨rfl, rfl⟩; rw [hfp])
                    exact HEnd.out HX.out _ rfl rfl
                  | false =>
                    have HX : Hid (bad ((bs s).drop p) = false) := by show _ = _; rw [HBd.out, hmy, hfp]; simp
                    clear HBd HEnd
                    go_wp2_with first
                      | (go_at_call 95; refine (mayStand_any 65533 _).mono ?_; rintro e w' ⟨rfl, rfl⟩; rw [hmy])
                      | (go_at_call 96; refine (broken_any (s.extract p s.size) _ (by simp; omega)).mono ?_; rintro e w' ⟨rfl, rfl⟩; rw [hfp])
                    go_roundw
                    case rel => exact HNext.out HX.out
                    case measure => exact hm1.out
                · have i5 : ¬ (r : Int) = 65533 := by omega
                  have HX : Hid (bad ((bs s).drop p) = false) := by show _ = _; rw [HBd.out, hmy]; simp [h65]
                  clear HBd HEnd
                  go_wp2_with (go_at_call 95; refine (mayStand_any r _).mono ?_; rintro e w' ⟨rfl, rfl⟩; rw [hmy])
                  go_roundw
                  case rel => exact HNext.out HX.out
                  case measure => exact hm1.out
            · obtain rfl : p = s.size := by omega
              have hnx := run_next_end (P := Tryz.prog) (w.alloc (.cells #[.int .i64 0, .int .i64 0] 48)) s s.size (h := Nat.lt_irrefl _)
              obtain ⟨W1, hW1⟩ : ∃ W1, W1 = (w.alloc (.cells #[.int .i64 0, .int .i64 0] 48)).iter s s.size := ⟨_, rfl⟩
              have hbox : Box2 W1 w.heap.size (.int .i64 0) (.int .i64 0) := by
                rw [hW1]; exact (Box2.new w _ _).kept ((Below.refl _ _).alloc (Nat.le_refl _) _)
              have HBox : Hid (Box2 W1 w.heap.size (.int .i64 0) (.int .i64 0)) := hbox
              have HB1 : Hid (Below w.heap.size w W1) := by
                rw [hW1]; exact ((Below.refl _ w).alloc (Nat.le_refl _) _).alloc (by simp) _
              rw [← hW1, World.size_alloc] at hnx
              rw [← hW1]
              obtain ⟨c0, c1⟩ := hbox.cell
              obtain ⟨f0, f1⟩ := hbox.frozen
              have HE : Hid (spotV (spot (bs s)) = .agg #[.int .i64 0, .int .i64 0]) := by
                show _ = _
                rw [HS.out, H.out, List.drop_eq_nil_of_le (by rw [bs_len]; exact Nat.le_refl _), badAt_nil]; rfl
              clear hW1 hbox HS H
              go_wp2
              exact spot_ret (k := 2) rfl (HBox.out.all _ _) rfl rfl ⟨by rw [HE.out], (HB1.out.setCell (p := ⟨w.heap.size, 0, none⟩) (Nat.le_refl _) _).setCell (p := ⟨w.heap.size, 1, none⟩) (Nat.le_refl _) _⟩
end Go.Proofs.YtggnglgehobglaaGreatDoor

/- The next rune of a text that is gone through, wherever its block lies. -/
namespace Go.Proofs.YtggnglgehobglaaGreatDoor
open Go.RowKit

theorem run_next_at {P : Program} (w : World) (k : Nat) (s : ByteArray) (pos : Nat) (hk : w.heap[k]? = some (.stringIter s pos)) (h : pos < s.size) (ty : TypeId) :
    (Instr.next (.pointer (some ⟨k, 0, none⟩)) true ty).run P w = .ok (.tuple #[.bool true, .int .i64 (pos : Int), .int .i32 ((Utf8.decode s pos).1 : Int)]) (w.putObj k (.stringIter s (pos + (Utf8.decode s pos).2))) := by
  simp only [Instr.next, getObj, setObj, Sem.run_bind, Sem.run, hk, Result.andThen, h, if_true]
  simp [goInt, World.putObj]
theorem run_next_over {P : Program} (w : World) (k : Nat) (s : ByteArray) (pos : Nat) (hk : w.heap[k]? = some (.stringIter s pos)) (h : ¬ pos < s.size) (ty : TypeId) :
    (Instr.next (.pointer (some ⟨k, 0, none⟩)) true ty).run P w = .ok (.tuple #[.bool false]) w := by
  simp [Instr.next, getObj, Sem.run, hk, h]
theorem iterPos_of {w : World} {k : Nat} {s : ByteArray} {p : Nat} (h : w.heap[k]? = some (.stringIter s p)) : w.iterPos k = p := by simp [World.iterPos, h]
end Go.Proofs.YtggnglgehobglaaGreatDoor
