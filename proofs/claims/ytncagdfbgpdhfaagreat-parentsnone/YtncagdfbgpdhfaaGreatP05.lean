import Derived.Test.YtncagdfbgpdhfaaGreatProg
import Derived.Test.YtncagdfbgpdhfaaGreatP01
import Derived.Test.YtncagdfbgpdhfaaGreatP04
import Derived.Outline
import Derived.WalkSpells
import Derived.RangeFuncBox
import Derived.Test.YtncagdfbgpdhfaaGreatP02
/- The walks of Check and of what it calls. -/
namespace Go.Proofs.YtncagdfbgpdhfaaGreat
open Go.RowKit

/-- a text's bytes -/
def bs (s : ByteArray) : List UInt8 := s.data.toList
theorem bs_len (s : ByteArray) : (bs s).length = s.size := by simp [bs]
theorem bs_extract (s : ByteArray) (i j : Nat) : bs (s.extract i j) = ((bs s).take j).drop i := by
  unfold bs
  rw [ByteArray.data_extract, Array.toList_extract, List.extract_eq_take_drop, List.drop_take]
theorem str_beq (s t : ByteArray) : (s.toList == t.toList) = decide (bs s = bs t) := by
  rw [ByteArray.toList_eq, ByteArray.toList_eq, Bool.eq_iff_iff, beq_iff_eq, decide_eq_true_eq]; rfl
/-- does l begin with p? -/
def pre (p l : List UInt8) : Bool := p.isPrefixOf l
theorem pre_iff (p l : List UInt8) : pre p l = true ↔ p <+: l := List.isPrefixOf_iff_prefix

theorem lite_prefix (s p : ByteArray) (w : World) (hs : s.size ≤ maxLen) (hp : p.size ≤ maxLen) :
    Calls Tryz.prog 174 #[.string s, .string p] w fun e w' => e = .returned (.bool (pre (bs p) (bs s))) ∧ w' = w := by
  have hs' : s.size ≤ 9223372036854775807 := by unfold maxLen at hs; omega
  have hp' : p.size ≤ 9223372036854775807 := by unfold maxLen at hp; omega
  by_cases h : p.size ≤ s.size
  · have i1 : (p.size : Int) ≤ s.size := by omega
    go_enter Tryz.func174, Tryz.ntmps174
    go_wp2
    go_ret
    refine ⟨?_, rfl⟩
    have e : ((s.extract 0 p.size).toList == p.toList) = pre (bs p) (bs s) := by
      rw [str_beq, bs_extract, List.drop_zero, Bool.eq_iff_iff, decide_eq_true_eq, pre_iff, List.prefix_iff_eq_take, bs_len]
      exact ⟨fun h => h.symm, fun h => h.symm⟩
    rw [← e]; rfl
  · have i1 : ¬ (p.size : Int) ≤ s.size := by omega
    go_enter Tryz.func174, Tryz.ntmps174
    go_wp2
    go_ret
    refine ⟨?_, rfl⟩
    have e : pre (bs p) (bs s) = false := by
      rw [Bool.eq_false_iff]; intro hh
      have := ((pre_iff _ _).1 hh).length_le
      rw [bs_len, bs_len] at this; omega
    rw [e]; rfl

theorem has_prefix (s p : ByteArray) (w : World) (hs : s.size ≤ maxLen) (hp : p.size ≤ maxLen) :
    Calls Tryz.prog 171 #[.string s, .string p] w fun e w' => e = .returned (.bool (pre (bs p) (bs s))) ∧ w' = w := by
  go_enter Tryz.func171, Tryz.ntmps171
  go_wp2_with (go_at_call 174; refine (lite_prefix s p w hs hp).mono ?_; rintro e w' ⟨rfl, rfl⟩)
  go_ret
  exact ⟨rfl, rfl⟩

theorem broken_any (s : ByteArray) (w : World) (hs : s.size ≤ maxLen) :
    Calls Tryz.prog 159 #[.string s] w fun e w' => e = .returned (.bool (!(fffd.isPrefixOf (bs s)))) ∧ w' = w := by
  go_enter Tryz.func159, Tryz.ntmps159
  go_wp2_with (go_at_call 171; refine (has_prefix s ⟨#[239, 191, 189]⟩ w hs (by decide)).mono ?_; rintro e w' ⟨rfl, rfl⟩)
  go_ret
  exact ⟨rfl, rfl⟩

def may (r : Int) : Bool := !(decide (r < 32) || decide (r = 127) || decide (r = 47))
theorem mayStand_any (r : Int) (w : World) :
    Calls Tryz.prog 158 #[.int .i32 r] w fun e w' => e = .returned (.bool (may r)) ∧ w' = w := by
  go_enter Tryz.func158, Tryz.ntmps158
  go_wp2
  all_goals go_ret
  all_goals refine ⟨?_, rfl⟩
  all_goals congr 2
  all_goals simp_all [may]
  all_goals omega

/-- what is wrong with a text, as a value -/
def spotV (p : Nat × Nat) : Value := .agg #[.int .i64 (p.1 : Int), .int .i64 (p.2 : Int)]
def Box2 (W : World) (g : Nat) (u0 u1 : Value) : Prop := W.heap[g]? = some (.cells #[u0, u1] 229 (0, 0))
theorem Box2.lt {W : World} {g : Nat} {u0 u1 : Value} (h : Box2 W g u0 u1) : g < W.heap.size := (Array.getElem?_eq_some_iff.1 h).1
theorem Box2.new (W : World) (u0 u1 : Value) : Box2 (W.alloc (.cells #[u0, u1] 229)) W.heap.size u0 u1 := World.alloc_heap_new W _
theorem Box2.cell {W : World} {g : Nat} {u0 u1 : Value} (h : Box2 W g u0 u1) : W.cell? ⟨g, 0, none⟩ = some u0 ∧ W.cell? ⟨g, 1, none⟩ = some u1 := by
  simp [World.cell?, show W.heap[g]? = _ from h]
theorem Box2.frozen {W : World} {g : Nat} {u0 u1 : Value} (h : Box2 W g u0 u1) : W.frozen? ⟨g, 0, none⟩ = false ∧ W.frozen? ⟨g, 1, none⟩ = false := by
  simp [World.frozen?, show W.heap[g]? = _ from h]
theorem Box2.all {W : World} {g : Nat} {v0 v1 : Value} (h : Box2 W g v0 v1) (u0 u1 : Value) : Box2 ((W.setCell ⟨g, 0, none⟩ u0).setCell ⟨g, 1, none⟩ u1) g u0 u1 := by
  have h' : W.heap[g]? = _ := h
  simp [Box2, World.setCell, Array.getElem?_modify, h', Array.setIfInBounds]
theorem Box2.kept {W W' : World} {g : Nat} {u0 u1 : Value} (h : Box2 W g u0 u1) (hB : Below W.heap.size W W') : Box2 W' g u0 u1 := (hB.block g h.lt).trans h

theorem spot_ret {k : Nat} {f : Func} {W : World} {p : Nat} {u0 u1 : Value} {a : Act} {P : Ending → World → Prop} (hf : f.results = #[ResultVar.cell k 229]) (hb : Box2 W p u0 u1) (ha : a.tmps[k]?.getD undef = .pointer (some ⟨p, 0, none⟩)) (hd : a.defers = []) (hP : P (.returned (.agg #[u0, u1])) W) : bodyPost Tryz.prog f P Exit.ret a W := by
  obtain ⟨c0, c1⟩ := hb.cell
  exact bodyPost_ret (v := .agg #[u0, u1]) (by simp [results, hf, go_sem, ha, c0, c1]) hd hP

theorem toList_bs (s : ByteArray) : s.toList = bs s := ByteArray.toList_eq s

theorem spot_new {w : World} {s : ByteArray} (a b : Int) (h : spotV (spot (bs s)) = .agg #[.int .i64 a, .int .i64 b]) {x : Act} (ha : x.tmps[2]?.getD undef = .pointer (some ⟨w.heap.size, 0, none⟩)) (hd : x.defers = []) :
    bodyPost Tryz.prog Tryz.f131 (fun e w' => e = Ending.returned (spotV (spot (bs s))) ∧ Below w.heap.size w w') Exit.ret x (w.alloc (.cells #[.int .i64 a, .int .i64 b] 229)) :=
  spot_ret (k := 2) rfl (Box2.new _ _ _) ha hd ⟨by rw [h], (Below.refl _ w).alloc (Nat.le_refl _) _⟩

set_option maxHeartbeats 2000000 in
theorem check_any (s : ByteArray) (w : World) (hs : s.size ≤ maxLen) :
    Calls Tryz.prog 131 #[.string s] w fun e w' => e = .returned (spotV (spot (bs s))) ∧ Below w.heap.size w w' := by
  have hs' : s.size ≤ 9223372036854775807 := by unfold maxLen at hs; omega
  by_cases h1 : s.toList = []
  · go_enter Tryz.func131, Tryz.ntmps131
    go_wp2
    exact spot_new _ _ (by rw [toList_bs] at h1; rw [h1]; rfl) rfl rfl
  · by_cases h2 : s.toList = [46]
    · go_enter Tryz.func131, Tryz.ntmps131
      go_wp2
      exact spot_new _ _ (by rw [toList_bs] at h2; rw [h2]; rfl) rfl rfl
    · by_cases h3 : s.toList = [46, 46]
      · go_enter Tryz.func131, Tryz.ntmps131
        go_wp2
        exact spot_new _ _ (by rw [toList_bs] at h3; rw [h3]; rfl) rfl rfl
      · have h0 : ¬ (bs s = [] ∨ bs s = [46] ∨ bs s = [46, 46]) := by rw [← toList_bs]; simp [h1, h2, h3]
        have b1 : s.toList.isEmpty = false := by simpa using h1
        have b2 : (s.toList == [46]) = false := by simpa using h2
        have b3 : (s.toList == [46, 46]) = false := by simpa using h3
        by_cases h4 : 32 < s.size
        · have i4 : (32 : Int) < s.size := by omega
          go_enter Tryz.func131, Tryz.ntmps131
          go_wp2
          exact spot_new _ _ (by unfold spot; rw [if_neg h0, if_pos (show 32 < (bs s).length by rw [bs_len]; exact h4)]; rfl) rfl rfl
        · have i4 : ¬ (32 : Int) < s.size := by omega
          have hsp : spot (bs s) = match badAt (bs s) with | some k => (140, k) | none => (0, 0) := by
            unfold spot; rw [if_neg h0, if_neg (show ¬ 32 < (bs s).length by rw [bs_len]; exact h4)] <;> cases badAt (bs s) <;> rfl
          have HS : Hid (spot (bs s) = match badAt (bs s) with | some k => (140, k) | none => (0, 0)) := hsp
          clear hsp h0
          go_enter Tryz.func131, Tryz.ntmps131
          go_wp2
          go_loopw [] (fun wr => ∃ p : Nat, p ≤ s.size ∧ wr = (w.alloc (.cells #[.int .i64 0, .int .i64 0] 229)).iter s p ∧ Hid (badAt (bs s) = (badAt ((bs s).drop p)).map (· + p))) (fun wr => s.size - wr.iterPos (w.heap.size + 1))
          case atStart => exact ⟨0, Nat.zero_le _, rfl, by simp [Hid]⟩
          case round =>
            obtain ⟨p, hp, rfl, H⟩ := hrel
            by_cases hlt : p < s.size
            · obtain ⟨r, hr⟩ : ∃ r, r = (dec ((bs s).drop p)).1 := ⟨_, rfl⟩
              obtain ⟨d, hd⟩ : ∃ d, d = (dec ((bs s).drop p)).2 := ⟨_, rfl⟩
              have hne : (bs s).drop p ≠ [] := fun e => by
                have := congrArg List.length e
                rw [List.length_drop, bs_len] at this; simp at this; omega
              have hd1 : 1 ≤ d := by rw [hd]; exact dec_pos _
              have hd2 : p + d ≤ s.size := by
                have := dec_le _ hne
                rw [← hd, List.length_drop, bs_len] at this; omega
              have hdec : Utf8.decode s p = (r, d) := by rw [decode_dec, hr, hd]; rfl
              have hrle : r ≤ 2147483647 := by have := decode_le s p; rw [hdec] at this; exact this
              have hnx := run_next_any (P := Tryz.prog) (w.alloc (.cells #[.int .i64 0, .int .i64 0] 229)) s p (h := hlt)
              rw [hdec] at hnx
              obtain ⟨W1, hW1⟩ : ∃ W1, W1 = (w.alloc (.cells #[.int .i64 0, .int .i64 0] 229)).iter s p := ⟨_, rfl⟩
              obtain ⟨W2, hW2⟩ : ∃ W2, W2 = (w.alloc (.cells #[.int .i64 0, .int .i64 0] 229)).iter s (p + d) := ⟨_, rfl⟩
              have hbox : Box2 W2 w.heap.size (.int .i64 0) (.int .i64 0) := by
                rw [hW2]; exact (Box2.new w _ _).kept ((Below.refl _ _).alloc (Nat.le_refl _) _)
              have HB2 : Hid (Below w.heap.size w W2) := by
                rw [hW2]; exact ((Below.refl _ w).alloc (Nat.le_refl _) _).alloc (by simp) _
              have HBox : Hid (Box2 W2 w.heap.size (.int .i64 0) (.int .i64 0)) := hbox
              have HW2 : Hid (W2 = (w.alloc (.cells #[.int .i64 0, .int .i64 0] 229)).iter s (p + d)) := hW2
              have hm1 : Hid (s.size - W2.iterPos (w.heap.size + 1) < s.size - W1.iterPos (w.heap.size + 1)) := by
                have e1 := World.iterPos_iter (w.alloc (.cells #[.int .i64 0, .int .i64 0] 229)) s p
                have e2 := World.iterPos_iter (w.alloc (.cells #[.int .i64 0, .int .i64 0] 229)) s (p + d)
                rw [← hW1, World.size_alloc] at e1
                rw [← hW2, World.size_alloc] at e2
                show _ < _
                rw [e1, e2]; omega
              rw [← hW1, ← hW2, World.size_alloc] at hnx
              rw [← hW1]
              obtain ⟨c0, c1⟩ := hbox.cell
              obtain ⟨f0, f1⟩ := hbox.frozen
              have HBd : Hid (bad ((bs s).drop p) = (!may (r : Int) || (decide (r = 65533) && !(fffd.isPrefixOf (bs (s.extract p s.size)))))) := by
                show _ = _
                rw [bs_extract, show (bs s).take s.size = bs s by rw [← bs_len]; exact List.take_length]
                simp only [bad, may, ← hr, Bool.not_not]
                have e1 : decide ((r : Int) < 32) = decide (r < 32) := decide_eq_decide.2 (by omega)
                have e2 : decide ((r : Int) = 127) = decide (r = 127) := decide_eq_decide.2 (by omega)
                have e3 : decide ((r : Int) = 47) = decide (r = 47) := decide_eq_decide.2 (by omega)
                rw [e1, e2, e3]
              have HStop : Hid (bad ((bs s).drop p) = true → spotV (spot (bs s)) = .agg #[.int .i64 140, .int .i64 (p : Int)]) := fun hb => by
                rw [HS.out, H.out, badAt_bad _ hne hb]; simp [spotV]
              have HGo : Hid (bad ((bs s).drop p) = false → badAt (bs s) = (badAt ((bs s).drop (p + d))).map (· + (p + d))) := fun hb => by
                rw [H.out, badAt_go _ hne hb, ← hd, List.drop_drop, Option.map_map]
                congr 1
                funext x; simp; omega
              have HNe : Hid ((bs s).drop p ≠ []) := hne
              clear hne hd hr hdec hW1 hW2 hbox HS H
              have i3 : (p : Int) ≤ s.size := by omega
              have HEnd : Hid (bad ((bs s).drop p) = true → ∀ a : Act, a.tmps[2]?.getD undef = .pointer (some ⟨w.heap.size, 0, none⟩) → a.defers = [] → bodyPost Tryz.prog Tryz.f131 (fun e w' => e = Ending.returned (spotV (spot (bs s))) ∧ Below w.heap.size w w') Exit.ret a ((W2.setCell ⟨w.heap.size, 0, none⟩ (.int .i64 140)).setCell ⟨w.heap.size, 1, none⟩ (.int .i64 (p : Int)))) := fun hb a ha hd =>
                spot_ret (k := 2) rfl (HBox.out.all _ _) ha hd ⟨by rw [HStop.out hb], (HB2.out.setCell (p := ⟨w.heap.size, 0, none⟩) (Nat.le_refl _) _).setCell (p := ⟨w.heap.size, 1, none⟩) (Nat.le_refl _) _⟩
              have HNext : Hid (bad ((bs s).drop p) = false → ∃ p', p' ≤ s.size ∧ W2 = (w.alloc (.cells #[.int .i64 0, .int .i64 0] 229)).iter s p' ∧ Hid (badAt (bs s) = (badAt ((bs s).drop p')).map (· + p'))) := fun hb => ⟨p + d, hd2, HW2.out, HGo.out hb⟩
              clear HW2 HBox HStop HGo HNe
              cases hmy : may (r : Int) with
              | false =>
                have HX : Hid (bad ((bs s).drop p) = true) := by show _ = _; rw [HBd.out, hmy]; rfl
                clear HBd HNext
                go_wp2_with (go_at_call 158; refine (mayStand_any r _).mono ?_; rintro e w' ⟨rfl, rfl⟩; rw [hmy])
                exact HEnd.out HX.out _ rfl rfl
              | true =>
                by_cases h65 : r = 65533
                · subst h65
                  simp only [show ((65533 : Nat) : Int) = 65533 from rfl] at hnx hmy HBd
                  cases hfp : (!(fffd.isPrefixOf (bs (s.extract p s.size)))) with
                  | true =>
                    have HX : Hid (bad ((bs s).drop p) = true) := by show _ = _; rw [HBd.out, hmy, hfp]; rfl
                    clear HBd HNext
                    go_wp2_with first
                      | (go_at_call 158; refine (mayStand_any 65533 _).mono ?_; rintro e w' ⟨rfl, rfl⟩; rw [hmy])
                      | (go_at_call 159; refine (broken_any (s.extract p s.size) _ (by simp; omega)).mono ?_; rintro e w' ⟨rfl, rfl⟩; rw [hfp])
                    exact HEnd.out HX.out _ rfl rfl
                  | false =>
                    have HX : Hid (bad ((bs s).drop p) = false) := by show _ = _; rw [HBd.out, hmy, hfp]; simp
                    clear HBd HEnd
                    go_wp2_with first
                      | (go_at_call 158; refine (mayStand_any 65533 _).mono ?_; rintro e w' ⟨rfl, rfl⟩; rw [hmy])
                      | (go_at_call 159; refine (broken_any (s.extract p s.size) _ (by simp; omega)).mono ?_; rintro e w' ⟨rfl, rfl⟩; rw [hfp])
                    go_roundw
                    case rel => exact HNext.out HX.out
                    case measure => exact hm1.out
                · have i5 : ¬ (r : Int) = 65533 := by omega
                  have HX : Hid (bad ((bs s).drop p) = false) := by show _ = _; rw [HBd.out, hmy]; simp [h65]
                  clear HBd HEnd
                  go_wp2_with (go_at_call 158; refine (mayStand_any r _).mono ?_; rintro e w' ⟨rfl, rfl⟩; rw [hmy])
                  go_roundw
                  case rel => exact HNext.out HX.out
                  case measure => exact hm1.out
            · obtain rfl : p = s.size := by omega
              have hnx := run_next_end (P := Tryz.prog) (w.alloc (.cells #[.int .i64 0, .int .i64 0] 229)) s s.size (h := Nat.lt_irrefl _)
              obtain ⟨W1, hW1⟩ : ∃ W1, W1 = (w.alloc (.cells #[.int .i64 0, .int .i64 0] 229)).iter s s.size := ⟨_, rfl⟩
              have hbox : Box2 W1 w.heap.size (.int .i64 0) (.int .i64 0) := by
                rw [hW1]; exact (Box2.new w _ _).kept ((Below.refl _ _).alloc (Nat.le_refl _) _)
              have HBox : Hid (Box2 W1 w.heap.size (.int .i64 0) (.int .i64 0)) := hbox
              have HB1 : Hid (Below w.heap.size w W1) := by
                rw [hW1]; exact ((Below.refl _ w).alloc (Nat.le_refl _) _).alloc (by simp) _
              rw [← hW1, World.size_alloc] at hnx
              rw [← hW1]
              obtain ⟨c0, c1⟩ := hbox.cell
              obtain ⟨f0, f1⟩ := hbox.frozen
              have HE : Hid (spotV (spot (bs s)) = .agg #[.int .i64 0, .int .i64 0]) := by
                show _ = _
                rw [HS.out, H.out, List.drop_eq_nil_of_le (by rw [bs_len]; exact Nat.le_refl _), badAt_nil]; rfl
              clear hW1 hbox HS H
              go_wp2
              exact spot_ret (k := 2) rfl (HBox.out.all _ _) rfl rfl ⟨by rw [HE.out], (HB1.out.setCell (p := ⟨w.heap.size, 0, none⟩) (Nat.le_refl _) _).setCell (p := ⟨w.heap.size, 1, none⟩) (Nat.le_refl _) _⟩
end Go.Proofs.YtncagdfbgpdhfaaGreat

/- The walk of the document's Spot. -/
namespace Go.Proofs.YtncagdfbgpdhfaaGreat
open Go.RowKit

end Go.Proofs.YtncagdfbgpdhfaaGreat

/- What is wrong with a tree: the program's check and the document's. -/
namespace Go.Proofs.YtncagdfbgpdhfaaGreat
open Go.RowKit

attribute [local go_sem] Oper.semAt_some

def Box3 (W : World) (g : Nat) (u0 u1 u2 : Value) : Prop := W.heap[g]? = some (.cells #[u0, u1, u2] 179 (0, 0))
theorem Box3.lt {W : World} {g : Nat} {u0 u1 u2 : Value} (h : Box3 W g u0 u1 u2) : g < W.heap.size := (Array.getElem?_eq_some_iff.1 h).1
theorem Box3.new (W : World) (u0 u1 u2 : Value) : Box3 (W.alloc (.cells #[u0, u1, u2] 179)) W.heap.size u0 u1 u2 := World.alloc_heap_new W _
theorem Box3.below {W W' : World} {B g : Nat} {u0 u1 u2 : Value} (h : Box3 W g u0 u1 u2) (hB : Below B W W') (hg : g < B) : Box3 W' g u0 u1 u2 := (hB.block g hg).trans h
theorem Box3.cell {W : World} {g : Nat} {u0 u1 u2 : Value} (h : Box3 W g u0 u1 u2) : W.cell? ⟨g, 0, none⟩ = some u0 ∧ W.cell? ⟨g, 1, none⟩ = some u1 ∧ W.cell? ⟨g, 2, none⟩ = some u2 := by
  unfold Box3 at h
  simp [World.cell?, h]
def sle (s t : ByteArray) : Bool := Op.bytesLess s.toList t.toList || s.toList == t.toList
theorem run_leq (s t : ByteArray) (w : World) : (binOp .leq 9 (.string s) (.string t)).run Tryz.prog w = .ok (.bool (sle s t)) w := by
  simp [binOp, Op.stringOp, sle]
/-- the first thing wrong with the entries behind a name -/
def treeErr : ByteArray → List Ent → Int
  | _, [] => 0
  | p, x :: r => if (spot (bs x.1)).1 ≠ 0 then ((spot (bs x.1)).1 : Int) else if sle x.1 p then 161 else if x.2.2 = 0 then 2 else treeErr x.1 r
def treeErrs (l : List Ent) : Int := if 256 < l.length then 3 else treeErr ⟨#[]⟩ l
theorem treeErr_drop (p : ByteArray) (l : List Ent) (k : Nat) (x : Ent) (h : l[k]? = some x) : treeErr p (l.drop k) = if (spot (bs x.1)).1 ≠ 0 then ((spot (bs x.1)).1 : Int) else if sle x.1 p then 161 else if x.2.2 = 0 then 2 else treeErr x.1 (l.drop (k + 1)) := by
  have hk := (List.getElem?_eq_some_iff.1 h).1
  rw [List.drop_eq_getElem_cons hk]
  have : l[k] = x := (List.getElem?_eq_some_iff.1 h).2
  rw [this]
  rfl
theorem treeErr_end (p : ByteArray) (l : List Ent) : treeErr p (l.drop l.length) = 0 := by rw [List.drop_length]; rfl
/-- the names of entries are as long as a text may be -/
def Short (l : List Ent) : Prop := ∀ (j : Nat) x, l[j]? = some x → x.1.size ≤ maxLen

set_option maxRecDepth 100000 in
set_option maxHeartbeats 4000000 in
theorem checkTree_any (a : Option Addr) (n c : Nat) (l : List Ent) (w : World) (h : Ents w a n l) (hs : Short l) (hn : n ≤ 9223372036854775807) :
    Calls Tryz.prog 101 #[.agg #[.slice a n c]] w fun e w' => e = .returned (.int .i64 (treeErrs l)) ∧ Below w.heap.size w w' := by
  have hll := h.1
  have hB0 : Below w.heap.size w (w.alloc (.cells #[.slice a n c] 125)) := (Below.refl _ w).alloc (Nat.le_refl _) _
  have hlq := run_leq
  by_cases h256 : 256 < n
  · have i1 : (256 : Int) < n := by omega
    have e1 : treeErrs l = 3 := by unfold treeErrs; rw [if_pos (by omega)]
    go_enter Tryz.func101, Tryz.ntmps101
    go_wp2
    go_ret
    exact ⟨by rw [e1]; rfl, hB0⟩
  · have i1 : ¬ (256 : Int) < n := by omega
    have e1 : treeErrs l = treeErr ⟨#[]⟩ l := by unfold treeErrs; rw [if_neg (by omega)]
    rw [e1]
    obtain ⟨E, hE⟩ : ∃ E, E = treeErr ⟨#[]⟩ l := ⟨_, rfl⟩
    rw [← hE]
    go_enter Tryz.func101, Tryz.ntmps101
    go_wp2
    go_loopw [3, 14] (fun p i wr => ∃ (k : Nat) (s : ByteArray), k ≤ n ∧ i = .int .i64 (k : Int) ∧ p = .string s ∧ Hid (E = treeErr s (l.drop k) ∧ Below w.heap.size w wr)) (fun _ i _ => n - (intOf i).toNat)
    case atStart => exact ⟨0, _, Nat.zero_le _, rfl, rfl, hE, hB0⟩
    case round =>
      clear hE hB0 e1
      obtain ⟨k, s, hk, rfl, rfl, H⟩ := hrel
      by_cases hlt : k < n
      · obtain ⟨x, hx⟩ : ∃ x, l[k]? = some x := ⟨_, List.getElem?_eq_getElem (by omega)⟩
        obtain ⟨b1, o1, rfl, hc1⟩ := h.2 (by omega)
        obtain ⟨t1, t2, t3⟩ := hc1 k x hx
        have q1 := (H.out.2.cell (p := ⟨b1, o1 + k * 3, none⟩) (World.block_lt_of_cell? w _ t1)).trans t1
        have q2 := (H.out.2.cell (p := ⟨b1, o1 + k * 3 + 1, none⟩) (World.block_lt_of_cell? w _ t2)).trans t2
        have q3 := (H.out.2.cell (p := ⟨b1, o1 + k * 3 + 2, none⟩) (World.block_lt_of_cell? w _ t3)).trans t3
        have hd := treeErr_drop s l k x hx
        have hck := fun w => check_any x.1 w (hs k x hx)
        have i2 : (k : Int) < (n : Int) := by omega
        have i3 : ¬ n ≤ k := by omega
        have HD : Hid (treeErr s (l.drop k) = if (spot (bs x.1)).1 ≠ 0 then ((spot (bs x.1)).1 : Int) else if sle x.1 s then 161 else if x.2.2 = 0 then 2 else treeErr x.1 (l.drop (k + 1))) := hd
        clear hc1 hx t1 t2 t3 hd
        obtain ⟨nm, fo, id⟩ := x
        simp only at q1 q2 q3 hck HD
        obtain ⟨se, sp⟩ : ∃ se, se = spot (bs nm) := ⟨_, rfl⟩
        rw [← sp] at hck HD
        clear sp
        simp only [spotV] at hck
        obtain ⟨se1, se2⟩ := se
        simp only at hck HD
        by_cases h1 : se1 = 0
        · subst h1
          rw [if_neg (by simp)] at HD
          simp only [show ((0 : Nat) : Int) = 0 from rfl] at hck
          by_cases h2 : sle nm s = true
          · rw [if_pos h2] at HD
            have HE : Hid (E = 161) := H.out.1.trans HD.out
            clear HD
            go_wp2_with (go_at_call 131; refine (hck _).mono ?_; clear hck; rintro e w2 ⟨rfl, hB2⟩; have hs2 := hB2.size; obtain ⟨c0, c1, c2⟩ := ((Box3.new wr (.string nm) (.bool fo) (.int .u64 id)).below (hB2.alloc hB2.size (.cells #[.int .i64 0, .int .i64 (se2 : Int)] 229)) (by simp)).cell; have HB : Hid (Below w.heap.size w (w2.alloc (.cells #[.int .i64 0, .int .i64 (se2 : Int)] 229))) := ((H.out.2.alloc H.out.2.size _).trans (hB2.mono (by simp; have := H.out.2.size; omega))).alloc (by have := H.out.2.size; have := hB2.size; simp at this; omega) _; clear hB2)
            go_ret
            exact ⟨by rw [HE.out]; rfl, HB.out⟩
          · rw [if_neg h2] at HD
            have h2' : sle nm s = false := by simpa using h2
            clear h2
            by_cases h3 : id = 0
            · rw [if_pos h3] at HD
              subst h3
              have HE : Hid (E = 2) := H.out.1.trans HD.out
              clear HD
              go_wp2_with (go_at_call 131; refine (hck _).mono ?_; clear hck; rintro e w2 ⟨rfl, hB2⟩; have hs2 := hB2.size; obtain ⟨c0, c1, c2⟩ := ((Box3.new wr (.string nm) (.bool fo) (.int .u64 0)).below (hB2.alloc hB2.size (.cells #[.int .i64 0, .int .i64 (se2 : Int)] 229)) (by simp)).cell; have HB : Hid (Below w.heap.size w (w2.alloc (.cells #[.int .i64 0, .int .i64 (se2 : Int)] 229))) := ((H.out.2.alloc H.out.2.size _).trans (hB2.mono (by simp; have := H.out.2.size; omega))).alloc (by have := H.out.2.size; have := hB2.size; simp at this; omega) _; clear hB2)
              go_ret
              exact ⟨by rw [HE.out]; rfl, HB.out⟩
            · rw [if_neg h3] at HD
              have h3' : (id == 0) = false := beq_eq_false_iff_ne.2 h3
              have HE : Hid (E = treeErr nm (l.drop (k + 1))) := H.out.1.trans HD.out
              clear HD
              go_wp2_with (go_at_call 131; refine (hck _).mono ?_; clear hck; rintro e w2 ⟨rfl, hB2⟩; have hs2 := hB2.size; obtain ⟨c0, c1, c2⟩ := ((Box3.new wr (.string nm) (.bool fo) (.int .u64 id)).below (hB2.alloc hB2.size (.cells #[.int .i64 0, .int .i64 (se2 : Int)] 229)) (by simp)).cell; have HB : Hid (Below w.heap.size w (w2.alloc (.cells #[.int .i64 0, .int .i64 (se2 : Int)] 229))) := ((H.out.2.alloc H.out.2.size _).trans (hB2.mono (by simp; have := H.out.2.size; omega))).alloc (by have := H.out.2.size; have := hB2.size; simp at this; omega) _; clear hB2)
              go_roundw
              case rel => exact ⟨k + 1, nm, by omega, by simp, rfl, HE.out, HB.out⟩
              case measure => simp [intOf]; omega
        · rw [if_pos h1] at HD
          have h1' : ((se1 : Int) == 0) = false := beq_eq_false_iff_ne.2 (by omega)
          have HE : Hid (E = (se1 : Int)) := H.out.1.trans HD.out
          clear HD
          go_wp2_with (go_at_call 131; refine (hck _).mono ?_; clear hck; rintro e w2 ⟨rfl, hB2⟩; have hs2 := hB2.size; obtain ⟨c0, c1, c2⟩ := ((Box3.new wr (.string nm) (.bool fo) (.int .u64 id)).below (hB2.alloc hB2.size (.cells #[.int .i64 (se1 : Int), .int .i64 (se2 : Int)] 229)) (by simp)).cell; have HB : Hid (Below w.heap.size w (w2.alloc (.cells #[.int .i64 (se1 : Int), .int .i64 (se2 : Int)] 229))) := ((H.out.2.alloc H.out.2.size _).trans (hB2.mono (by simp; have := H.out.2.size; omega))).alloc (by have := H.out.2.size; have := hB2.size; simp at this; omega) _; clear hB2)
          go_ret
          exact ⟨by rw [HE.out]; rfl, HB.out⟩
      · obtain rfl : k = n := by omega
        have i2 : ¬ (k : Int) < (k : Int) := by omega
        have e0 : E = 0 := by rw [H.out.1, ← hll]; exact treeErr_end _ _
        subst e0
        go_wp2
        go_ret
        exact ⟨rfl, H.out.2⟩
end Go.Proofs.YtncagdfbgpdhfaaGreat

/- Laws for the walk: one byte appended to a row of bytes of the call's own, with room and without; bytes as a string. -/
namespace Go.Proofs.YtncagdfbgpdhfaaGreat
open Go.RowKit

/-- append(out, c) where out has room: the byte was laid into a block of its own just before -/
theorem wpList_push_fits {wr : World} {ops : Array Oper} {rest : List Oper} {o : Oper} {a : Act} {Q : Exit → Act → World → Prop} (z : Int)
    (hgd : o.guard = none) (s x : Operand) (hop : o.op = Op.call { callee := Callee.builtin Builtin.append, args := #[s, x], argTypes := #[80, 80] })
    (base g m cap : Nat) (xs : List Value) (hs : a.eval s = .slice (some ⟨g, 0, none⟩) m cap) (hx : a.eval x = .slice (some ⟨wr.heap.size, 0, none⟩) 1 1)
    (hown : wr.ownsRow base 5 1 (.slice (some ⟨g, 0, none⟩) m cap) m xs) (hfit : m + 1 ≤ cap)
    (hK : ∀ w', w'.ownsRow base 5 1 (.slice (some ⟨g, 0, none⟩) (m + 1) cap) (m + 1) (xs ++ [.int .u8 z]) → wr.grownBy w' (some g) → wpList Tryz.prog ops Q rest (a.put o.dst (.slice (some ⟨g, 0, none⟩) (m + 1) cap)) w') :
    wpList Tryz.prog ops Q (o :: rest) a (wr.alloc (.cells #[.int .u8 z] 5)) := by
  obtain ⟨i0, hi, hz0, hz1, hz2⟩ := info_parts Tryz.info5
  refine wpList_append_fits _ hgd s x 80 hop base 5 i0 1 Tryz.underlying80 hi hz1 g m cap xs hs (hown.alloc _) ⟨wr.heap.size, 0, none⟩ 1 1 [.int .u8 z] hx rfl ?_ ?_ hfit ?_
  · intro j u hj
    match j, hj with
    | 0, hj => simp at hj; subst hj; simp [Addr.add]
  · intro u hu; simp at hu; subst hu; rfl
  · intro w' h1 h2
    exact hK w' h1 (grownBy_trans (World.grownBy_alloc _ _ _) h2)

end Go.Proofs.YtncagdfbgpdhfaaGreat
