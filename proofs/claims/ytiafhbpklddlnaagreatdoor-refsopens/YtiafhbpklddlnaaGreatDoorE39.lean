import Derived.Test.YtiafhbpklddlnaaGreatDoorE34
import Derived.Shelf.Strings.Search1
import Derived.Shelf.Strings.Search2
import Derived.Shelf.Strings.Search3
import Derived.Shelf.Strings.Count
import Derived.Shelf.LaysM
import Derived.Shelf.Strings.Shaped
import Derived.Shelf.Strings.Split
import Derived.Shelf.Strings.SplitShaped
import Derived.Shelf.Unicode.DecodeSlow
import Derived.Ground.SlgmProg
import Derived.Shelf.SortM.Plain
import Derived.Shelf.SortM.SortNone
import Derived.Test.YtiafhbpklddlnaaGreatDoorProg
/- The walk of the document's Spot. -/
namespace Go.Proofs.YtiafhbpklddlnaaGreatDoor
open Go.RowKit

theorem rspot_new {w : World} {s : ByteArray} (a b : Int) (h : spotV (spot (bs s)) = .agg #[.int .i64 a, .int .i64 b]) {x : Act} (ha : x.tmps[2]?.getD undef = .pointer (some ⟨w.heap.size, 0, none⟩)) (hd : x.defers = []) :
    bodyPost Tryz.prog Tryz.f62 (fun e w' => e = Ending.returned (spotV (spot (bs s))) ∧ Below w.heap.size w w') Exit.ret x (w.alloc (.cells #[.int .i64 a, .int .i64 b] 75)) :=
  spot_ret (k := 2) rfl (Box2.new _ _ _) ha hd ⟨by rw [h], (Below.refl _ w).alloc (Nat.le_refl _) _⟩

set_option maxRecDepth 20000 in
set_option maxHeartbeats 4000000 in
theorem refSpot_any (s : ByteArray) (w : World) (hs : s.size ≤ maxLen) :
    Calls Tryz.prog 62 #[.string s] w fun e w' => e = .returned (spotV (spot (bs s))) ∧ Below w.heap.size w w' := by
  have hs' : s.size ≤ 9223372036854775807 := by unfold maxLen at hs; omega
  by_cases h1 : s.toList = []
  · go_enter Tryz.func62, Tryz.ntmps62
    go_wp2
    exact rspot_new _ _ (by rw [toList_bs] at h1; rw [h1]; rfl) rfl rfl
  · by_cases h2 : s.toList = [46]
    · go_enter Tryz.func62, Tryz.ntmps62
      go_wp2
      exact rspot_new _ _ (by rw [toList_bs] at h2; rw [h2]; rfl) rfl rfl
    · by_cases h3 : s.toList = [46, 46]
      · go_enter Tryz.func62, Tryz.ntmps62
        go_wp2
        exact rspot_new _ _ (by rw [toList_bs] at h3; rw [h3]; rfl) rfl rfl
      · have h0 : ¬ (bs s = [] ∨ bs s = [46] ∨ bs s = [46, 46]) := by rw [← toList_bs]; simp [h1, h2, h3]
        have b1 : s.toList.isEmpty = false := by simpa using h1
        have b2 : (s.toList == [46]) = false := by simpa using h2
        have b3 : (s.toList == [46, 46]) = false := by simpa using h3
        by_cases h4 : 32 < s.size
        · have i4 : (32 : Int) < s.size := by omega
          go_enter Tryz.func62, Tryz.ntmps62
          go_wp2
          exact rspot_new _ _ (by unfold spot; rw [if_neg h0, if_pos (show 32 < (bs s).length by rw [bs_len]; exact h4)]; rfl) rfl rfl
        · have i4 : ¬ (32 : Int) < s.size := by omega
          have HS : Hid (spot (bs s) = match badAt (bs s) with | some k => (140, k) | none => (0, 0)) := by
            show _ = _
            unfold spot; rw [if_neg h0, if_neg (show ¬ 32 < (bs s).length by rw [bs_len]; exact h4)]; cases badAt (bs s) <;> rfl
          clear h0
          go_enter Tryz.func62, Tryz.ntmps62
          go_wp2
          go_loopw [] (fun wr => ∃ p : Nat, p ≤ s.size ∧ wr = (w.alloc (.cells #[.int .i64 0, .int .i64 0] 75)).iter s p ∧ Hid (badAt (bs s) = (badAt ((bs s).drop p)).map (· + p))) (fun wr => s.size - wr.iterPos (w.heap.size + 1))
          case atStart => exact ⟨0, Nat.zero_le _, rfl, by simp [Hid]⟩
          case round =>
            obtain ⟨p, hp, rfl, H⟩ := hrel
            by_cases hlt : p < s.size
            · obtain ⟨r, hr⟩ : ∃ r, r = (dec ((bs s).drop p)).1 := ⟨_, rfl⟩
              obtain ⟨d, hd⟩ : ∃ d, d = (dec ((bs s).drop p)).2 := ⟨_, rfl⟩
              have hne : (bs s).drop p ≠ [] := fun e => by
                have := congrArg List.length e
                rw [List.length_drop, bs_len] at this; simp at this; omega
              have hd1 : 1 ≤ d := by rw [hd]; exact dec_pos _
              have hd2 : p + d ≤ s.size := by
                have := dec_le _ hne
                rw [← hd, List.length_drop, bs_len] at this; omega
              have hdec : Utf8.decode s p = (r, d) := by rw [decode_dec, hr, hd]; rfl
              have hrle : r ≤ 2147483647 := by have := decode_le s p; rw [hdec] at this; exact this
              have hnx := run_next_any (P := Tryz.prog) (w.alloc (.cells #[.int .i64 0, .int .i64 0] 75)) s p (h := hlt)
              rw [hdec] at hnx
              obtain ⟨W1, hW1⟩ : ∃ W1, W1 = (w.alloc (.cells #[.int .i64 0, .int .i64 0] 75)).iter s p := ⟨_, rfl⟩
              obtain ⟨W2, hW2⟩ : ∃ W2, W2 = (w.alloc (.cells #[.int .i64 0, .int .i64 0] 75)).iter s (p + d) := ⟨_, rfl⟩
              have hbox : Box2 W2 w.heap.size (.int .i64 0) (.int .i64 0) := by
                rw [hW2]; exact (Box2.new w _ _).kept ((Below.refl _ _).alloc (Nat.le_refl _) _)
              have HB2 : Hid (Below w.heap.size w W2) := by
                rw [hW2]; exact ((Below.refl _ w).alloc (Nat.le_refl _) _).alloc (by simp) _
              have HBox : Hid (Box2 W2 w.heap.size (.int .i64 0) (.int .i64 0)) := hbox
              have HW2 : Hid (W2 = (w.alloc (.cells #[.int .i64 0, .int .i64 0] 75)).iter s (p + d)) := hW2
              have hm1 : Hid (s.size - W2.iterPos (w.heap.size + 1) < s.size - W1.iterPos (w.heap.size + 1)) := by
                have e1 := World.iterPos_iter (w.alloc (.cells #[.int .i64 0, .int .i64 0] 75)) s p
                have e2 := World.iterPos_iter (w.alloc (.cells #[.int .i64 0, .int .i64 0] 75)) s (p + d)
                rw [← hW1, World.size_alloc] at e1
                rw [← hW2, World.size_alloc] at e2
                show _ < _
                rw [e1, e2]; omega
              rw [← hW1, ← hW2, World.size_alloc] at hnx
              rw [← hW1]
              obtain ⟨c0, c1⟩ := hbox.cell
              obtain ⟨f0, f1⟩ := hbox.frozen
              have HBd : Hid (bad ((bs s).drop p) = (decide (r < 32) || decide (r = 127) || decide (r = 47) || (decide (r = 65533) && !(pre fffd (bs (s.extract p s.size)))))) := by
                show _ = _
                rw [bs_extract, show (bs s).take s.size = bs s by rw [← bs_len]; exact List.take_length]
                simp only [bad, ← hr]
                rfl
              have HEnd : Hid (bad ((bs s).drop p) = true → ∀ a : Act, a.tmps[2]?.getD undef = .pointer (some ⟨w.heap.size, 0, none⟩) → a.defers = [] → bodyPost Tryz.prog Tryz.f62 (fun e w' => e = Ending.returned (spotV (spot (bs s))) ∧ Below w.heap.size w w') Exit.ret a ((W2.setCell ⟨w.heap.size, 0, none⟩ (.int .i64 140)).setCell ⟨w.heap.size, 1, none⟩ (.int .i64 (p : Int)))) := fun hb a ha hd =>
                spot_ret (k := 2) rfl (HBox.out.all _ _) ha hd ⟨by rw [HS.out, H.out, badAt_bad _ hne hb]; simp [spotV], (HB2.out.setCell (p := ⟨w.heap.size, 0, none⟩) (Nat.le_refl _) _).setCell (p := ⟨w.heap.size, 1, none⟩) (Nat.le_refl _) _⟩
              have HNext : Hid (bad ((bs s).drop p) = false → ∃ p', p' ≤ s.size ∧ W2 = (w.alloc (.cells #[.int .i64 0, .int .i64 0] 75)).iter s p' ∧ Hid (badAt (bs s) = (badAt ((bs s).drop p')).map (· + p'))) := fun hb => ⟨p + d, hd2, HW2.out, by
                show _ = _
                rw [H.out, badAt_go _ hne hb, ← hd, List.drop_drop, Option.map_map]
                congr 1
                funext x; simp; omega⟩
              have i3 : (p : Int) ≤ s.size := by omega
              clear hne hd hr hdec hW1 hW2 hbox HS H HW2 HBox
              by_cases h65 : r = 65533
              · subst h65
                simp only [show ((65533 : Nat) : Int) = 65533 from rfl] at hnx
                have hx := fun w => has_prefix (s.extract p s.size) ⟨#[239, 191, 189]⟩ w (by simp; omega) (by decide)
                rw [show bs ⟨#[239, 191, 189]⟩ = fffd from rfl] at hx
                cases hfp : pre fffd (bs (s.extract p s.size)) with
                | false =>
                  rw [hfp] at hx
                  have HX : Hid (bad ((bs s).drop p) = true) := by show _ = _; rw [HBd.out, hfp]; rfl
                  clear HBd HNext hfp
                  go_wp2_with (go_at_call 89; refine (hx _).mono ?_; rintro e w' ⟨rfl, rfl⟩)
                  exact HEnd.out HX.out _ rfl rfl
                | true =>
                  rw [hfp] at hx
                  have HX : Hid (bad ((bs s).drop p) = false) := by show _ = _; rw [HBd.out, hfp]; rfl
                  clear HBd HEnd hfp
                  go_wp2_with (go_at_call 89; refine (hx _).mono ?_; rintro e w' ⟨rfl, rfl⟩)
                  go_roundw
                  case rel => exact HNext.out HX.out
                  case measure => exact hm1.out
              · have i65 : ¬ (r : Int) = 65533 := by omega
                have c65 : ((r : Int) == 65533) = false := beq_eq_false_iff_ne.2 i65
                by_cases h32 : r < 32
                · have i32 : (r : Int) < 32 := by omega
                  have HX : Hid (bad ((bs s).drop p) = true) := by show _ = _; rw [HBd.out]; simp [h32]
                  clear HBd HNext
                  go_wp2
                  exact HEnd.out HX.out _ rfl rfl
                · have i32 : ¬ (r : Int) < 32 := by omega
                  by_cases h127 : r = 127
                  · subst h127
                    simp only [show ((127 : Nat) : Int) = 127 from rfl] at hnx
                    have HX : Hid (bad ((bs s).drop p) = true) := by show _ = _; rw [HBd.out]; simp
                    clear HBd HNext
                    go_wp2
                    exact HEnd.out HX.out _ rfl rfl
                  · have i127 : ¬ (r : Int) = 127 := by omega
                    have c127 : ((r : Int) == 127) = false := beq_eq_false_iff_ne.2 i127
                    by_cases h47 : r = 47
                    · subst h47
                      simp only [show ((47 : Nat) : Int) = 47 from rfl] at hnx
                      have HX : Hid (bad ((bs s).drop p) = true) := by show _ = _; rw [HBd.out]; simp
                      clear HBd HNext
                      go_wp2
                      exact HEnd.out HX.out _ rfl rfl
                    · have i47 : ¬ (r : Int) = 47 := by omega
                      have c47 : ((r : Int) == 47) = false := beq_eq_false_iff_ne.2 i47
                      have HX : Hid (bad ((bs s).drop p) = false) := by show _ = _; rw [HBd.out]; simp [h65, h127, h47]; omega
                      clear HBd HEnd
                      go_wp2
                      go_roundw
                      case rel => exact HNext.out HX.out
                      case measure => exact hm1.out
            · obtain rfl : p = s.size := by omega
              have hnx := run_next_end (P := Tryz.prog) (w.alloc (.cells #[.int .i64 0, .int .i64 0] 75)) s s.size (h := Nat.lt_irrefl _)
              obtain ⟨W1, hW1⟩ : ∃ W1, W1 = (w.alloc (.cells #[.int .i64 0, .int .i64 0] 75)).iter s s.size := ⟨_, rfl⟩
              have hbox : Box2 W1 w.heap.size (.int .i64 0) (.int .i64 0) := by
                rw [hW1]; exact (Box2.new w _ _).kept ((Below.refl _ _).alloc (Nat.le_refl _) _)
              have HBox : Hid (Box2 W1 w.heap.size (.int .i64 0) (.int .i64 0)) := hbox
              have HB1 : Hid (Below w.heap.size w W1) := by
                rw [hW1]; exact ((Below.refl _ w).alloc (Nat.le_refl _) _).alloc (by simp) _
              rw [← hW1, World.size_alloc] at hnx
              rw [← hW1]
              obtain ⟨c0, c1⟩ := hbox.cell
              obtain ⟨f0, f1⟩ := hbox.frozen
              have HE : Hid (spotV (spot (bs s)) = .agg #[.int .i64 0, .int .i64 0]) := by
                show _ = _
                rw [HS.out, H.out, List.drop_eq_nil_of_le (by rw [bs_len]; exact Nat.le_refl _), badAt_nil]; rfl
              clear hW1 hbox HS H
              go_wp2
              exact spot_ret (k := 2) rfl (HBox.out.all _ _) rfl rfl ⟨by rw [HE.out], (HB1.out.setCell (p := ⟨w.heap.size, 0, none⟩) (Nat.le_refl _) _).setCell (p := ⟨w.heap.size, 1, none⟩) (Nat.le_refl _) _⟩
end Go.Proofs.YtiafhbpklddlnaaGreatDoor

/- The walks of firstErr, join, Move, Join. -/
namespace Go.Proofs.YtiafhbpklddlnaaGreatDoor
open Go.RowKit Go.Shelf

attribute [local go_sem] Oper.semAt_some

/-- a slice of texts -/
def Strs (w : World) (a : Option Addr) (n : Nat) (l : List ByteArray) : Prop := l.length = n ∧ (0 < n → ∃ b off, a = some ⟨b, off, none⟩ ∧ ∀ (j : Nat) x, l[j]? = some x → w.cell? ⟨b, off + j, none⟩ = some (.string x))
theorem Strs.kept {w w' : World} {a : Option Addr} {n : Nat} {l : List ByteArray} (h : Strs w a n l) (hB : Below w.heap.size w w') : Strs w' a n l :=
  ⟨h.1, fun h0 => by
    obtain ⟨b, off, e, hc⟩ := h.2 h0
    exact ⟨b, off, e, fun j x hx => (hB.cell (p := ⟨b, off + j, none⟩) (World.block_lt_of_cell? w _ (hc j x hx))).trans (hc j x hx)⟩⟩

theorem firstP_drop (l : List ByteArray) (k : Nat) (x : ByteArray) (hx : l[k]? = some x) : firstP ((l.drop k).map bs) = if isP (bs x) then firstP ((l.drop (k + 1)).map bs) else (pathSpot (bs x)).1 := by
  have hk : k < l.length := (List.getElem?_eq_some_iff.1 hx).1
  rw [List.drop_eq_getElem_cons hk, (List.getElem?_eq_some_iff.1 hx).2]
  rfl

def joinS (p q : ByteArray) : ByteArray := mk ((joinP (bs p) (bs q)).getD [])
def joinE (p q : ByteArray) : Nat := if (joinP (bs p) (bs q)).isSome then 0 else 3

theorem joinP_mid (p q : ByteArray) (h1 : bs p ≠ []) (h2 : bs q ≠ []) : joinP (bs p) (bs q) = if 16 < (parts (bs p)).length + (parts (bs q)).length ∨ 200 < p.size + 1 + q.size then none else some (bs p ++ 47 :: bs q) := by
  unfold joinP
  rw [if_neg h1, if_neg h2, bs_len, bs_len]

theorem strs_new (w : World) (l : List ByteArray) (t : TypeId) (n : Nat) (hn : l.length = n) : Strs (w.alloc (.cells (l.map Value.string).toArray t)) (some ⟨w.heap.size, 0, none⟩) n l :=
  ⟨hn, fun _ => ⟨w.heap.size, 0, rfl, fun j x hx => by
    have h := World.alloc_heap_new w (.cells (l.map Value.string).toArray t)
    simp only [World.cell?, h]
    show (l.map Value.string).toArray[0 + j]? = _
    simp [hx]⟩⟩

def ncutT (s : ByteArray) : ByteArray := s.extract 0 (min s.size 4096)
theorem ncutT_size (s : ByteArray) : (ncutT s).size ≤ 4096 := by simp [ncutT]; omega
theorem badAt_ascii (l : List UInt8) (h : ∀ c ∈ l, 32 ≤ c.toNat ∧ c.toNat < 127 ∧ c ≠ 47) : badAt l = none := by
  induction l with
  | nil => exact badAt_nil
  | cons c t ih =>
    obtain ⟨h1, h2, h3⟩ := h c (by simp)
    have hd := dec_ascii c t (by omega)
    have hb : bad (c :: t) = false := by
      have h4 : ¬ c.toNat = 47 := fun e => h3 (UInt8.toNat_inj.1 e)
      simp only [bad, hd]
      simp
      omega
    rw [badAt_go _ (by simp) hb, hd]
    simp only [List.drop_succ_cons, List.drop_zero]
    rw [ih (fun x hx => h x (by simp [hx]))]; rfl
theorem okName_ascii (l : List UInt8) (h0 : ¬ (l = [] ∨ l = [46] ∨ l = [46, 46])) (h1 : l.length ≤ 32) (h : ∀ c ∈ l, 32 ≤ c.toNat ∧ c.toNat < 127 ∧ c ≠ 47) : okName l = true := by
  unfold okName spot
  rw [if_neg h0, if_neg (by omega), badAt_ascii l h]; rfl
theorem isP_of (l : List UInt8) (h1 : l.length ≤ 200) (h2 : (parts l).length ≤ 16) (h3 : ∀ n ∈ parts l, okName n = true) : isP l = true := (isP_iff l).2 ⟨h1, h3, h2⟩
theorem isP_ab : isP [97, 47, 98] = true := isP_of _ (by decide) (by decide) (fun n hn => by
  have e : parts [97, 47, 98] = [[97], [98]] := by decide
  rw [e] at hn
  simp at hn
  rcases hn with rfl | rfl <;> exact okName_ascii _ (by decide) (by decide) (by decide))
theorem isP_abw : isP [97, 98] = true := isP_of _ (by decide) (by decide) (fun n hn => by
  have e : parts [97, 98] = [[97, 98]] := by decide
  rw [e] at hn
  simp at hn
  subst hn; exact okName_ascii _ (by decide) (by decide) (by decide))
theorem isP_a : isP [97] = true := isP_of _ (by decide) (by decide) (fun n hn => by
  have e : parts [97] = [[97]] := by decide
  rw [e] at hn
  simp at hn
  subst hn; exact okName_ascii _ (by decide) (by decide) (by decide))
theorem isP_xy : isP [120, 47, 121] = true := isP_of _ (by decide) (by decide) (fun n hn => by
  have e : parts [120, 47, 121] = [[120], [121]] := by decide
  rw [e] at hn
  simp at hn
  rcases hn with rfl | rfl <;> exact okName_ascii _ (by decide) (by decide) (by decide))
theorem move_wakes : moveP [97, 47, 98] [97] [120, 47, 121] = ([120, 47, 121, 47, 98], 0) := by
  have e0 : firstP [[97, 47, 98], [97], [120, 47, 121]] = 0 := by simp only [firstP, isP_ab, isP_a, isP_xy, if_true]
  have e1 : restP [97, 47, 98] [97] = some [98] := by decide
  have e2 : joinP [120, 47, 121] [98] = some [120, 47, 121, 47, 98] := by decide
  unfold moveP
  rw [e0, e1]
  simp only [ne_eq, not_true_eq_false, if_false, e2]
theorem in_wakes : inP [97, 47, 98] [97] = true := by
  have e1 : restP [97, 47, 98] [97] = some [98] := by decide
  unfold inP; rw [isP_ab, isP_a, e1]; rfl
theorem in_wakes_no : inP [97, 98] [97] = false := by
  have e1 : restP [97, 98] [97] = none := by decide
  unfold inP; rw [isP_abw, isP_a, e1]; rfl
theorem spot_wakes : spot [47] = (140, 0) := by
  have hb : bad [47] = true := by
    unfold bad; rw [dec_ascii 47 [] (by decide)]; decide
  unfold spot
  rw [if_neg (by decide), if_neg (by decide), badAt_bad _ (by decide) hb]

end Go.Proofs.YtiafhbpklddlnaaGreatDoor

/- The kit's contracts on functions of Go's library, laid at this translation by the kit's own command, in plain words. -/
namespace Go.Proofs.YtiafhbpklddlnaaGreatDoor
open Go.Shelf
def Tryz.lays143_ren : Go.Shelf.Ren := ⟨fun | 143 => 110 | 219 => 126 | 217 => 135 | 225 => 136 | 224 => 137 | 267 => 138 | 266 => 140 | 314 => 141 | n => n, fun | 9 => 9 | 3 => 3 | 4 => 4 | 5 => 5 | 46 => 126 | 146 => 184 | 51 => 166 | n => n, fun | 1 => 0 | n => n⟩
theorem Tryz.lays143 : Go.Proofs.Lays.n143 Tryz.prog Tryz.lays143_ren := {
  mixed := by kernel_rfl
  f143 := Tryz.func110.trans (congrArg some (by kernel_rfl))
  f217 := Tryz.func135.trans (congrArg some (by kernel_rfl))
  f219 := Tryz.func126.trans (congrArg some (by kernel_rfl))
  f224 := Tryz.func137.trans (congrArg some (by kernel_rfl))
  f225 := Tryz.func136.trans (congrArg some (by kernel_rfl))
  f266 := Tryz.func140.trans (congrArg some (by kernel_rfl))
  f267 := Tryz.func138.trans (congrArg some (by kernel_rfl))
  f314 := Tryz.func141.trans (congrArg some (by kernel_rfl))
  t3 := Tryz.underlying3
  a3 := Tryz.isAgg3
  z3 := Tryz.sizeOf3
  v3 := Tryz.zeroValue3
  t4 := Tryz.underlying4
  a4 := Tryz.isAgg4
  z4 := Tryz.sizeOf4
  v4 := Tryz.zeroValue4
  t5 := Tryz.underlying5
  a5 := Tryz.isAgg5
  z5 := Tryz.sizeOf5
  v5 := Tryz.zeroValue5
  t9 := Tryz.underlying9
  a9 := Tryz.isAgg9
  z9 := Tryz.sizeOf9
  v9 := Tryz.zeroValue9
  t46 := Tryz.underlying126
  a46 := Tryz.isAgg126
  z46 := Tryz.sizeOf126
  v46 := Tryz.zeroValue126
  t51 := Tryz.underlying166
  a51 := Tryz.isAgg166
  z51 := Tryz.sizeOf166
  v51 := Tryz.zeroValue166
  t146 := Tryz.underlying184
  a146 := Tryz.isAgg184
  z146 := Tryz.sizeOf184
  v146 := Tryz.zeroValue184
  g1 := by kernel_rfl }
open Go.RowKit Go.Lib in
theorem Tryz.strings_Index_one (s : ByteArray) (c : UInt8) (w : World) :
    Calls Tryz.prog 110 #[.string s, .string ⟨#[c]⟩] w fun e w' => e = .returned (.int .i64 (Lib.indexByte s.data.toList c)) ∧ w' = w := Any.strings_Index_one Tryz.lays143 s c w
def Tryz.lays138_ren : Go.Shelf.Ren := ⟨fun | 138 => 109 | 195 => 123 | 218 => 125 | 143 => 110 | 219 => 126 | 217 => 135 | 225 => 136 | 224 => 137 | 267 => 138 | 266 => 140 | 314 => 141 | n => n, fun | 9 => 9 | 3 => 3 | 4 => 4 | 5 => 5 | 0 => 0 | 46 => 126 | 146 => 184 | 51 => 166 | n => n, fun | 1 => 0 | n => n⟩
theorem Tryz.lays138 : Go.Proofs.Lays.n138 Tryz.prog Tryz.lays138_ren := {
  mixed := by kernel_rfl
  f138 := Tryz.func109.trans (congrArg some (by kernel_rfl))
  f143 := Tryz.func110.trans (congrArg some (by kernel_rfl))
  f195 := Tryz.func123.trans (congrArg some (by kernel_rfl))
  f217 := Tryz.func135.trans (congrArg some (by kernel_rfl))
  f218 := Tryz.func125.trans (congrArg some (by kernel_rfl))
  f219 := Tryz.func126.trans (congrArg some (by kernel_rfl))
  f224 := Tryz.func137.trans (congrArg some (by kernel_rfl))
  f225 := Tryz.func136.trans (congrArg some (by kernel_rfl))
  f266 := Tryz.func140.trans (congrArg some (by kernel_rfl))
  f267 := Tryz.func138.trans (congrArg some (by kernel_rfl))
  f314 := Tryz.func141.trans (congrArg some (by kernel_rfl))
  t0 := Tryz.underlying0
  a0 := Tryz.isAgg0
  z0 := Tryz.sizeOf0
  v0 := Tryz.zeroValue0
  t3 := Tryz.underlying3
  a3 := Tryz.isAgg3
  z3 := Tryz.sizeOf3
  v3 := Tryz.zeroValue3
  t4 := Tryz.underlying4
  a4 := Tryz.isAgg4
  z4 := Tryz.sizeOf4
  v4 := Tryz.zeroValue4
  t5 := Tryz.underlying5
  a5 := Tryz.isAgg5
  z5 := Tryz.sizeOf5
  v5 := Tryz.zeroValue5
  t9 := Tryz.underlying9
  a9 := Tryz.isAgg9
  z9 := Tryz.sizeOf9
  v9 := Tryz.zeroValue9
  t46 := Tryz.underlying126
  a46 := Tryz.isAgg126
  z46 := Tryz.sizeOf126
  v46 := Tryz.zeroValue126
  t51 := Tryz.underlying166
  a51 := Tryz.isAgg166
  z51 := Tryz.sizeOf166
  v51 := Tryz.zeroValue166
  t146 := Tryz.underlying184
  a146 := Tryz.isAgg184
  z146 := Tryz.sizeOf184
  v146 := Tryz.zeroValue184
  g1 := by kernel_rfl }
open Go.RowKit Go.Lib in
theorem Tryz.strings_Count_one (s : ByteArray) (c : UInt8) (w : World) :
    Calls Tryz.prog 109 #[.string s, .string ⟨#[c]⟩] w fun e w' => e = .returned (.int .i64 (Lib.countByte s.data.toList c)) ∧ w' = w := Any.strings_Count_one Tryz.lays138 s c w
def Tryz.lays221_ren : Go.Shelf.Ren := ⟨fun | 221 => 98 | 268 => 108 | 138 => 109 | 143 => 110 | 195 => 123 | 197 => 124 | 218 => 125 | 219 => 126 | 260 => 134 | 217 => 135 | 225 => 136 | 224 => 137 | 267 => 138 | 266 => 140 | 314 => 141 | n => n, fun | 9 => 9 | 3 => 3 | 31 => 47 | 4 => 4 | 0 => 0 | 105 => 168 | 21 => 21 | 5 => 5 | 46 => 126 | 119 => 180 | 139 => 183 | 138 => 182 | 146 => 184 | 51 => 166 | n => n, fun | 1 => 0 | 3 => 1 | 4 => 2 | n => n⟩
theorem Tryz.lays221 : Go.Proofs.Lays.n221 Tryz.prog Tryz.lays221_ren := {
  mixed := by kernel_rfl
  f138 := Tryz.func109.trans (congrArg some (by kernel_rfl))
  f143 := Tryz.func110.trans (congrArg some (by kernel_rfl))
  f195 := Tryz.func123.trans (congrArg some (by kernel_rfl))
  f197 := Tryz.func124.trans (congrArg some (by kernel_rfl))
  f217 := Tryz.func135.trans (congrArg some (by kernel_rfl))
  f218 := Tryz.func125.trans (congrArg some (by kernel_rfl))
  f219 := Tryz.func126.trans (congrArg some (by kernel_rfl))
  f221 := Tryz.func98.trans (congrArg some (by kernel_rfl))
  f224 := Tryz.func137.trans (congrArg some (by kernel_rfl))
  f225 := Tryz.func136.trans (congrArg some (by kernel_rfl))
  f260 := Tryz.func134.trans (congrArg some (by kernel_rfl))
  f266 := Tryz.func140.trans (congrArg some (by kernel_rfl))
  f267 := Tryz.func138.trans (congrArg some (by kernel_rfl))
  f268 := Tryz.func108.trans (congrArg some (by kernel_rfl))
  f314 := Tryz.func141.trans (congrArg some (by kernel_rfl))
  t0 := Tryz.underlying0
  a0 := Tryz.isAgg0
  z0 := Tryz.sizeOf0
  v0 := Tryz.zeroValue0
  t3 := Tryz.underlying3
  a3 := Tryz.isAgg3
  z3 := Tryz.sizeOf3
  v3 := Tryz.zeroValue3
  t4 := Tryz.underlying4
  a4 := Tryz.isAgg4
  z4 := Tryz.sizeOf4
  v4 := Tryz.zeroValue4
  t5 := Tryz.underlying5
  a5 := Tryz.isAgg5
  z5 := Tryz.sizeOf5
  v5 := Tryz.zeroValue5
  t9 := Tryz.underlying9
  a9 := Tryz.isAgg9
  z9 := Tryz.sizeOf9
  v9 := Tryz.zeroValue9
  t21 := Tryz.underlying21
  a21 := Tryz.isAgg21
  z21 := Tryz.sizeOf21
  v21 := Tryz.zeroValue21
  t31 := Tryz.underlying47
  a31 := Tryz.isAgg47
  z31 := Tryz.sizeOf47
  v31 := Tryz.zeroValue47
  t46 := Tryz.underlying126
  a46 := Tryz.isAgg126
  z46 := Tryz.sizeOf126
  v46 := Tryz.zeroValue126
  t51 := Tryz.underlying166
  a51 := Tryz.isAgg166
  z51 := Tryz.sizeOf166
  v51 := Tryz.zeroValue166
  t105 := Tryz.underlying168
  a105 := Tryz.isAgg168
  z105 := Tryz.sizeOf168
  v105 := Tryz.zeroValue168
  t119 := Tryz.underlying180
  a119 := Tryz.isAgg180
  z119 := Tryz.sizeOf180
  t138 := Tryz.underlying182
  a138 := Tryz.isAgg182
  z138 := Tryz.sizeOf182
  v138 := Tryz.zeroValue182
  t139 := Tryz.underlying183
  a139 := Tryz.isAgg183
  z139 := Tryz.sizeOf183
  v139 := Tryz.zeroValue183
  t146 := Tryz.underlying184
  a146 := Tryz.isAgg184
  z146 := Tryz.sizeOf184
  v146 := Tryz.zeroValue184
  g1 := by kernel_rfl
  g3 := by kernel_rfl
  g4 := by kernel_rfl }
open Go.RowKit Go.Lib in
theorem Tryz.strings_genSplit (s sep : ByteArray) (sv : Nat) (n : Int) (N : Nat) (m : Int) (w : World) (hs : s.size < 4294967281) (hm : w.cell? ⟨0, 0, none⟩ = some (.int .i64 m)) (h1 : 1 ≤ sep.size) (hsv : sv ≤ sep.size) (hn0 : n ≠ 0) (hn63 : n ≤ 9223372036854775807) (hN : (N : Int) = min (if n < 0 then (Lib.countB s sep : Int) + 1 else n) ((s.size : Int) + 1)) :
    Calls Tryz.prog 98 #[.string s, .string sep, .int .i64 sv, .int .i64 n] w fun e w' =>
      e = .returned (.slice (some ⟨w.heap.size, 0, none⟩) (Lib.splitB sep sv (N - 1) s).length N) ∧ w' = w.alloc (.cells (Lib.cellsOf (Lib.splitB sep sv (N - 1) s) N) 9) := Any.strings_genSplit Tryz.lays221 (by kernel_rfl) s sep sv n N m w hs hm h1 hsv hn0 hn63 hN
end Go.Proofs.YtiafhbpklddlnaaGreatDoor
