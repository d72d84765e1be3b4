/- What is wrong with a tree: the program's check and the document's. -/
import Derived.Test.YtdibdcbihleflaaOSays
import Derived.Test.YtdibdcbihleflaaORefSpot
namespace Go.Proofs.Ytdibdcbihleflaa
open Go.RowKit

attribute [local go_sem] Oper.semAt_some

def Box3 (W : World) (g : Nat) (u0 u1 u2 : Value) : Prop := W.heap[g]? = some (.cells #[u0, u1, u2] 50 (0, 0))
theorem Box3.lt {W : World} {g : Nat} {u0 u1 u2 : Value} (h : Box3 W g u0 u1 u2) : g < W.heap.size := (Array.getElem?_eq_some_iff.1 h).1
theorem Box3.new (W : World) (u0 u1 u2 : Value) : Box3 (W.alloc (.cells #[u0, u1, u2] 50)) W.heap.size u0 u1 u2 := World.alloc_heap_new W _
theorem Box3.below {W W' : World} {B g : Nat} {u0 u1 u2 : Value} (h : Box3 W g u0 u1 u2) (hB : Below B W W') (hg : g < B) : Box3 W' g u0 u1 u2 := (hB.block g hg).trans h
theorem Box3.cell {W : World} {g : Nat} {u0 u1 u2 : Value} (h : Box3 W g u0 u1 u2) : W.cell? ⟨g, 0, none⟩ = some u0 ∧ W.cell? ⟨g, 1, none⟩ = some u1 ∧ W.cell? ⟨g, 2, none⟩ = some u2 := by
  unfold Box3 at h
  simp [World.cell?, h]
def sle (s t : ByteArray) : Bool := Op.bytesLess s.toList t.toList || s.toList == t.toList
theorem run_leq (s t : ByteArray) (w : World) : (binOp .leq 9 (.string s) (.string t)).run Try.prog w = .ok (.bool (sle s t)) w := by
  simp [binOp, Op.stringOp, sle]
/-- the first thing wrong with the entries behind a name -/
def treeErr : ByteArray → List Ent → Int
  | _, [] => 0
  | p, x :: r => if (spot (bs x.1)).1 ≠ 0 then ((spot (bs x.1)).1 : Int) else if sle x.1 p then 161 else if x.2.2 = 0 then 2 else treeErr x.1 r
def treeErrs (l : List Ent) : Int := if 256 < l.length then 3 else treeErr ⟨#[]⟩ l
theorem treeErr_drop (p : ByteArray) (l : List Ent) (k : Nat) (x : Ent) (h : l[k]? = some x) : treeErr p (l.drop k) = if (spot (bs x.1)).1 ≠ 0 then ((spot (bs x.1)).1 : Int) else if sle x.1 p then 161 else if x.2.2 = 0 then 2 else treeErr x.1 (l.drop (k + 1)) := by
  have hk := (List.getElem?_eq_some_iff.1 h).1
  rw [List.drop_eq_getElem_cons hk]
  have : l[k] = x := (List.getElem?_eq_some_iff.1 h).2
  rw [this]
  rfl
theorem treeErr_end (p : ByteArray) (l : List Ent) : treeErr p (l.drop l.length) = 0 := by rw [List.drop_length]; rfl
/-- the names of entries are as long as a text may be -/
def Short (l : List Ent) : Prop := ∀ (j : Nat) x, l[j]? = some x → x.1.size ≤ maxLen

set_option maxRecDepth 100000 in
set_option maxHeartbeats 4000000 in
theorem checkTree_any (a : Option Addr) (n c : Nat) (l : List Ent) (w : World) (h : Ents w a n l) (hs : Short l) (hn : n ≤ 9223372036854775807) :
    Calls Try.prog 74 #[.agg #[.slice a n c]] w fun e w' => e = .returned (.int .i64 (treeErrs l)) ∧ Below w.heap.size w w' := by
  have hll := h.1
  have hB0 : Below w.heap.size w (w.alloc (.cells #[.slice a n c] 35)) := (Below.refl _ w).alloc (Nat.le_refl _) _
  have hlq := run_leq
  by_cases h256 : 256 < n
  · have i1 : (256 : Int) < n := by omega
    have e1 : treeErrs l = 3 := by unfold treeErrs; rw [if_pos (by omega)]
    go_enter Try.func74, Try.ntmps74
    go_wp2
    go_ret
    exact ⟨by rw [e1]; rfl, hB0⟩
  · have i1 : ¬ (256 : Int) < n := by omega
    have e1 : treeErrs l = treeErr ⟨#[]⟩ l := by unfold treeErrs; rw [if_neg (by omega)]
    rw [e1]
    obtain ⟨E, hE⟩ : ∃ E, E = treeErr ⟨#[]⟩ l := ⟨_, rfl⟩
    rw [← hE]
    go_enter Try.func74, Try.ntmps74
    go_wp2
    go_loopw [3, 14] (fun p i wr => ∃ (k : Nat) (s : ByteArray), k ≤ n ∧ i = .int .i64 (k : Int) ∧ p = .string s ∧ Hid (E = treeErr s (l.drop k) ∧ Below w.heap.size w wr)) (fun _ i _ => n - (intOf i).toNat)
    case atStart => exact ⟨0, _, Nat.zero_le _, rfl, rfl, hE, hB0⟩
    case round =>
      clear hE hB0 e1
      obtain ⟨k, s, hk, rfl, rfl, H⟩ := hrel
      by_cases hlt : k < n
      · obtain ⟨x, hx⟩ : ∃ x, l[k]? = some x := ⟨_, List.getElem?_eq_getElem (by omega)⟩
        obtain ⟨b1, o1, rfl, hc1⟩ := h.2 (by omega)
        obtain ⟨t1, t2, t3⟩ := hc1 k x hx
        have q1 := (H.out.2.cell (p := ⟨b1, o1 + k * 3, none⟩) (World.block_lt_of_cell? w _ t1)).trans t1
        have q2 := (H.out.2.cell (p := ⟨b1, o1 + k * 3 + 1, none⟩) (World.block_lt_of_cell? w _ t2)).trans t2
        have q3 := (H.out.2.cell (p := ⟨b1, o1 + k * 3 + 2, none⟩) (World.block_lt_of_cell? w _ t3)).trans t3
        have hd := treeErr_drop s l k x hx
        have hck := fun w => check_any x.1 w (hs k x hx)
        have i2 : (k : Int) < (n : Int) := by omega
        have i3 : ¬ n ≤ k := by omega
        have HD : Hid (treeErr s (l.drop k) = if (spot (bs x.1)).1 ≠ 0 then ((spot (bs x.1)).1 : Int) else if sle x.1 s then 161 else if x.2.2 = 0 then 2 else treeErr x.1 (l.drop (k + 1))) := hd
        clear hc1 hx t1 t2 t3 hd
        obtain ⟨nm, fo, id⟩ := x
        simp only at q1 q2 q3 hck HD
        obtain ⟨se, sp⟩ : ∃ se, se = spot (bs nm) := ⟨_, rfl⟩
        rw [← sp] at hck HD
        clear sp
        simp only [spotV] at hck
        obtain ⟨se1, se2⟩ := se
        simp only at hck HD
        by_cases h1 : se1 = 0
        · subst h1
          rw [if_neg (by simp)] at HD
          simp only [show ((0 : Nat) : Int) = 0 from rfl] at hck
          by_cases h2 : sle nm s = true
          · rw [if_pos h2] at HD
            have HE : Hid (E = 161) := H.out.1.trans HD.out
            clear HD
            go_wp2_with (go_at_call 88; refine (hck _).mono ?_; clear hck; rintro e w2 ⟨rfl, hB2⟩; have hs2 := hB2.size; obtain ⟨c0, c1, c2⟩ := ((Box3.new wr (.string nm) (.bool fo) (.int .u64 id)).below (hB2.alloc hB2.size (.cells #[.int .i64 0, .int .i64 (se2 : Int)] 99)) (by simp)).cell; have HB : Hid (Below w.heap.size w (w2.alloc (.cells #[.int .i64 0, .int .i64 (se2 : Int)] 99))) := ((H.out.2.alloc H.out.2.size _).trans (hB2.mono (by simp; have := H.out.2.size; omega))).alloc (by have := H.out.2.size; have := hB2.size; simp at this; omega) _; clear hB2)
            go_ret
            exact ⟨by rw [HE.out]; rfl, HB.out⟩
          · rw [if_neg h2] at HD
            have h2' : sle nm s = false := by simpa using h2
            clear h2
            by_cases h3 : id = 0
            · rw [if_pos h3] at HD
              subst h3
              have HE : Hid (E = 2) := H.out.1.trans HD.out
              clear HD
              go_wp2_with (go_at_call 88; refine (hck _).mono ?_; clear hck; rintro e w2 ⟨rfl, hB2⟩; have hs2 := hB2.size; obtain ⟨c0, c1, c2⟩ := ((Box3.new wr (.string nm) (.bool fo) (.int .u64 0)).below (hB2.alloc hB2.size (.cells #[.int .i64 0, .int .i64 (se2 : Int)] 99)) (by simp)).cell; have HB : Hid (Below w.heap.size w (w2.alloc (.cells #[.int .i64 0, .int .i64 (se2 : Int)] 99))) := ((H.out.2.alloc H.out.2.size _).trans (hB2.mono (by simp; have := H.out.2.size; omega))).alloc (by have := H.out.2.size; have := hB2.size; simp at this; omega) _; clear hB2)
              go_ret
              exact ⟨by rw [HE.out]; rfl, HB.out⟩
            · rw [if_neg h3] at HD
              have h3' : (id == 0) = false := beq_eq_false_iff_ne.2 h3
              have HE : Hid (E = treeErr nm (l.drop (k + 1))) := H.out.1.trans HD.out
              clear HD
              go_wp2_with (go_at_call 88; refine (hck _).mono ?_; clear hck; rintro e w2 ⟨rfl, hB2⟩; have hs2 := hB2.size; obtain ⟨c0, c1, c2⟩ := ((Box3.new wr (.string nm) (.bool fo) (.int .u64 id)).below (hB2.alloc hB2.size (.cells #[.int .i64 0, .int .i64 (se2 : Int)] 99)) (by simp)).cell; have HB : Hid (Below w.heap.size w (w2.alloc (.cells #[.int .i64 0, .int .i64 (se2 : Int)] 99))) := ((H.out.2.alloc H.out.2.size _).trans (hB2.mono (by simp; have := H.out.2.size; omega))).alloc (by have := H.out.2.size; have := hB2.size; simp at this; omega) _; clear hB2)
              go_roundw
              case rel => exact ⟨k + 1, nm, by omega, by simp, rfl, HE.out, HB.out⟩
              case measure => simp [intOf]; omega
        · rw [if_pos h1] at HD
          have h1' : ((se1 : Int) == 0) = false := beq_eq_false_iff_ne.2 (by omega)
          have HE : Hid (E = (se1 : Int)) := H.out.1.trans HD.out
          clear HD
          go_wp2_with (go_at_call 88; refine (hck _).mono ?_; clear hck; rintro e w2 ⟨rfl, hB2⟩; have hs2 := hB2.size; obtain ⟨c0, c1, c2⟩ := ((Box3.new wr (.string nm) (.bool fo) (.int .u64 id)).below (hB2.alloc hB2.size (.cells #[.int .i64 (se1 : Int), .int .i64 (se2 : Int)] 99)) (by simp)).cell; have HB : Hid (Below w.heap.size w (w2.alloc (.cells #[.int .i64 (se1 : Int), .int .i64 (se2 : Int)] 99))) := ((H.out.2.alloc H.out.2.size _).trans (hB2.mono (by simp; have := H.out.2.size; omega))).alloc (by have := H.out.2.size; have := hB2.size; simp at this; omega) _; clear hB2)
          go_ret
          exact ⟨by rw [HE.out]; rfl, HB.out⟩
      · obtain rfl : k = n := by omega
        have i2 : ¬ (k : Int) < (k : Int) := by omega
        have e0 : E = 0 := by rw [H.out.1, ← hll]; exact treeErr_end _ _
        subst e0
        go_wp2
        go_ret
        exact ⟨rfl, H.out.2⟩
end Go.Proofs.Ytdibdcbihleflaa
