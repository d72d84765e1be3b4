/- The walk of the document's Do of a text, and of its End. -/
import Derived.Test.YtkfmihbbmafolaaRefText
namespace Go.Proofs.Ytkfmihbbmafolaa
open Go.RowKit

theorem bcell {W w1 : World} (hb : Below W.heap.size W w1) : (∀ b o, b < W.heap.size → w1.cell? ⟨b, o, none⟩ = W.cell? ⟨b, o, none⟩) ∧ (∀ b o, b < W.heap.size → w1.frozen? ⟨b, o, none⟩ = W.frozen? ⟨b, o, none⟩) :=
  ⟨fun b o h => hb.cell (p := ⟨b, o, none⟩) h, fun b o h => hb.frozen (p := ⟨b, o, none⟩) h⟩

theorem Bytes.lowB {w w' : World} {B : Nat} {a : Option Addr} {n : Nat} {l : List UInt8} (h : Bytes w a n l) (hB : Below B w w') (ha : ∀ x, a = some x → x.block < B) : Bytes w' a n l := by
  refine ⟨h.1, fun h0 => ?_⟩
  obtain ⟨b, off, rfl, hc⟩ := h.2 h0
  exact ⟨b, off, rfl, fun i hi => by rw [hB.cell (p := ⟨b, off + i, none⟩) (ha ⟨b, off, none⟩ rfl)]; exact hc i hi⟩

set_option maxHeartbeats 1000000 in
theorem do_text (b off n c : Nat) (m : Int) (l : List UInt8) (o : Out) (w : World) (hb : Bytes w (some ⟨b, off, none⟩) n l) (hbw : b < w.heap.size)
    (hcall : ∀ W, Bytes W (some ⟨b, off, none⟩) n l → Calls Try.prog 45 #[.agg #[.slice (some ⟨b, off, none⟩) n c, .int .i64 0], .int .i64 m] W (DoPost W b o)) :
    Calls Try.prog 25 #[.agg #[.slice (some ⟨b, off, none⟩) n c, .int .i64 0], .agg #[.int .i64 3, .int .i64 m]] w (DoPost w b o) := by
  have Hcall : Hid (∀ W, Bytes W (some ⟨b, off, none⟩) n l → Calls Try.prog 45 #[.agg #[.slice (some ⟨b, off, none⟩) n c, .int .i64 0], .int .i64 m] W (DoPost W b o)) := hcall
  clear hcall
  obtain ⟨orest, oerr, onum, obytes⟩ := o
  go_enter Try.func25, Try.ntmps25
  go_wp2_with fail
  refine (Hcall.out _ (bytes4 hb _ _ _ _)).mono ?_
  rintro e w1 ⟨off1, n1, c1, q1, m1, d1, rfl, hb1, hnc, hq1, hqb, B1⟩
  obtain ⟨hc1, hf1⟩ := bcell B1
  have hz : w.heap.size + 4 ≤ w1.heap.size := by have := B1.size; simp at this; omega
  have BW := (below4 w _ _ _ _).trans (B1.mono (below4 w _ _ _ _).size)
  have a2 : w1.cell? ⟨w.heap.size + 1 + 1, 0, none⟩ = some (.slice none 0 0) := by rw [hc1 _ _ (by simp)]; simp [go_sem]
  have a3 : w1.cell? ⟨w.heap.size + 1 + 1, 1, none⟩ = some (.int .i64 0) := by rw [hc1 _ _ (by simp)]; simp [go_sem]
  have a4 : w1.cell? ⟨w.heap.size + 1 + 1 + 1, 0, none⟩ = some (.int .u64 0) := by rw [hc1 _ _ (by simp)]; simp [go_sem]
  have a5 : w1.cell? ⟨w.heap.size + 1 + 1 + 1, 1, none⟩ = some (.slice none 0 0) := by rw [hc1 _ _ (by simp)]; simp [go_sem]
  have f2 : w1.frozen? ⟨w.heap.size + 1 + 1, 0, none⟩ = false := by rw [hf1 _ _ (by simp)]; simp [go_sem]
  have f3 : w1.frozen? ⟨w.heap.size + 1 + 1, 1, none⟩ = false := by rw [hf1 _ _ (by simp)]; simp [go_sem]
  have f4 : w1.frozen? ⟨w.heap.size + 1 + 1 + 1, 0, none⟩ = false := by rw [hf1 _ _ (by simp)]; simp [go_sem]
  have f5 : w1.frozen? ⟨w.heap.size + 1 + 1 + 1, 1, none⟩ = false := by rw [hf1 _ _ (by simp)]; simp [go_sem]
  clear hc1 hf1 B1
  go_wp2
  have BS : Below w.heap.size w1 ((((w1.setCell ⟨w.heap.size + 1 + 1, 0, none⟩ (.slice (some ⟨b, off1, none⟩) n1 c1)).setCell ⟨w.heap.size + 1 + 1, 1, none⟩ (.int .i64 oerr)).setCell ⟨w.heap.size + 1 + 1 + 1, 0, none⟩ (.int .u64 onum)).setCell ⟨w.heap.size + 1 + 1 + 1, 1, none⟩ (.slice q1 m1 d1)) :=
    ((((Below.refl _ _).setCell (by simp; omega) _).setCell (by simp; omega) _).setCell (by simp; omega) _).setCell (by simp; omega) _
  exact bodyPost_ret (v := .tuple #[.agg #[.slice (some ⟨b, off1, none⟩) n1 c1, .int .i64 oerr], .agg #[.int .u64 onum, .slice q1 m1 d1]]) (by simp [results, Try.results25, go_sem, a2, a3, a4, a5]) rfl
    ⟨off1, n1, c1, q1, m1, d1, rfl, hb1.lowB BS (by intro x hx; cases hx; exact hbw), hnc, hq1.lowB BS (fun x hx => by rw [hqb x hx]; exact hbw), hqb, BW.trans BS⟩

theorem refEnd_any (a : Option Addr) (n c : Nat) (x : Int) (w : World) :
    Calls Try.prog 30 #[.agg #[.slice a n c, .int .i64 x]] w fun e w' => e = .returned (.int .i64 (if x = 0 ∧ 0 < n then 111 else x)) ∧ Below w.heap.size w w' := by
  by_cases h0 : x = 0
  · subst h0
    by_cases hn : 0 < n
    · rw [if_pos ⟨rfl, hn⟩]
      have i0 : (0 : Int) < (n : Int) := by omega
      go_enter Try.func30, Try.ntmps30
      go_wp2
      go_ret
      exact ⟨rfl, (Below.refl _ _).alloc (Nat.le_refl _) _⟩
    · rw [if_neg (by simpa using hn)]
      have i0 : ¬ (0 : Int) < (n : Int) := by omega
      go_enter Try.func30, Try.ntmps30
      go_wp2
      go_ret
      exact ⟨rfl, (Below.refl _ _).alloc (Nat.le_refl _) _⟩
  · rw [if_neg (by simp [h0])]
    have hx : (x == 0) = false := by simpa using h0
    go_enter Try.func30, Try.ntmps30
    go_wp2
    go_ret
    exact ⟨rfl, (Below.refl _ _).alloc (Nat.le_refl _) _⟩

end Go.Proofs.Ytkfmihbbmafolaa
