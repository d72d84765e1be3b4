import Derived.BigQuiet
import Derived.Test.YtdchmmdndgbllaaDoorW38
import Derived.Test.YtdchmmdndgbllaaDoorW39
import Derived.Test.YtdchmmdndgbllaaDoorW40
/- The law's own functions: same, wakes. -/
namespace Go.Proofs.YtdchmmdndgbllaaDoor
open Go.RowKit Go.Shelf

attribute [local go_sem] Oper.semAt_some

set_option maxRecDepth 100000 in
set_option maxHeartbeats 4000000 in
theorem usame_yes (w : World) (a b : Option Addr) (n c d : Nat) (l : List Ru) (h1 : Rus w a n l) (h2 : Rus w b n l) (hn : n ≤ 100000000000000000) :
    Calls Tryd.prog 16 #[.slice a n c, .slice b n d] w fun e w' => e = .returned (.bool true) ∧ Below w.heap.size w w' := by
  have hne := neR
  go_enter Tryd.func16, Tryd.ntmps16
  go_wp2
  go_loopw [13] (fun i wr => ∃ k : Nat, k ≤ n ∧ i = .int .i64 (k : Int) ∧ Hid (Below w.heap.size w wr)) (fun i _ => n - (intOf i).toNat)
  case atStart => exact ⟨0, Nat.zero_le _, rfl, Below.refl _ _⟩
  case round =>
    obtain ⟨k, hk, rfl, H⟩ := hrel
    by_cases hlt : k < n
    · obtain ⟨x, hx⟩ : ∃ x, l[k]? = some x := ⟨_, List.getElem?_eq_getElem (by rw [h1.1]; exact hlt)⟩
      obtain ⟨b1, o1, rfl, hc1⟩ := h1.2 (by omega)
      obtain ⟨b2, o2, rfl, hc2⟩ := h2.2 (by omega)
      obtain ⟨t1, t2, t3⟩ := hc1 k x hx
      obtain ⟨u1, u2, u3⟩ := hc2 k x hx
      have hB : ∀ q, Below w.heap.size w (wr.drewN q) := fun q => H.out.trans ⟨rfl, rfl, rfl, Nat.le_refl _, fun _ _ => rfl⟩
      have q1 := fun q => ((hB q).cell (p := ⟨b1, o1 + k * 3, none⟩) (World.block_lt_of_cell? w _ t1)).trans t1
      have q2 := fun q => ((hB q).cell (p := ⟨b1, o1 + k * 3 + 1, none⟩) (World.block_lt_of_cell? w _ t2)).trans t2
      have q3 := fun q => ((hB q).cell (p := ⟨b1, o1 + k * 3 + 2, none⟩) (World.block_lt_of_cell? w _ t3)).trans t3
      have p1 := fun q => ((hB q).cell (p := ⟨b2, o2 + k * 3, none⟩) (World.block_lt_of_cell? w _ u1)).trans u1
      have p2 := fun q => ((hB q).cell (p := ⟨b2, o2 + k * 3 + 1, none⟩) (World.block_lt_of_cell? w _ u2)).trans u2
      have p3 := fun q => ((hB q).cell (p := ⟨b2, o2 + k * 3 + 2, none⟩) (World.block_lt_of_cell? w _ u3)).trans u3
      obtain ⟨rk, rf, rt⟩ := x
      simp only at q1 q2 q3 p1 p2 p3
      generalize mk rf = sf at *
      generalize mk rt = st at *
      have i2 : (k : Int) < (n : Int) := by omega
      have i3 : ¬ n ≤ k := by omega
      have HBd : Hid (∀ q, Below w.heap.size w (wr.drewN q)) := hB
      clear hc1 hc2 hx t1 t2 t3 u1 u2 u3 h1 h2 hB
      go_wp2
      go_quiet (fail)
      go_wp2
      go_roundw
      case rel => exact ⟨k + 1, by omega, by go_num, HBd.out _⟩
      case measure => simp [intOf]; omega
    · obtain rfl : k = n := by omega
      have i2 : ¬ (k : Int) < (k : Int) := by omega
      go_wp2
      go_ret
      exact ⟨rfl, H.out⟩
/-- what Read answers where it is right -/
theorem read_ok {s : ByteArray} {w W : World} {e : Ending} {rs : List Ru} (hr : readT (bs s) = .ok rs) (h : RPost s w e W) : ∃ ad cp, e = .returned (.tuple #[.slice ad rs.length cp, .agg #[.int .i64 0, .int .i64 0]]) ∧ Rus W ad rs.length rs ∧ rs.length ≤ cp ∧ (ad = none → rs.length = 0 ∧ cp = 0) ∧ Below w.heap.size w W := by
  obtain ⟨h | h, hB⟩ := h
  · obtain ⟨rs', v, h1, h2, h3⟩ := h
    rw [hr] at h1
    cases h1
    obtain ⟨ad, cp, rfl, hc, hn⟩ := row_shapeR h3
    exact ⟨ad, cp, h2, own_rus h3 rfl, hc, hn, hB⟩
  · obtain ⟨er, p, h1, _⟩ := h
    rw [hr] at h1; cases h1
theorem read_bad {s : ByteArray} {w W : World} {e : Ending} {er p : Nat} (hr : readT (bs s) = .error (er, p)) (h : RPost s w e W) : e = .returned (.tuple #[.slice none 0 0, .agg #[.int .i64 (er : Int), .int .i64 (p : Int)]]) ∧ Below w.heap.size w W := by
  obtain ⟨h | h, hB⟩ := h
  · obtain ⟨rs', v, h1, _⟩ := h
    rw [hr] at h1; cases h1
  · obtain ⟨er', p', h1, h2⟩ := h
    rw [hr] at h1; cases h1
    exact ⟨h2, hB⟩

set_option maxRecDepth 100000 in
set_option maxHeartbeats 4000000 in
theorem uwakes_any (w : World) (hT : Tabs w) : Calls Tryd.prog 8 #[] w fun e w' => e = .returned (.bool true) ∧ Below w.heap.size w w' := by
  have hrd := uread_any ⟨#[107, 101, 101, 112, 32, 115, 114, 99, 10, 109, 111, 118, 101, 32, 34, 97, 32, 98, 34, 32, 47, 32, 35, 32, 110, 111, 10, 10, 100, 114, 111, 112, 32, 115, 114, 99, 47, 120, 10]⟩ w hT (by unfold maxLen; decide)
  have HR : Hid (∀ e W, RPost ⟨#[107, 101, 101, 112, 32, 115, 114, 99, 10, 109, 111, 118, 101, 32, 34, 97, 32, 98, 34, 32, 47, 32, 35, 32, 110, 111, 10, 10, 100, 114, 111, 112, 32, 115, 114, 99, 47, 120, 10]⟩ w e W → ∃ bl off cp, e = .returned (.tuple #[.slice (some ⟨bl, off, none⟩) 3 cp, .agg #[.int .i64 0, .int .i64 0]]) ∧ W.cell? ⟨bl, off + 3, none⟩ = some (.int .i64 3) ∧ W.cell? ⟨bl, off + 3 + 1, none⟩ = some (.string ⟨#[97, 32, 98]⟩) ∧ W.cell? ⟨bl, off + 3 + 2, none⟩ = some (.string ⟨#[]⟩) ∧ Below w.heap.size w W) := fun e W h => by
    have hu : readT (bs ⟨#[107, 101, 101, 112, 32, 115, 114, 99, 10, 109, 111, 118, 101, 32, 34, 97, 32, 98, 34, 32, 47, 32, 35, 32, 110, 111, 10, 10, 100, 114, 111, 112, 32, 115, 114, 99, 47, 120, 10]⟩) = .ok [(1, [115, 114, 99], []), (3, [97, 32, 98], []), (2, [115, 114, 99, 47, 120], [])] := u_wake
    obtain ⟨ad, cp, rfl, hR, _, _, hB⟩ := read_ok hu h
    obtain ⟨bl, off, rfl, hc⟩ := hR.2 (by decide)
    obtain ⟨t1, t2, t3⟩ := hc 1 _ rfl
    exact ⟨bl, off, cp, rfl, t1, t2, t3, hB⟩
  have heq := eqR
  have hes := eqS
  go_enter Tryd.func8, Tryd.ntmps8
  go_wp2_with (go_at_call 14; refine hrd.mono ?_; clear hrd; intro e w2 hp; obtain ⟨bl, off, cp, rfl, t1, t2, t3, hB2⟩ := HR.out _ _ hp; have hbl := World.block_lt_of_cell? w2 _ t1; have hB3 : Below w2.heap.size w2 (w2.alloc (.cells #[.int .i64 0, .int .i64 0] 35)) := (Below.refl _ _).alloc (Nat.le_refl _) _; have q1 := (hB3.cell (p := ⟨bl, off + 3, none⟩) hbl).trans t1; have q2 := (hB3.cell (p := ⟨bl, off + 3 + 1, none⟩) hbl).trans t2; have q3 := (hB3.cell (p := ⟨bl, off + 3 + 2, none⟩) hbl).trans t3; have HB : Hid (Below w.heap.size w (w2.alloc (.cells #[.int .i64 0, .int .i64 0] 35))) := hB2.alloc hB2.size _; clear hp hB2 hB3 t1 t2 t3)
  go_ret
  exact ⟨rfl, HB.out⟩
end Go.Proofs.YtdchmmdndgbllaaDoor
