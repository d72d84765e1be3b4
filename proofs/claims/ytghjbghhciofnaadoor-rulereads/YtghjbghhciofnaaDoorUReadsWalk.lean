/- The walk of the law RuleReads. -/
import Derived.Test.YtghjbghhciofnaaDoorURefRead
import Derived.Test.YtghjbghhciofnaaDoorULaw
namespace Go.Proofs.YtghjbghhciofnaaDoor
open Go.RowKit Go.Shelf

attribute [local go_sem] Oper.semAt_some

set_option maxRecDepth 100000 in
set_option maxHeartbeats 4000000 in
theorem ruleReads_walk (s : ByteArray) (w : World) (hs : s.size ≤ maxLen) (hT : Tabs w) :
    Calls Tryd.prog 4 #[.string s] w fun e w' => e = .returned (.bool true) ∧ Below w.heap.size w w' := by
  have hwk := fun W (h : Below w.heap.size w W) => uwakes_any W (hT.below h)
  have hes := eqS
  cases hr : readT (bs s) with
  | error ep =>
    obtain ⟨er, p⟩ := ep
    have hrd := fun W (h : Below w.heap.size w W) => (uread_any s W (hT.below h) hs).mono fun e W' hp => read_bad hr hp
    have hrr := fun W => (rread13_any s W).mono fun e W' hp => read_bad hr hp
    have hsm := fun (W : World) => usame_yes W none none 0 0 0 [] (rus_nil W none) (rus_nil W none) (by omega)
    clear hr
    go_enter Tryd.func4, Tryd.ntmps4
    go_wp2_with fail
    refine (hwk _ (Below.refl _ _)).mono ?_
    rintro e w1 ⟨rfl, hB1⟩
    have H1 : Hid (Below w.heap.size w w1) := hB1
    clear hB1
    go_wp2_with fail
    refine (hrd _ H1.out).mono ?_
    rintro e w2 ⟨rfl, hB2⟩
    have H2 : Hid (Below w.heap.size w w2) := H1.out.trans (hB2.mono H1.out.size)
    clear hB2
    go_wp2_with fail
    refine (hrr _).mono ?_
    rintro e w3 ⟨rfl, hB3⟩
    have bS : Box2 (w3.alloc (.cells #[.int .i64 (er : Int), .int .i64 (p : Int)] 35)) w2.heap.size (.int .i64 (er : Int)) (.int .i64 (p : Int)) := ((hB3.alloc hB3.size _).block _ (by simp)).trans (Box2.new w2 _ _)
    obtain ⟨x0, x1⟩ := bS.cell
    have H3 : Hid (Below w.heap.size w (w3.alloc (.cells #[.int .i64 (er : Int), .int .i64 (p : Int)] 35))) := ((H2.out.alloc H2.out.size _).trans (hB3.mono (by have := H2.out.size; simp; omega))).alloc (by have := H2.out.size; have := hB3.size; simp at this; omega) _
    clear hB3 bS
    go_wp2_with first
      | (go_at_call 16; refine (hsm _).mono ?_; rintro e w4 ⟨rfl, hB4⟩; have H4 : Hid (Below w.heap.size w w4) := H3.out.trans (hB4.mono H3.out.size); clear hB4)
      | (go_at_call 8; refine (hwk _ H4.out).mono ?_; rintro e w5 ⟨rfl, hB5⟩)
    go_ret
    exact ⟨rfl, H4.out.trans (hB5.mono H4.out.size)⟩
  | ok rs =>
    have hln := (readT_ok hr).2
    have hrd := fun W (h : Below w.heap.size w W) => (uread_any s W (hT.below h) hs).mono fun e W' hp => read_ok hr hp
    have hrr := fun W => (rread13_any s W).mono fun e W' hp => read_ok hr hp
    have hsm : Hid (∀ (W : World) (a b : Option Addr) (c d : Nat), Rus W a rs.length rs → Rus W b rs.length rs → Calls Tryd.prog 16 #[.slice a rs.length c, .slice b rs.length d] W fun e w' => e = .returned (.bool true) ∧ Below W.heap.size W w') := fun W a b c d h1 h2 => usame_yes W a b rs.length c d rs h1 h2 (by omega)
    clear hr hln
    go_enter Tryd.func4, Tryd.ntmps4
    go_wp2_with fail
    refine (hwk _ (Below.refl _ _)).mono ?_
    rintro e w1 ⟨rfl, hB1⟩
    have H1 : Hid (Below w.heap.size w w1) := hB1
    clear hB1
    go_wp2_with fail
    refine (hrd _ H1.out).mono ?_
    rintro e w2 ⟨a2, c2, rfl, hR2, -, -, hB2⟩
    have H2 : Hid (Below w.heap.size w w2) := H1.out.trans (hB2.mono H1.out.size)
    have HR2 : Hid (Rus w2 a2 rs.length rs) := hR2
    clear hB2 hR2
    go_wp2_with fail
    refine (hrr _).mono ?_
    rintro e w3 ⟨a3, c3, rfl, hR3, -, -, hB3⟩
    have bS : Box2 (w3.alloc (.cells #[.int .i64 0, .int .i64 0] 35)) w2.heap.size (.int .i64 0) (.int .i64 0) := ((hB3.alloc hB3.size _).block _ (by simp)).trans (Box2.new w2 _ _)
    obtain ⟨x0, x1⟩ := bS.cell
    have H3 : Hid (Below w.heap.size w (w3.alloc (.cells #[.int .i64 0, .int .i64 0] 35))) := ((H2.out.alloc H2.out.size _).trans (hB3.mono (by have := H2.out.size; simp; omega))).alloc (by have := H2.out.size; have := hB3.size; simp at this; omega) _
    have HR3 : Hid (Rus (w3.alloc (.cells #[.int .i64 0, .int .i64 0] 35)) a2 rs.length rs ∧ Rus (w3.alloc (.cells #[.int .i64 0, .int .i64 0] 35)) a3 rs.length rs) := ⟨((HR2.out.kept ((Below.refl _ _).alloc (Nat.le_refl _) _)).kept hB3).kept ((Below.refl _ _).alloc (Nat.le_refl _) _), hR3.kept ((Below.refl _ _).alloc (Nat.le_refl _) _)⟩
    clear hB3 bS hR3
    generalize rs.length = nr at *
    go_wp2_with first
      | (go_at_call 16; refine (hsm.out _ _ _ _ _ HR3.out.1 HR3.out.2).mono ?_; rintro e w4 ⟨rfl, hB4⟩; have H4 : Hid (Below w.heap.size w w4) := H3.out.trans (hB4.mono H3.out.size); clear hB4)
      | (go_at_call 8; refine (hwk _ H4.out).mono ?_; rintro e w5 ⟨rfl, hB5⟩)
    go_ret
    exact ⟨rfl, H4.out.trans (hB5.mono H4.out.size)⟩
end Go.Proofs.YtghjbghhciofnaaDoor
