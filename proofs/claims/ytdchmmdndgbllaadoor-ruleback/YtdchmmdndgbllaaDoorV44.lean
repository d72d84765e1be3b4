import Derived.Test.YtdchmmdndgbllaaDoorV27
import Derived.Test.YtdchmmdndgbllaaDoorV28
import Derived.Test.YtdchmmdndgbllaaDoorV43
import Derived.Test.YtdchmmdndgbllaaDoorV17
import Derived.Test.YtdchmmdndgbllaaDoorRows
import Derived.PinnedBridge
import Derived.Lib.LaidU8T
/- The walk of the law RuleBack. -/
namespace Go.Proofs.YtdchmmdndgbllaaDoor
open Go.RowKit Go.Shelf

attribute [local go_sem] Oper.semAt_some

theorem prE_cases (l : List Ru) : (∃ x, (x = 2 ∨ x = 3) ∧ prE l = x ∧ prT l = []) ∨ (prE l = 0 ∧ prT l = textR l ∧ (∀ r ∈ l, okR r = true) ∧ l.length ≤ 64) := by
  by_cases h : 64 < l.length
  · exact .inl ⟨3, .inr rfl, prE_long h⟩
  · by_cases ha : l.all okR = true
    · exact .inr ⟨(prE_ok h ha).1, (prE_ok h ha).2, fun r hr => List.all_eq_true.1 ha r hr, by omega⟩
    · exact .inl ⟨2, .inl rfl, prE_bad h ha⟩

set_option maxRecDepth 100000 in
set_option maxHeartbeats 4000000 in
theorem ruleBack_walk (a : Option Addr) (n c : Nat) (l : List Ru) (w : World) (h : Rus w a n l) (hs : ∀ x ∈ l, x.2.1.length ≤ maxLen ∧ x.2.2.length ≤ maxLen) (hroom : n * 40 ≤ 140737488351232) (hnil : a = none → n = 0 ∧ c = 0) (hT : Tabs w) :
    Calls Tryd.prog 5 #[.slice a n c] w fun e w' => e = .returned (.bool true) ∧ Below w.heap.size w w' := by
  have hwk := fun W (h : Below w.heap.size w W) => uwakes_any W (hT.below h)
  have HN : Hid ((a = none → n = 0 ∧ c = 0) ∧ (0 + n) * 40 ≤ 140737488355328 ∧ n ≤ 100000000000000000) := ⟨hnil, by omega, by omega⟩
  have H0 : Hid (Rus w a n l) := h
  have HP : Hid (∀ W ad cp, Below w.heap.size w W → Rus W ad n l → Calls Tryd.prog 13 #[.slice ad n cp] W fun e w' => e = .returned (.tuple #[.string (mk (prT l)), .int .i64 (prE l)]) ∧ Below W.heap.size W w') := fun W ad cp hB hR => uprint_any W ad n cp l hR (hT.below hB) HN.out.2.2 hs
  have hes := eqS
  rcases prE_cases l with ⟨x, hx, h1, h2⟩ | ⟨h1, h2, hok, h64⟩
  · rw [h1, h2, show mk [] = (⟨#[]⟩ : ByteArray) from rfl] at HP
    have HL : Hid (l.length = n) := h.1
    clear h1 h2 hs hnil hroom h hes
    rcases hx with rfl | rfl
    all_goals
      go_enter Tryd.func5, Tryd.ntmps5
      go_wp2_with fail
      refine (hwk _ (Below.refl _ _)).mono ?_
      rintro e w1 ⟨rfl, hB1⟩
      have H1 : Hid (Below w.heap.size w w1) := hB1
      clear hB1
      go_wp2_with (at_builtin; refine wpList_appR rfl _ _ rfl w1.heap.size 0 n c _ [] l _ rfl rfl (row_emptyR w1 _ (Nat.le_refl _)) ((H0.out.kept H1.out).kept ((Below.refl _ _).alloc (Nat.le_refl _) _)) HN.out.1 HN.out.2.1 (by simp) ?_; intro ad c' w2 hc' hown hB2; rw [Nat.zero_add] at hown; simp only [Nat.zero_add]; have H2 : Hid (Below w.heap.size w w2 ∧ Rus w2 ad n l) := ⟨(H1.out.alloc H1.out.size _).trans (hB2.mono H1.out.size), own_rus hown HL.out⟩; clear hown hB2 hc')
      refine (HP.out _ _ _ H2.out.1 H2.out.2).mono ?_
      rintro e w3 ⟨rfl, hB3⟩
      have H3 : Hid (Below w.heap.size w w3) := H2.out.1.trans (hB3.mono H2.out.1.size)
      clear hB3
      go_wp2_with (go_at_call 8; refine (hwk _ H3.out).mono ?_; rintro e w5 ⟨rfl, hB5⟩)
      go_ret
      exact ⟨rfl, H3.out.trans (hB5.mono H3.out.size)⟩
  · rw [h1, h2] at HP
    have HL : Hid (l.length = n) := h.1
    have hlen := textR_len l hok
    have htx : (textR l).length ≤ 104064 := by omega
    have hZs : (mk (textR l)).size = (textR l).length := by rw [← bs_len, bs_mk]
    have hrt : readT (bs (mk (textR l))) = .ok l := by rw [bs_mk]; exact readT_text l hok h64
    have HR : Hid (∀ W, Below w.heap.size w W → Calls Tryd.prog 14 #[.string (mk (textR l))] W fun e W' => ∃ ad cp, e = .returned (.tuple #[.slice ad n cp, .agg #[.int .i64 0, .int .i64 0]]) ∧ Rus W' ad n l ∧ Below W.heap.size W W') := fun W hW =>
      (uread_any (mk (textR l)) W (hT.below hW) (by rw [hZs]; unfold maxLen; omega)).mono fun e W' hp => by
        obtain ⟨ad, cp, h1, h2, _, _, h5⟩ := read_ok hrt hp
        rw [h.1] at h1 h2
        exact ⟨ad, cp, h1, h2, h5⟩
    have HS : Hid (∀ (W : World) (a b : Option Addr) (c d : Nat), Rus W a n l → Rus W b n l → Calls Tryd.prog 16 #[.slice a n c, .slice b n d] W fun e w' => e = .returned (.bool true) ∧ Below W.heap.size W w') := fun W a b c d h1 h2 => usame_yes W a b n c d l h1 h2 HN.out.2.2
    have hZ0 : ¬ (131072 : Int) < ((mk (textR l)).size : Int) := by rw [hZs]; omega
    generalize mk (textR l) = Z at *
    clear h1 h2 hs hnil hroom h hok h64 hlen htx hZs hrt
    go_enter Tryd.func5, Tryd.ntmps5
    go_wp2_with fail
    refine (hwk _ (Below.refl _ _)).mono ?_
    rintro e w1 ⟨rfl, hB1⟩
    have H1 : Hid (Below w.heap.size w w1) := hB1
    clear hB1
    go_wp2_with (at_builtin; refine wpList_appR rfl _ _ rfl w1.heap.size 0 n c _ [] l _ rfl rfl (row_emptyR w1 _ (Nat.le_refl _)) ((H0.out.kept H1.out).kept ((Below.refl _ _).alloc (Nat.le_refl _) _)) HN.out.1 HN.out.2.1 (by simp) ?_; intro ad c' w2 hc' hown hB2; rw [Nat.zero_add] at hown; simp only [Nat.zero_add]; have H2 : Hid (Below w.heap.size w w2 ∧ Rus w2 ad n l) := ⟨(H1.out.alloc H1.out.size _).trans (hB2.mono H1.out.size), own_rus hown HL.out⟩; clear hown hB2 hc')
    refine (HP.out _ _ _ H2.out.1 H2.out.2).mono ?_
    rintro e w3 ⟨rfl, hB3⟩
    have H3 : Hid (Below w.heap.size w w3) := H2.out.1.trans (hB3.mono H2.out.1.size)
    clear hB3
    go_wp2_with fail
    refine (HR.out _ H3.out).mono ?_
    rintro e w4 ⟨a4, c4, rfl, hR4, hB4⟩
    have H4 : Hid (Below w.heap.size w w4) := H3.out.trans (hB4.mono H3.out.size)
    have HR4 : Hid (Rus (w4.alloc (.cells #[.int .i64 0, .int .i64 0] 35)) a4 n l ∧ Rus (w4.alloc (.cells #[.int .i64 0, .int .i64 0] 35)) a n l ∧ Below w.heap.size w (w4.alloc (.cells #[.int .i64 0, .int .i64 0] 35))) := ⟨hR4.kept ((Below.refl _ _).alloc (Nat.le_refl _) _), H0.out.kept (H4.out.alloc H4.out.size _), H4.out.alloc H4.out.size _⟩
    clear hB4 hR4
    go_wp2_with first
      | (go_at_call 16; refine (HS.out _ _ _ _ _ HR4.out.1 HR4.out.2.1).mono ?_; rintro e w5 ⟨rfl, hB5⟩; have H5 : Hid (Below w.heap.size w w5) := HR4.out.2.2.trans (hB5.mono HR4.out.2.2.size); clear hB5)
      | (go_at_call 8; refine (hwk _ H5.out).mono ?_; rintro e w6 ⟨rfl, hB6⟩)
    go_ret
    exact ⟨rfl, H5.out.trans (hB6.mono H5.out.size)⟩
end Go.Proofs.YtdchmmdndgbllaaDoor

/- What the rows list gives the walks: the two tables of unicode/utf8. -/
namespace Go.Proofs.YtdchmmdndgbllaaDoor
open Go.Lib

theorem acc_eq : (Rows.laid_unicode_utf8_acceptRanges : DataW Unit) = acceptData := by kernel_rfl
theorem tabs_of {W : World} (h : laidMet Tryd.prog [("unicode/utf8.acceptRanges", Rows.laid_unicode_utf8_acceptRanges), ("unicode/utf8.first", Rows.laid_unicode_utf8_first)] W) : Tabs W := by
  have h1 := Lib.laidMet.reads h (.head _)
  have h2 := Lib.laidMet.reads h (.tail _ (.head _))
  rw [acc_eq] at h1
  rw [show Rows.laid_unicode_utf8_first = firstData from Pinned.utf8First_eq] at h2
  exact utf8Tabs_of_readsT (ρ := Tryd.lays197_ren) (U8Types.of260 { Tryd.lays197 with }) ⟨by kernel_rfl, by kernel_rfl, by kernel_rfl, by kernel_rfl, by kernel_rfl, by kernel_rfl, by kernel_rfl⟩ h2 h1
end Go.Proofs.YtdchmmdndgbllaaDoor
