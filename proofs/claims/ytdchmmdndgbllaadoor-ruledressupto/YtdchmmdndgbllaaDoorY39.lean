import Derived.BigQuiet
import Derived.Test.YtdchmmdndgbllaaDoorY36
import Derived.Test.YtdchmmdndgbllaaDoorY37
import Derived.Test.YtdchmmdndgbllaaDoorY38
import Derived.Test.YtdchmmdndgbllaaDoorY27
/- The law's own functions: same, wakes. -/
namespace Go.Proofs.YtdchmmdndgbllaaDoor
open Go.RowKit Go.Shelf

attribute [local go_sem] Oper.semAt_some

set_option maxRecDepth 100000 in
set_option maxHeartbeats 4000000 in
theorem usame_yes (w : World) (a b : Option Addr) (n c d : Nat) (l : List Ru) (h1 : Rus w a n l) (h2 : Rus w b n l) (hn : n ≤ 100000000000000000) :
    Calls Tryd.prog 16 #[.slice a n c, .slice b n d] w fun e w' => e = .returned (.bool true) ∧ Below w.heap.size w w' := by
  have hne := neR
  go_enter Tryd.func16, Tryd.ntmps16
  go_wp2
  go_loopw [13] (fun i wr => ∃ k : Nat, k ≤ n ∧ i = .int .i64 (k : Int) ∧ Hid (Below w.heap.size w wr)) (fun i _ => n - (intOf i).toNat)
  case atStart => exact ⟨0, Nat.zero_le _, rfl, Below.refl _ _⟩
  case round =>
    obtain ⟨k, hk, rfl, H⟩ := hrel
    by_cases hlt : k < n
    · obtain ⟨x, hx⟩ : ∃ x, l[k]? = some x := ⟨_, List.getElem?_eq_getElem (by rw [h1.1]; exact hlt)⟩
      obtain ⟨b1, o1, rfl, hc1⟩ := h1.2 (by omega)
      obtain ⟨b2, o2, rfl, hc2⟩ := h2.2 (by omega)
      obtain ⟨t1, t2, t3⟩ := hc1 k x hx
      obtain ⟨u1, u2, u3⟩ := hc2 k x hx
      have hB : ∀ q, Below w.heap.size w (wr.drewN q) := fun q => H.out.trans ⟨rfl, rfl, rfl, Nat.le_refl _, fun _ _ => rfl⟩
      have q1 := fun q => ((hB q).cell (p := ⟨b1, o1 + k * 3, none⟩) (World.block_lt_of_cell? w _ t1)).trans t1
      have q2 := fun q => ((hB q).cell (p := ⟨b1, o1 + k * 3 + 1, none⟩) (World.block_lt_of_cell? w _ t2)).trans t2
      have q3 := fun q => ((hB q).cell (p := ⟨b1, o1 + k * 3 + 2, none⟩) (World.block_lt_of_cell? w _ t3)).trans t3
      have p1 := fun q => ((hB q).cell (p := ⟨b2, o2 + k * 3, none⟩) (World.block_lt_of_cell? w _ u1)).trans u1
      have p2 := fun q => ((hB q).cell (p := ⟨b2, o2 + k * 3 + 1, none⟩) (World.block_lt_of_cell? w _ u2)).trans u2
      have p3 := fun q => ((hB q).cell (p := ⟨b2, o2 + k * 3 + 2, none⟩) (World.block_lt_of_cell? w _ u3)).trans u3
      obtain ⟨rk, rf, rt⟩ := x
      simp only at q1 q2 q3 p1 p2 p3
      generalize mk rf = sf at *
      generalize mk rt = st at *
      have i2 : (k : Int) < (n : Int) := by omega
      have i3 : ¬ n ≤ k := by omega
      have HBd : Hid (∀ q, Below w.heap.size w (wr.drewN q)) := hB
      clear hc1 hc2 hx t1 t2 t3 u1 u2 u3 h1 h2 hB
      go_wp2
      go_quiet (fail)
      go_wp2
      go_roundw
      case rel => exact ⟨k + 1, by omega, by go_num, HBd.out _⟩
      case measure => simp [intOf]; omega
    · obtain rfl : k = n := by omega
      have i2 : ¬ (k : Int) < (k : Int) := by omega
      go_wp2
      go_ret
      exact ⟨rfl, H.out⟩
/-- what Read answers where it is right -/
theorem read_ok {s : ByteArray} {w W : World} {e : Ending} {rs : List Ru} (hr : readT (bs s) = .ok rs) (h : RPost s w e W) : ∃ ad cp, e = .returned (.tuple #[.slice ad rs.length cp, .agg #[.int .i64 0, .int .i64 0]]) ∧ Rus W ad rs.length rs ∧ rs.length ≤ cp ∧ (ad = none → rs.length = 0 ∧ cp = 0) ∧ Below w.heap.size w W := by
  obtain ⟨h | h, hB⟩ := h
  · obtain ⟨rs', v, h1, h2, h3⟩ := h
    rw [hr] at h1
    cases h1
    obtain ⟨ad, cp, rfl, hc, hn⟩ := row_shapeR h3
    exact ⟨ad, cp, h2, own_rus h3 rfl, hc, hn, hB⟩
  · obtain ⟨er, p, h1, _⟩ := h
    rw [hr] at h1; cases h1
theorem read_bad {s : ByteArray} {w W : World} {e : Ending} {er p : Nat} (hr : readT (bs s) = .error (er, p)) (h : RPost s w e W) : e = .returned (.tuple #[.slice none 0 0, .agg #[.int .i64 (er : Int), .int .i64 (p : Int)]]) ∧ Below w.heap.size w W := by
  obtain ⟨h | h, hB⟩ := h
  · obtain ⟨rs', v, h1, _⟩ := h
    rw [hr] at h1; cases h1
  · obtain ⟨er', p', h1, h2⟩ := h
    rw [hr] at h1; cases h1
    exact ⟨h2, hB⟩

set_option maxRecDepth 100000 in
set_option maxHeartbeats 4000000 in
theorem uwakes_any (w : World) (hT : Tabs w) : Calls Tryd.prog 8 #[] w fun e w' => e = .returned (.bool true) ∧ Below w.heap.size w w' := by
  have hrd := uread_any ⟨#[107, 101, 101, 112, 32, 115, 114, 99, 10, 109, 111, 118, 101, 32, 34, 97, 32, 98, 34, 32, 47, 32, 35, 32, 110, 111, 10, 10, 100, 114, 111, 112, 32, 115, 114, 99, 47, 120, 10]⟩ w hT (by unfold maxLen; decide)
  have HR : Hid (∀ e W, RPost ⟨#[107, 101, 101, 112, 32, 115, 114, 99, 10, 109, 111, 118, 101, 32, 34, 97, 32, 98, 34, 32, 47, 32, 35, 32, 110, 111, 10, 10, 100, 114, 111, 112, 32, 115, 114, 99, 47, 120, 10]⟩ w e W → ∃ bl off cp, e = .returned (.tuple #[.slice (some ⟨bl, off, none⟩) 3 cp, .agg #[.int .i64 0, .int .i64 0]]) ∧ W.cell? ⟨bl, off + 3, none⟩ = some (.int .i64 3) ∧ W.cell? ⟨bl, off + 3 + 1, none⟩ = some (.string ⟨#[97, 32, 98]⟩) ∧ W.cell? ⟨bl, off + 3 + 2, none⟩ = some (.string ⟨#[]⟩) ∧ Below w.heap.size w W) := fun e W h => by
    have hu : readT (bs ⟨#[107, 101, 101, 112, 32, 115, 114, 99, 10, 109, 111, 118, 101, 32, 34, 97, 32, 98, 34, 32, 47, 32, 35, 32, 110, 111, 10, 10, 100, 114, 111, 112, 32, 115, 114, 99, 47, 120, 10]⟩) = .ok [(1, [115, 114, 99], []), (3, [97, 32, 98], []), (2, [115, 114, 99, 47, 120], [])] := u_wake
    obtain ⟨ad, cp, rfl, hR, _, _, hB⟩ := read_ok hu h
    obtain ⟨bl, off, rfl, hc⟩ := hR.2 (by decide)
    obtain ⟨t1, t2, t3⟩ := hc 1 _ rfl
    exact ⟨bl, off, cp, rfl, t1, t2, t3, hB⟩
  have heq := eqR
  have hes := eqS
  go_enter Tryd.func8, Tryd.ntmps8
  go_wp2_with (go_at_call 14; refine hrd.mono ?_; clear hrd; intro e w2 hp; obtain ⟨bl, off, cp, rfl, t1, t2, t3, hB2⟩ := HR.out _ _ hp; have hbl := World.block_lt_of_cell? w2 _ t1; have hB3 : Below w2.heap.size w2 (w2.alloc (.cells #[.int .i64 0, .int .i64 0] 35)) := (Below.refl _ _).alloc (Nat.le_refl _) _; have q1 := (hB3.cell (p := ⟨bl, off + 3, none⟩) hbl).trans t1; have q2 := (hB3.cell (p := ⟨bl, off + 3 + 1, none⟩) hbl).trans t2; have q3 := (hB3.cell (p := ⟨bl, off + 3 + 2, none⟩) hbl).trans t3; have HB : Hid (Below w.heap.size w (w2.alloc (.cells #[.int .i64 0, .int .i64 0] 35))) := hB2.alloc hB2.size _; clear hp hB2 hB3 t1 t2 t3)
  go_ret
  exact ⟨rfl, HB.out⟩
end Go.Proofs.YtdchmmdndgbllaaDoor

/- The walk of the law RuleBack. -/
namespace Go.Proofs.YtdchmmdndgbllaaDoor
open Go.RowKit Go.Shelf

attribute [local go_sem] Oper.semAt_some

theorem prE_cases (l : List Ru) : (∃ x, (x = 2 ∨ x = 3) ∧ prE l = x ∧ prT l = []) ∨ (prE l = 0 ∧ prT l = textR l ∧ (∀ r ∈ l, okR r = true) ∧ l.length ≤ 64) := by
  by_cases h : 64 < l.length
  · exact .inl ⟨3, .inr rfl, prE_long h⟩
  · by_cases ha : l.all okR = true
    · exact .inr ⟨(prE_ok h ha).1, (prE_ok h ha).2, fun r hr => List.all_eq_true.1 ha r hr, by omega⟩
    · exact .inl ⟨2, .inl rfl, prE_bad h ha⟩

set_option maxRecDepth 100000 in
set_option maxHeartbeats 4000000 in
theorem ruleBack_walk (a : Option Addr) (n c : Nat) (l : List Ru) (w : World) (h : Rus w a n l) (hs : ∀ x ∈ l, x.2.1.length ≤ maxLen ∧ x.2.2.length ≤ maxLen) (hroom : n * 40 ≤ 140737488351232) (hnil : a = none → n = 0 ∧ c = 0) (hT : Tabs w) :
    Calls Tryd.prog 5 #[.slice a n c] w fun e w' => e = .returned (.bool true) ∧ Below w.heap.size w w' := by
  have hwk := fun W (h : Below w.heap.size w W) => uwakes_any W (hT.below h)
  have HN : Hid ((a = none → n = 0 ∧ c = 0) ∧ (0 + n) * 40 ≤ 140737488355328 ∧ n ≤ 100000000000000000) := ⟨hnil, by omega, by omega⟩
  have H0 : Hid (Rus w a n l) := h
  have HP : Hid (∀ W ad cp, Below w.heap.size w W → Rus W ad n l → Calls Tryd.prog 13 #[.slice ad n cp] W fun e w' => e = .returned (.tuple #[.string (mk (prT l)), .int .i64 (prE l)]) ∧ Below W.heap.size W w') := fun W ad cp hB hR => uprint_any W ad n cp l hR (hT.below hB) HN.out.2.2 hs
  have hes := eqS
  rcases prE_cases l with ⟨x, hx, h1, h2⟩ | ⟨h1, h2, hok, h64⟩
  · rw [h1, h2, show mk [] = (⟨#[]⟩ : ByteArray) from rfl] at HP
    have HL : Hid (l.length = n) := h.1
    clear h1 h2 hs hnil hroom h hes
    rcases hx with rfl | rfl
    all_goals
      go_enter Tryd.func5, Tryd.ntmps5
      go_wp2_with fail
      refine (hwk _ (Below.refl _ _)).mono ?_
      rintro e w1 ⟨rfl, hB1⟩
      have H1 : Hid (Below w.heap.size w w1) := hB1
      clear hB1
      go_wp2_with (at_builtin; refine wpList_appR rfl _ _ rfl w1.heap.size 0 n c _ [] l _ rfl rfl (row_emptyR w1 _ (Nat.le_refl _)) ((H0.out.kept H1.out).kept ((Below.refl _ _).alloc (Nat.le_refl _) _)) HN.out.1 HN.out.2.1 (by simp) ?_; intro ad c' w2 hc' hown hB2; rw [Nat.zero_add] at hown; simp only [Nat.zero_add]; have H2 : Hid (Below w.heap.size w w2 ∧ Rus w2 ad n l) := ⟨(H1.out.alloc H1.out.size _).trans (hB2.mono H1.out.size), own_rus hown HL.out⟩; clear hown hB2 hc')
      refine (HP.out _ _ _ H2.out.1 H2.out.2).mono ?_
      rintro e w3 ⟨rfl, hB3⟩
      have H3 : Hid (Below w.heap.size w w3) := H2.out.1.trans (hB3.mono H2.out.1.size)
      clear hB3
      go_wp2_with (go_at_call 8; refine (hwk _ H3.out).mono ?_; rintro e w5 ⟨rfl, hB5⟩)
      go_ret
      exact ⟨rfl, H3.out.trans (hB5.mono H3.out.size)⟩
  · rw [h1, h2] at HP
    have HL : Hid (l.length = n) := h.1
    have hlen := textR_len l hok
    have htx : (textR l).length ≤ 104064 := by omega
    have hZs : (mk (textR l)).size = (textR l).length := by rw [← bs_len, bs_mk]
    have hrt : readT (bs (mk (textR l))) = .ok l := by rw [bs_mk]; exact readT_text l hok h64
    have HR : Hid (∀ W, Below w.heap.size w W → Calls Tryd.prog 14 #[.string (mk (textR l))] W fun e W' => ∃ ad cp, e = .returned (.tuple #[.slice ad n cp, .agg #[.int .i64 0, .int .i64 0]]) ∧ Rus W' ad n l ∧ Below W.heap.size W W') := fun W hW =>
      (uread_any (mk (textR l)) W (hT.below hW) (by rw [hZs]; unfold maxLen; omega)).mono fun e W' hp => by
        obtain ⟨ad, cp, h1, h2, _, _, h5⟩ := read_ok hrt hp
        rw [h.1] at h1 h2
        exact ⟨ad, cp, h1, h2, h5⟩
    have HS : Hid (∀ (W : World) (a b : Option Addr) (c d : Nat), Rus W a n l → Rus W b n l → Calls Tryd.prog 16 #[.slice a n c, .slice b n d] W fun e w' => e = .returned (.bool true) ∧ Below W.heap.size W w') := fun W a b c d h1 h2 => usame_yes W a b n c d l h1 h2 HN.out.2.2
    have hZ0 : ¬ (131072 : Int) < ((mk (textR l)).size : Int) := by rw [hZs]; omega
    generalize mk (textR l) = Z at *
    clear h1 h2 hs hnil hroom h hok h64 hlen htx hZs hrt
    go_enter Tryd.func5, Tryd.ntmps5
    go_wp2_with fail
    refine (hwk _ (Below.refl _ _)).mono ?_
    rintro e w1 ⟨rfl, hB1⟩
    have H1 : Hid (Below w.heap.size w w1) := hB1
    clear hB1
    go_wp2_with (at_builtin; refine wpList_appR rfl _ _ rfl w1.heap.size 0 n c _ [] l _ rfl rfl (row_emptyR w1 _ (Nat.le_refl _)) ((H0.out.kept H1.out).kept ((Below.refl _ _).alloc (Nat.le_refl _) _)) HN.out.1 HN.out.2.1 (by simp) ?_; intro ad c' w2 hc' hown hB2; rw [Nat.zero_add] at hown; simp only [Nat.zero_add]; have H2 : Hid (Below w.heap.size w w2 ∧ Rus w2 ad n l) := ⟨(H1.out.alloc H1.out.size _).trans (hB2.mono H1.out.size), own_rus hown HL.out⟩; clear hown hB2 hc')
    refine (HP.out _ _ _ H2.out.1 H2.out.2).mono ?_
    rintro e w3 ⟨rfl, hB3⟩
    have H3 : Hid (Below w.heap.size w w3) := H2.out.1.trans (hB3.mono H2.out.1.size)
    clear hB3
    go_wp2_with fail
    refine (HR.out _ H3.out).mono ?_
    rintro e w4 ⟨a4, c4, rfl, hR4, hB4⟩
    have H4 : Hid (Below w.heap.size w w4) := H3.out.trans (hB4.mono H3.out.size)
    have HR4 : Hid (Rus (w4.alloc (.cells #[.int .i64 0, .int .i64 0] 35)) a4 n l ∧ Rus (w4.alloc (.cells #[.int .i64 0, .int .i64 0] 35)) a n l ∧ Below w.heap.size w (w4.alloc (.cells #[.int .i64 0, .int .i64 0] 35))) := ⟨hR4.kept ((Below.refl _ _).alloc (Nat.le_refl _) _), H0.out.kept (H4.out.alloc H4.out.size _), H4.out.alloc H4.out.size _⟩
    clear hB4 hR4
    go_wp2_with first
      | (go_at_call 16; refine (HS.out _ _ _ _ _ HR4.out.1 HR4.out.2.1).mono ?_; rintro e w5 ⟨rfl, hB5⟩; have H5 : Hid (Below w.heap.size w w5) := HR4.out.2.2.trans (hB5.mono HR4.out.2.2.size); clear hB5)
      | (go_at_call 8; refine (hwk _ H5.out).mono ?_; rintro e w6 ⟨rfl, hB6⟩)
    go_ret
    exact ⟨rfl, H5.out.trans (hB6.mono H5.out.size)⟩
end Go.Proofs.YtdchmmdndgbllaaDoor
