import Derived.Test.YtdchmmdndgbllaaDoorX35
import Derived.Test.YtdchmmdndgbllaaDoorX44
/- The walk of the law RuleLines. -/
namespace Go.Proofs.YtdchmmdndgbllaaDoor
open Go.RowKit Go.Shelf

attribute [local go_sem] Oper.semAt_some

/-- what the law has put together behind k rules -/
def okT (l : List Ru) : List UInt8 := textR (l.filter okR)
def okE (l : List Ru) : Int := if l.all okR = true then 0 else 2
theorem okT_yes {l : List Ru} {k : Nat} {x : Ru} (hx : l[k]? = some x) (h : okR x = true) : okT (l.take (k + 1)) = okT (l.take k) ++ (lineR x ++ [10]) := by
  obtain ⟨hk, rfl⟩ := List.getElem?_eq_some_iff.1 hx
  unfold okT
  rw [List.take_succ_eq_append_getElem hk, List.filter_append, List.filter_cons_of_pos h, List.filter_nil, textR_snoc]
theorem okT_no {l : List Ru} {k : Nat} {x : Ru} (hx : l[k]? = some x) (h : ¬ okR x = true) : okT (l.take (k + 1)) = okT (l.take k) := by
  obtain ⟨hk, rfl⟩ := List.getElem?_eq_some_iff.1 hx
  unfold okT
  rw [List.take_succ_eq_append_getElem hk, List.filter_append, List.filter_cons_of_neg h, List.filter_nil, List.append_nil]
theorem okE_yes {l : List Ru} {k : Nat} {x : Ru} (hx : l[k]? = some x) (h : okR x = true) : okE (l.take (k + 1)) = okE (l.take k) := by
  obtain ⟨hk, rfl⟩ := List.getElem?_eq_some_iff.1 hx
  unfold okE
  have h1 : [l[k]].all okR = true := by rw [List.all_cons, h]; rfl
  rw [List.take_succ_eq_append_getElem hk, List.all_append, h1, Bool.and_true]
theorem okE_no {l : List Ru} {k : Nat} {x : Ru} (hx : l[k]? = some x) (h : ¬ okR x = true) : okE (l.take (k + 1)) = 2 := by
  obtain ⟨hk, rfl⟩ := List.getElem?_eq_some_iff.1 hx
  unfold okE
  rw [List.take_succ_eq_append_getElem hk, List.all_append]
  simp [h]
theorem okT_len (l : List Ru) (k : Nat) (hk : k ≤ 1048576) : (okT (l.take k)).length ≤ 2000000000 := by
  unfold okT
  have h1 := textR_len ((l.take k).filter okR) (fun r hr => (List.mem_filter.1 hr).2)
  have h2 : ((l.take k).filter okR).length ≤ k := Nat.le_trans (List.length_filter_le _ _) (by rw [List.length_take]; omega)
  omega
theorem okT_all {l : List Ru} (h : l.all okR = true) : okT l = textR l := by
  unfold okT
  rw [List.filter_eq_self.2 (fun x hx => List.all_eq_true.1 h x hx)]

set_option maxRecDepth 100000 in
set_option maxHeartbeats 8000000 in
theorem ruleLines_walk (a : Option Addr) (n c : Nat) (l : List Ru) (w : World) (h : Rus w a n l) (hs : ∀ x ∈ l, x.2.1.length ≤ maxLen ∧ x.2.2.length ≤ maxLen) (hroom : n * 40 ≤ 140737488351232) (hnil : a = none → n = 0 ∧ c = 0) (hup : n ≤ 1048576 ∧ ∀ x ∈ l, x.2.1.length ≤ 1048576 ∧ x.2.2.length ≤ 1048576) (hT : Tabs w) :
    Calls Tryd.prog 3 #[.slice a n c] w fun e w' => e = .returned (.bool true) ∧ Below w.heap.size w w' := by
  have hwk := fun W (h : Below w.heap.size w W) => uwakes_any W (hT.below h)
  have HN : Hid ((a = none → n = 0 ∧ c = 0) ∧ (0 + n) * 40 ≤ 140737488355328 ∧ n ≤ 100000000000000000 ∧ n ≤ 1048576) := ⟨hnil, by omega, by omega, hup.1⟩
  have H0 : Hid (Rus w a n l) := h
  have HP : Hid (∀ W ad cp, Below w.heap.size w W → Rus W ad n l → Calls Tryd.prog 13 #[.slice ad n cp] W fun e w' => e = .returned (.tuple #[.string (mk (prT l)), .int .i64 (prE l)]) ∧ Below W.heap.size W w') := fun W ad cp hB hR => uprint_any W ad n cp l hR (hT.below hB) HN.out.2.2.1 hs
  have HL : Hid (l.length = n) := h.1
  have HS : Hid ((∀ x ∈ l, x.2.1.length ≤ maxLen ∧ x.2.2.length ≤ maxLen) ∧ ∀ x ∈ l, x.2.1.length ≤ 1048576 ∧ x.2.2.length ≤ 1048576) := ⟨hs, hup.2⟩
  have hn : n ≤ 1048576 := hup.1
  clear h hs hroom hnil hup
  go_enter Tryd.func3, Tryd.ntmps3
  go_wp2_with fail
  refine (hwk _ (Below.refl _ _)).mono ?_
  rintro e w1 ⟨rfl, hB1⟩
  have H1 : Hid (Below w.heap.size w w1) := hB1
  clear hB1
  go_wp2_with fail
  go_loopw [3, 4, 15] (fun v e i wr => ∃ (k : Nat) (tb : ByteArray), k ≤ n ∧ i = .int .i64 k ∧ v = .string tb ∧ e = .int .i64 (okE (l.take k)) ∧ Hid (bs tb = okT (l.take k)) ∧ Hid (Below w.heap.size w wr)) (fun _ _ i _ => n - (intOf i).toNat)
  case atStart => exact ⟨0, ⟨#[]⟩, Nat.zero_le _, rfl, rfl, rfl, rfl, H1⟩
  case round =>
    obtain ⟨k, tb, hk, rfl, rfl, rfl, HT0, HBr⟩ := hrel
    by_cases hlt : k < n
    · obtain ⟨x, hx⟩ : ∃ x, l[k]? = some x := ⟨_, List.getElem?_eq_getElem (by rw [HL.out]; exact hlt)⟩
      obtain ⟨b1, o1, hae, hc1⟩ := H0.out.2 (by omega)
      subst hae
      obtain ⟨t1, t2, t3⟩ := hc1 k x hx
      have q1 := (HBr.out.cell (p := ⟨b1, o1 + k * 3, none⟩) (World.block_lt_of_cell? w _ t1)).trans t1
      have q2 := (HBr.out.cell (p := ⟨b1, o1 + k * 3 + 1, none⟩) (World.block_lt_of_cell? w _ t2)).trans t2
      have q3 := (HBr.out.cell (p := ⟨b1, o1 + k * 3 + 2, none⟩) (World.block_lt_of_cell? w _ t3)).trans t3
      have i2 : (k : Int) < (n : Int) := by omega
      have i3 : ¬ n ≤ k := by omega
      have hxs := HS.out.1 x (List.mem_of_getElem? hx)
      have hxu := HS.out.2 x (List.mem_of_getElem? hx)
      have cl : Hid (∀ W, Below w.heap.size w W → Calls Tryd.prog 9 #[rv x.1 (mk x.2.1) (mk x.2.2)] W fun e w' => e = .returned (.tuple #[.string (mk (if okR x = true then lineR x else [])), .int .i64 (chkE x)]) ∧ Below W.heap.size W w') := fun W hW => by
        have := uline_any x.1 (mk x.2.1) (mk x.2.2) W (hT.below hW) (by rw [← bs_len, bs_mk]; exact hxs.1) (by rw [← bs_len, bs_mk]; exact hxs.2)
        rw [bs_mk, bs_mk] at this
        exact this
      have cr : Hid (∀ W, Calls Tryd.prog 10 #[rv x.1 (mk x.2.1) (mk x.2.2)] W fun e w' => e = .returned (.bool (okR x)) ∧ Below W.heap.size W w') := fun W => by
        have := rright13_any x.1 (mk x.2.1) (mk x.2.2) W (by rw [← bs_len, bs_mk]; omega) (by rw [← bs_len, bs_mk]; omega)
        rw [bs_mk, bs_mk] at this
        exact this
      have cc : Hid (∀ W, Calls Tryd.prog 11 #[rv x.1 (mk x.2.1) (mk x.2.2)] W fun e w' => e = .returned (.int .i64 (chkE x)) ∧ Below W.heap.size W w') := fun W => by
        have := ucheck_any x.1 (mk x.2.1) (mk x.2.2) W (by rw [← bs_len, bs_mk]; exact hxs.1) (by rw [← bs_len, bs_mk]; exact hxs.2)
        rw [bs_mk, bs_mk] at this
        exact this
      have HA : Hid (BoxR (wr.alloc (.cells #[.int .i64 x.1, .string (mk x.2.1), .string (mk x.2.2)] 26)) wr.heap.size x.1 (mk x.2.1) (mk x.2.2) ∧ Below w.heap.size w (wr.alloc (.cells #[.int .i64 x.1, .string (mk x.2.1), .string (mk x.2.2)] 26))) := ⟨BoxR.new _ _ _ _, HBr.out.alloc HBr.out.size _⟩
      have htl : tb.size ≤ 2000000000 := by rw [← bs_len, HT0.out]; exact okT_len l k (by have := HN.out.2.2.2; omega)
      clear hc1 t1 t2 t3 hxs hxu
      by_cases ho : okR x = true
      · rw [if_pos ho, chkE_ok ho] at cl
        rw [ho] at cr
        rw [chkE_ok ho] at cc
        have hln := lineR_len ho
        have hZs : (mk (lineR x)).size = (lineR x).length := by rw [← bs_len, bs_mk]
        have hZl : (mk (lineR x)).size ≤ 1625 := by omega
        have cd : Hid (∀ W, Calls Tryd.prog 12 #[rv x.1 (mk x.2.1) (mk x.2.2)] W fun e w' => e = .returned (.string (mk (lineR x))) ∧ Below W.heap.size W w') := fun W => by
          have := rline13_any x.1 (mk x.2.1) (mk x.2.2) W (by rw [bs_mk, bs_mk]; exact ho)
          rw [bs_mk, bs_mk] at this
          exact this
        have HX : Hid (bs (tb ++ (mk (lineR x) ++ ⟨#[10]⟩)) = okT (l.take (k + 1)) ∧ okE (l.take k) = okE (l.take (k + 1))) := ⟨by rw [bs_append, bs_append, bs_mk, HT0.out, okT_yes hx ho]; rfl, (okE_yes hx ho).symm⟩
        generalize okE (l.take k) = E0 at *
        generalize mk (lineR x) = Z at *
        generalize mk x.2.1 = sf at *
        generalize mk x.2.2 = st at *
        generalize x.1 = xk at *
        clear hx ho hln hZs
        go_wp2_with fail
        refine (cl.out _ HA.out.2).mono ?_
        rintro e w2 ⟨rfl, hB2⟩
        have H2 : Hid (BoxR w2 wr.heap.size xk sf st ∧ Below w.heap.size w w2) := ⟨HA.out.1.below hB2 HA.out.1.lt, HA.out.2.trans (hB2.mono HA.out.2.size)⟩
        obtain ⟨y0, y1, y2⟩ := H2.out.1.cell
        clear hB2 q1 q2 q3
        go_wp2_with fail
        refine (cr.out _).mono ?_
        rintro e w3 ⟨rfl, hB3⟩
        have H3 : Hid (BoxR w3 wr.heap.size xk sf st ∧ Below w.heap.size w w3) := ⟨H2.out.1.below hB3 H2.out.1.lt, H2.out.2.trans (hB3.mono H2.out.2.size)⟩
        clear hB3 y0 y1 y2
        obtain ⟨y0, y1, y2⟩ := H3.out.1.cell
        go_wp2_with fail
        refine (cc.out _).mono ?_
        rintro e w4 ⟨rfl, hB4⟩
        have H4 : Hid (BoxR w4 wr.heap.size xk sf st ∧ Below w.heap.size w w4) := ⟨H3.out.1.below hB4 H3.out.1.lt, H3.out.2.trans (hB4.mono H3.out.2.size)⟩
        clear hB4 y0 y1 y2
        obtain ⟨y0, y1, y2⟩ := H4.out.1.cell
        go_wp2_with fail
        refine (cd.out _).mono ?_
        rintro e w5 ⟨rfl, hB5⟩
        have H5 : Hid (Below w.heap.size w w5) := H4.out.2.trans (hB5.mono H4.out.2.size)
        clear hB5 y0 y1 y2
        go_wp2_with fail
        go_roundw
        case rel => exact ⟨k + 1, _, by omega, by go_num, rfl, by rw [HX.out.2], HX.out.1, H5⟩
        case measure => simp [intOf]; omega
      · rw [if_neg ho, chkE_no ho, show mk [] = (⟨#[]⟩ : ByteArray) from rfl] at cl
        rw [Bool.eq_false_iff.2 ho] at cr
        rw [chkE_no ho] at cc
        have HX : Hid (bs tb = okT (l.take (k + 1)) ∧ okE (l.take (k + 1)) = 2) := ⟨by rw [HT0.out, okT_no hx ho], okE_no hx ho⟩
        generalize okE (l.take k) = E0 at *
        generalize mk x.2.1 = sf at *
        generalize mk x.2.2 = st at *
        generalize x.1 = xk at *
        clear hx ho
        go_wp2_with fail
        refine (cl.out _ HA.out.2).mono ?_
        rintro e w2 ⟨rfl, hB2⟩
        have H2 : Hid (BoxR w2 wr.heap.size xk sf st ∧ Below w.heap.size w w2) := ⟨HA.out.1.below hB2 HA.out.1.lt, HA.out.2.trans (hB2.mono HA.out.2.size)⟩
        obtain ⟨y0, y1, y2⟩ := H2.out.1.cell
        clear hB2 q1 q2 q3
        go_wp2_with fail
        refine (cr.out _).mono ?_
        rintro e w3 ⟨rfl, hB3⟩
        have H3 : Hid (BoxR w3 wr.heap.size xk sf st ∧ Below w.heap.size w w3) := ⟨H2.out.1.below hB3 H2.out.1.lt, H2.out.2.trans (hB3.mono H2.out.2.size)⟩
        clear hB3 y0 y1 y2
        obtain ⟨y0, y1, y2⟩ := H3.out.1.cell
        go_wp2_with fail
        refine (cc.out _).mono ?_
        rintro e w4 ⟨rfl, hB4⟩
        have H4 : Hid (Below w.heap.size w w4) := H3.out.2.trans (hB4.mono H3.out.2.size)
        clear hB4 y0 y1 y2
        go_wp2_with fail
        go_roundw
        case rel => exact ⟨k + 1, _, by omega, by go_num, rfl, by rw [HX.out.2], HX.out.1, H4⟩
        case measure => simp [intOf]; omega
    · obtain rfl : k = n := by omega
      have ilt : ¬ (k : Int) < (k : Int) := by omega
      have hf : l.take k = l := List.take_of_length_le (by rw [HL.out]; exact Nat.le_refl _)
      rw [hf] at HT0
      rw [hf]
      clear hf hk hlt
      by_cases h64 : 64 < k
      · have h64' : 64 < l.length := by rw [HL.out]; exact h64
        rw [(prE_long h64').1, (prE_long h64').2, show mk [] = (⟨#[]⟩ : ByteArray) from rfl] at HP
        have j1 : (64 : Int) < (k : Int) := by omega
        generalize okE l = E0 at *
        clear h64' h64
        go_wp2_with (at_builtin; refine wpList_appR rfl _ _ rfl wr.heap.size 0 k c _ [] l _ rfl rfl (row_emptyR wr _ (Nat.le_refl _)) ((H0.out.kept HBr.out).kept ((Below.refl _ _).alloc (Nat.le_refl _) _)) HN.out.1 HN.out.2.1 (by simp) ?_; intro ad c' w2 hc' hown hB2; rw [Nat.zero_add] at hown; simp only [Nat.zero_add]; have H2 : Hid (Below w.heap.size w w2 ∧ Rus w2 ad k l) := ⟨(HBr.out.alloc HBr.out.size _).trans (hB2.mono HBr.out.size), own_rus hown HL.out⟩; clear hown hB2 hc')
        refine (HP.out _ _ _ H2.out.1 H2.out.2).mono ?_
        rintro e w3 ⟨rfl, hB3⟩
        have H3 : Hid (Below w.heap.size w w3) := H2.out.1.trans (hB3.mono H2.out.1.size)
        clear hB3
        go_wp2_with (go_at_call 8; refine (hwk _ H3.out).mono ?_; rintro e w5 ⟨rfl, hB5⟩)
        go_ret
        exact ⟨rfl, H3.out.trans (hB5.mono H3.out.size)⟩
      · have h64' : ¬ 64 < l.length := by rw [HL.out]; exact h64
        have j1 : ¬ (64 : Int) < (k : Int) := by omega
        by_cases hall : l.all okR = true
        · have he : okE l = 0 := by unfold okE; rw [if_pos hall]
          obtain rfl : tb = mk (textR l) := bs_inj (by rw [HT0.out, bs_mk, okT_all hall])
          rw [(prE_ok h64' hall).1, (prE_ok h64' hall).2] at HP
          rw [he]
          generalize mk (textR l) = Z at *
          clear h64' h64 he hall HT0
          go_wp2_with (at_builtin; refine wpList_appR rfl _ _ rfl wr.heap.size 0 k c _ [] l _ rfl rfl (row_emptyR wr _ (Nat.le_refl _)) ((H0.out.kept HBr.out).kept ((Below.refl _ _).alloc (Nat.le_refl _) _)) HN.out.1 HN.out.2.1 (by simp) ?_; intro ad c' w2 hc' hown hB2; rw [Nat.zero_add] at hown; simp only [Nat.zero_add]; have H2 : Hid (Below w.heap.size w w2 ∧ Rus w2 ad k l) := ⟨(HBr.out.alloc HBr.out.size _).trans (hB2.mono HBr.out.size), own_rus hown HL.out⟩; clear hown hB2 hc')
          refine (HP.out _ _ _ H2.out.1 H2.out.2).mono ?_
          rintro e w3 ⟨rfl, hB3⟩
          have H3 : Hid (Below w.heap.size w w3) := H2.out.1.trans (hB3.mono H2.out.1.size)
          clear hB3
          go_wp2_with (go_at_call 8; refine (hwk _ H3.out).mono ?_; rintro e w5 ⟨rfl, hB5⟩)
          go_ret
          exact ⟨rfl, H3.out.trans (hB5.mono H3.out.size)⟩
        · have he : okE l = 2 := by unfold okE; rw [if_neg hall]
          rw [(prE_bad h64' hall).1, (prE_bad h64' hall).2, show mk [] = (⟨#[]⟩ : ByteArray) from rfl] at HP
          rw [he]
          clear h64' h64 he hall HT0
          go_wp2_with (at_builtin; refine wpList_appR rfl _ _ rfl wr.heap.size 0 k c _ [] l _ rfl rfl (row_emptyR wr _ (Nat.le_refl _)) ((H0.out.kept HBr.out).kept ((Below.refl _ _).alloc (Nat.le_refl _) _)) HN.out.1 HN.out.2.1 (by simp) ?_; intro ad c' w2 hc' hown hB2; rw [Nat.zero_add] at hown; simp only [Nat.zero_add]; have H2 : Hid (Below w.heap.size w w2 ∧ Rus w2 ad k l) := ⟨(HBr.out.alloc HBr.out.size _).trans (hB2.mono HBr.out.size), own_rus hown HL.out⟩; clear hown hB2 hc')
          refine (HP.out _ _ _ H2.out.1 H2.out.2).mono ?_
          rintro e w3 ⟨rfl, hB3⟩
          have H3 : Hid (Below w.heap.size w w3) := H2.out.1.trans (hB3.mono H2.out.1.size)
          clear hB3
          go_wp2_with (go_at_call 8; refine (hwk _ H3.out).mono ?_; rintro e w5 ⟨rfl, hB5⟩)
          go_ret
          exact ⟨rfl, H3.out.trans (hB5.mono H3.out.size)⟩
end Go.Proofs.YtdchmmdndgbllaaDoor
