import Derived.BigQuiet
import Derived.Test.YtdchmmdndgbllaaDoorY26
import Derived.Laws.AppendOwnNone
/- The walk of Print: the text of rules. -/
namespace Go.Proofs.YtdchmmdndgbllaaDoor
open Go.RowKit Go.Shelf

attribute [local go_sem] Oper.semAt_some

/-- what Print answers: what is wrong, and the text -/
def prE (l : List Ru) : Int := if 64 < l.length then 3 else if l.all okR = true then 0 else 2
def prT (l : List Ru) : List UInt8 := if 64 < l.length then [] else if l.all okR = true then textR l else []
theorem prE_long {l : List Ru} (h : 64 < l.length) : prE l = 3 ∧ prT l = [] := by unfold prE prT; rw [if_pos h, if_pos h]; exact ⟨rfl, rfl⟩
theorem prE_ok {l : List Ru} (h : ¬ 64 < l.length) (ha : l.all okR = true) : prE l = 0 ∧ prT l = textR l := by unfold prE prT; rw [if_neg h, if_neg h, if_pos ha, if_pos ha]; exact ⟨rfl, rfl⟩
theorem prE_bad {l : List Ru} (h : ¬ 64 < l.length) (ha : ¬ l.all okR = true) : prE l = 2 ∧ prT l = [] := by unfold prE prT; rw [if_neg h, if_neg h, if_neg ha, if_neg ha]; exact ⟨rfl, rfl⟩
theorem bad_of {l : List Ru} {k : Nat} {x : Ru} (hx : l[k]? = some x) (h : ¬ okR x = true) : ¬ l.all okR = true := fun ha => h (List.all_eq_true.1 ha x (List.mem_of_getElem? hx))
theorem take_ok {l : List Ru} {k : Nat} {x : Ru} (hx : l[k]? = some x) (h : ∀ y ∈ l.take k, okR y = true) (ho : okR x = true) : ∀ y ∈ l.take (k + 1), okR y = true := by
  obtain ⟨hk, rfl⟩ := List.getElem?_eq_some_iff.1 hx
  intro y hy
  rw [List.take_succ_eq_append_getElem hk] at hy
  rcases List.mem_append.1 hy with hy | hy
  · exact h y hy
  · rw [List.mem_singleton.1 hy]; exact ho
theorem take_text {l : List Ru} {k : Nat} {x : Ru} (hx : l[k]? = some x) : textR (l.take (k + 1)) = textR (l.take k) ++ lineR x ++ [10] := by
  obtain ⟨hk, rfl⟩ := List.getElem?_eq_some_iff.1 hx
  rw [List.take_succ_eq_append_getElem hk, textR_snoc, List.append_assoc]
theorem chkE_ok {r : Ru} (h : okR r = true) : chkE r = 0 := by unfold chkE; rw [if_pos h]
theorem chkE_no {r : Ru} (h : ¬ okR r = true) : chkE r = 2 := by unfold chkE; rw [if_neg h]

set_option maxRecDepth 100000 in
set_option maxHeartbeats 4000000 in
theorem uprint_any (w : World) (a : Option Addr) (n c : Nat) (l : List Ru) (h : Rus w a n l) (hT : Tabs w) (hn : n ≤ 100000000000000000) (hs : ∀ x ∈ l, x.2.1.length ≤ maxLen ∧ x.2.2.length ≤ maxLen) :
    Calls Tryd.prog 13 #[.slice a n c] w fun e w' => e = .returned (.tuple #[.string (mk (prT l)), .int .i64 (prE l)]) ∧ Below w.heap.size w w' := by
  by_cases h64 : 64 < n
  · have h' : 64 < l.length := by rw [h.1]; exact h64
    rw [(prE_long h').1, (prE_long h').2]
    have i1 : (64 : Int) < (n : Int) := by omega
    clear h h' hs
    go_enter Tryd.func13, Tryd.ntmps13
    go_wp2
    go_ret2
    exact ⟨rfl, Below.refl _ _⟩
  · have h' : ¬ 64 < l.length := by rw [h.1]; exact h64
    have i1 : ¬ (64 : Int) < (n : Int) := by omega
    go_enter Tryd.func13, Tryd.ntmps13
    go_wp2
    go_loopw [14] (fun i wr => ∃ k : Nat, k ≤ n ∧ i = .int .i64 k ∧ Hid ((∀ y ∈ l.take k, okR y = true) ∧ Bld w (textR (l.take k)) wr ∧ Below w.heap.size w wr)) (fun i _ => n - (intOf i).toNat)
    case atStart => exact ⟨0, Nat.zero_le _, rfl, by simp, by simpa [textR, backL] using bld_new w, (Below.refl _ w).alloc (Nat.le_refl _) _⟩
    case round =>
      obtain ⟨k, hk, rfl, H⟩ := hrel
      by_cases hlt : k < n
      · obtain ⟨x, hx⟩ : ∃ x, l[k]? = some x := ⟨_, List.getElem?_eq_getElem (by rw [h.1]; exact hlt)⟩
        obtain ⟨b1, o1, rfl, hc1⟩ := h.2 (by omega)
        obtain ⟨t1, t2, t3⟩ := hc1 k x hx
        have q1 := (H.out.2.2.cell (p := ⟨b1, o1 + k * 3, none⟩) (World.block_lt_of_cell? w _ t1)).trans t1
        have q2 := (H.out.2.2.cell (p := ⟨b1, o1 + k * 3 + 1, none⟩) (World.block_lt_of_cell? w _ t2)).trans t2
        have q3 := (H.out.2.2.cell (p := ⟨b1, o1 + k * 3 + 2, none⟩) (World.block_lt_of_cell? w _ t3)).trans t3
        have i2 : (k : Int) < (n : Int) := by omega
        have i3 : ¬ n ≤ k := by omega
        have hxs := hs x (List.mem_of_getElem? hx)
        have hH1 : Below w.heap.size w (wr.alloc (.cells #[.int .i64 x.1, .string (mk x.2.1), .string (mk x.2.2)] 26)) := H.out.2.2.alloc H.out.2.2.size _
        have cl : Hid (∀ W, Below w.heap.size w W → Calls Tryd.prog 9 #[rv x.1 (mk x.2.1) (mk x.2.2)] W fun e w' => e = .returned (.tuple #[.string (mk (if okR x = true then lineR x else [])), .int .i64 (chkE x)]) ∧ Below W.heap.size W w') := fun W hW => by
          have := uline_any x.1 (mk x.2.1) (mk x.2.2) W (hT.below hW) (by rw [← bs_len, bs_mk]; exact hxs.1) (by rw [← bs_len, bs_mk]; exact hxs.2)
          rw [bs_mk, bs_mk] at this
          exact this
        have HA : Hid (Bld w (textR (l.take k)) (wr.alloc (.cells #[.int .i64 x.1, .string (mk x.2.1), .string (mk x.2.2)] 26)) ∧ Below w.heap.size w (wr.alloc (.cells #[.int .i64 x.1, .string (mk x.2.1), .string (mk x.2.2)] 26))) := ⟨H.out.2.1.below ((Below.refl _ _).alloc (Nat.le_refl _) _), hH1⟩
        have HO : Hid (∀ y ∈ l.take k, okR y = true) := H.out.1
        clear hc1 t1 t2 t3 hH1 H
        by_cases ho : okR x = true
        · rw [if_pos ho, chkE_ok ho] at cl
          have HX : Hid ((∀ y ∈ l.take (k + 1), okR y = true) ∧ textR (l.take (k + 1)) = textR (l.take k) ++ lineR x ++ [10]) := ⟨take_ok hx HO.out ho, take_text hx⟩
          have hln := lineR_len ho
          have htl : (textR (l.take k)).length ≤ 104064 := by
            have h1 := textR_len (l.take k) HO.out
            have h2 : (l.take k).length ≤ 64 := by rw [List.length_take]; omega
            omega
          have hZs : (mk (lineR x)).size = (lineR x).length := by rw [← bs_len, bs_mk]
          have HZ : Hid (bs (mk (lineR x)) = lineR x) := bs_mk _
          generalize textR (l.take k) = L at *
          generalize lineR x = Y at *
          generalize hZ : mk Y = Z at *
          generalize mk x.2.1 = sf at *
          generalize mk x.2.2 = st at *
          generalize x.1 = xk at *
          clear hZ hx ho h h' hs HO
          go_wp2_with first
            | (go_at_call 9; refine (cl.out _ HA.out.2).mono ?_; clear cl; rintro e w1 ⟨rfl, hB1⟩; have H1 : Hid (Bld w L w1 ∧ Below w.heap.size w w1) := ⟨HA.out.1.below hB1, HA.out.2.trans (hB1.mono HA.out.2.size)⟩; clear hB1 HA)
            | (go_at_call 25; refine (writeString_any w.heap.size w.heap.size L _ _ H1.out.1 (by rw [hZs]; omega) H1.out.2.size).mono ?_; rintro e w2 ⟨rfl, hb2, hB2⟩; have H2 : Hid (Bld w (L ++ Y) w2 ∧ Below w.heap.size w w2) := ⟨by rw [HZ.out] at hb2; exact hb2, H1.out.2.trans hB2⟩; clear hb2 hB2)
            | (go_at_call 26; refine (writeByte_any w.heap.size w.heap.size (L ++ Y) 10 _ H2.out.1 (by rw [List.length_append]; omega) H2.out.2.size).mono ?_; rintro e w3 ⟨rfl, hb3, hB3⟩; have H3 : Hid (Bld w (L ++ Y ++ [10]) w3 ∧ Below w.heap.size w w3) := ⟨hb3, H2.out.2.trans hB3⟩; clear hb3 hB3)
          go_roundw
          case rel => exact ⟨k + 1, by omega, by go_num, HX.out.1, by rw [HX.out.2]; exact H3.out.1, H3.out.2⟩
          case measure => simp [intOf]; omega
        · have hbad := bad_of hx ho
          rw [if_neg ho, chkE_no ho] at cl
          have HP : Hid (prE l = 2 ∧ prT l = []) := prE_bad h' hbad
          generalize mk x.2.1 = sf at *
          generalize mk x.2.2 = st at *
          generalize x.1 = xk at *
          clear hx ho h h' hs HO hbad
          go_wp2_with (go_at_call 9; refine (cl.out _ HA.out.2).mono ?_; clear cl; rintro e w1 ⟨rfl, hB1⟩; have H1 : Hid (Below w.heap.size w w1) := HA.out.2.trans (hB1.mono HA.out.2.size); clear hB1 HA)
          go_ret2
          exact ⟨by rw [HP.out.1, HP.out.2]; rfl, H1.out⟩
      · obtain rfl : k = n := by omega
        have ilt : ¬ (k : Int) < (k : Int) := by omega
        have hf : l.take k = l := List.take_of_length_le (by rw [h.1]; exact Nat.le_refl _)
        rw [hf] at H
        clear hf
        have hall : l.all okR = true := List.all_eq_true.2 H.out.1
        have HP : Hid (prE l = 0 ∧ prT l = textR l) := prE_ok h' hall
        have cs := Tryd.Builder_String_any w.heap.size w.heap.size (textR l) wr H.out.2.1 H.out.2.2.size
        have HB := H.out.2.2
        rw [show (⟨(textR l).toArray⟩ : ByteArray) = mk (textR l) from rfl] at cs
        obtain ⟨Z, hZ⟩ : ∃ Z, Z = mk (textR l) := ⟨_, rfl⟩
        have HZ : Hid (Z = mk (textR l)) := hZ
        rw [← hZ] at cs
        clear H hZ h hs
        go_wp2_with (go_at_call 27; refine cs.mono ?_; rintro e w2 ⟨rfl, hB2⟩)
        go_ret2
        exact ⟨by rw [HP.out.1, HP.out.2, ← HZ.out]; rfl, HB.trans hB2⟩
end Go.Proofs.YtdchmmdndgbllaaDoor

/- Rules appended to a row of one's own. -/
namespace Go.Proofs.YtdchmmdndgbllaaDoor
open Go.RowKit Go.Shelf Go.Maps

theorem rus_news {w : World} {b : Nat} : ∀ (l : List Ru) (off : Nat), (∀ (j : Nat) x, l[j]? = some x → w.cell? ⟨b, off + j * 3, none⟩ = some (.int .i64 x.1) ∧ w.cell? ⟨b, off + j * 3 + 1, none⟩ = some (.string (mk x.2.1)) ∧ w.cell? ⟨b, off + j * 3 + 2, none⟩ = some (.string (mk x.2.2))) →
    ∀ (j : Nat) u, (ruCells l)[j]? = some u → w.cell? ⟨b, off + j, none⟩ = some u
  | [], _, _, j, u, h => by simp [ruCells] at h
  | x :: r, off, hc, 0, u, h => by
    simp [ruCells] at h; subst h
    have := (hc 0 x rfl).1
    simpa using this
  | x :: r, off, hc, 1, u, h => by
    simp [ruCells] at h; subst h
    have := (hc 0 x rfl).2.1
    simpa using this
  | x :: r, off, hc, 2, u, h => by
    simp [ruCells] at h; subst h
    have := (hc 0 x rfl).2.2
    simpa using this
  | x :: r, off, hc, j + 3, u, h => by
    have ih := rus_news r (off + 3) (fun i y hy => by
      have := hc (i + 1) y (by simpa using hy)
      rw [show off + (i + 1) * 3 = off + 3 + i * 3 by omega] at this
      exact this) j u (by simpa [ruCells] using h)
    rw [show off + (j + 3) = off + 3 + j by omega]
    exact ih
theorem row_emptyR (w : World) (base : Nat) (hb : base ≤ w.heap.size) : (w.alloc (.cells #[] 26)).ownsRow base 26 3 (.slice (some ⟨w.heap.size, 0, none⟩) 0 0) 0 (ruCells []) :=
  World.ownsRow_made w #[] 0 hb (by unfold maxLen; omega) rfl
theorem wpList_appR {wr : World} {ops : Array Oper} {rest : List Oper} {o : Oper} {a : Act} {Q : Exit → Act → World → Prop}
    (hgd : o.guard = none) (s x : Operand) (hop : o.op = Op.call { callee := Callee.builtin Builtin.append, args := #[s, x], argTypes := #[22, 22] })
    (base n m c : Nat) (v : Value) (k l : List Ru) (ad : Option Addr) (hs : a.eval s = v) (hx : a.eval x = .slice ad m c)
    (hown : wr.ownsRow base 26 3 v n (ruCells k)) (hb : Rus wr ad m l) (hnil : ad = none → m = 0 ∧ c = 0) (hm : (n + m) * 40 ≤ 140737488355328) (hbase : base ≤ wr.heap.size)
    (hK : ∀ ad' c' w', n + m ≤ c' → w'.ownsRow base 26 3 (.slice ad' (n + m) c') (n + m) (ruCells (k ++ l)) → Below base wr w' → wpList Tryd.prog ops Q rest (a.put o.dst (.slice ad' (n + m) c')) w') :
    wpList Tryd.prog ops Q (o :: rest) a wr := by
  obtain ⟨i0, hi, hz0, hz1, hz2⟩ := info_parts infoRule
  cases ad with
  | none =>
    obtain ⟨rfl, rfl⟩ := hnil rfl
    have hl : l = [] := List.eq_nil_of_length_eq_zero hb.1
    subst hl
    obtain ⟨ad', c', rfl, hc', _⟩ := row_shapeR hown
    refine wpList_append_own_none hgd s x 22 hop base 26 i0 3 Tryd.underlying22 hi _ n _ hs hown hx ?_
    have := hK ad' c' wr (by omega) (by simpa using hown) (Below.refl _ _)
    simpa using this
  | some ad =>
    refine wpList_append_own_at _ hgd s x 22 hop base 26 i0 _ 3 40 Tryd.underlying22 hi hz0 hz1 hz2 rfl (by omega) v n _ hs hown ad m c (ruCells l) hx (by rw [ruCells_len, hb.1]) ?_ (ruCells_one l) (by unfold maxLen; omega) hm hbase ?_
    · intro j u hj
      have hl := hb.1
      by_cases hm0 : 0 < m
      · obtain ⟨b, off, e, hc⟩ := hb.2 hm0
        cases e
        rw [Addr.add_lit]
        exact rus_news l off hc j u hj
      · have : l = [] := List.eq_nil_of_length_eq_zero (by omega)
        subst this
        simp [ruCells] at hj
    · intro v' w' h1 h2 _ _
      obtain ⟨ad', c', rfl, hc', _⟩ := row_shapeR h1
      exact hK ad' c' w' hc' (by rw [ruCells_append]; exact h1) ((Below.refl base wr).grown h2 hbase (fun k hk => (hown.lt k hk).1))
end Go.Proofs.YtdchmmdndgbllaaDoor
