import Derived.BigQuiet
import Derived.Test.YtggnglgehobglaaGreatDoorP40
import Derived.Test.YtggnglgehobglaaGreatDoorP10
import Derived.Test.YtggnglgehobglaaGreatDoorP39
import Derived.Test.YtggnglgehobglaaGreatDoorProg
import Derived.Test.YtggnglgehobglaaGreatDoorP01
import Derived.Outline
import Derived.Test.YtggnglgehobglaaGreatDoorP29
import Derived.Lib.ConvBytes
import Derived.WalkMore
/- The walks of wordsOf, Line. -/
namespace Go.Proofs.YtggnglgehobglaaGreatDoor
open Go.RowKit Go.Shelf

attribute [local go_sem] Oper.semAt_some

theorem wsR_one (k : Int) (f t : List UInt8) (h : k = 1) : wsR (k, f, t) = [[107, 101, 101, 112], wdP f] := by unfold wsR; rw [if_pos h]
theorem wsR_two (k : Int) (f t : List UInt8) (h1 : ¬ k = 1) (h : k = 2) : wsR (k, f, t) = [[100, 114, 111, 112], wdP f] := by unfold wsR; rw [if_neg h1, if_pos h]
theorem wsR_three (k : Int) (f t : List UInt8) (h1 : ¬ k = 1) (h2 : ¬ k = 2) : wsR (k, f, t) = [[109, 111, 118, 101], wdP f, wdP t] := by unfold wsR; rw [if_neg h1, if_neg h2]

set_option maxRecDepth 100000 in
set_option maxHeartbeats 4000000 in
theorem wordsOf_any (k : Int) (f t : ByteArray) (w : World) :
    Calls Tryz.prog 81 #[rv k f t] w fun e w' => ∃ a c, e = .returned (.slice a (wsR (k, bs f, bs t)).length c) ∧ Strs w' a (wsR (k, bs f, bs t)).length ((wsR (k, bs f, bs t)).map mk) ∧ Below w.heap.size w w' := by
  have hw := wordOf_any
  have hB0 : ∀ n, Below w.heap.size w ((w.alloc (.cells #[.int .i64 k, .string f, .string t] 31)).drewN n) := fun n => ((Below.refl _ w).alloc (Nat.le_refl _) _).trans ⟨rfl, rfl, rfl, Nat.le_refl _, fun _ _ => rfl⟩
  by_cases h1 : k = 1
  · rw [wsR_one k _ _ h1]
    subst h1
    go_enter Tryz.func81, Tryz.ntmps81
    go_wp2
    go_quiet ((go_at_call 105; exact Calls.quiet_of_same (hw _ _)))
    go_wp2
    go_ret
    have hz : ((w.alloc (.cells #[.int .i64 1, .string f, .string t] 31)).drewN nq).heap.size = w.heap.size + 1 := by simp
    have hs := strs_new ((w.alloc (.cells #[.int .i64 1, .string f, .string t] 31)).drewN nq) [mk [107, 101, 101, 112], mk (wdP (bs f))] 9 2 rfl
    rw [hz] at hs
    exact ⟨_, _, rfl, hs, (hB0 nq).alloc (by rw [hz]; omega) _⟩
  by_cases h2 : k = 2
  · rw [wsR_two k _ _ h1 h2]
    subst h2
    clear h1
    go_enter Tryz.func81, Tryz.ntmps81
    go_wp2
    go_quiet ((go_at_call 105; exact Calls.quiet_of_same (hw _ _)))
    go_wp2
    go_ret
    have hz : ((w.alloc (.cells #[.int .i64 2, .string f, .string t] 31)).drewN nq).heap.size = w.heap.size + 1 := by simp
    have hs := strs_new ((w.alloc (.cells #[.int .i64 2, .string f, .string t] 31)).drewN nq) [mk [100, 114, 111, 112], mk (wdP (bs f))] 9 2 rfl
    rw [hz] at hs
    exact ⟨_, _, rfl, hs, (hB0 nq).alloc (by rw [hz]; omega) _⟩
  · rw [wsR_three k _ _ h1 h2]
    go_enter Tryz.func81, Tryz.ntmps81
    go_wp2
    go_quiet ((go_at_call 105; exact Calls.quiet_of_same (hw _ _)))
    go_wp2
    go_ret
    have hz : ((w.alloc (.cells #[.int .i64 k, .string f, .string t] 31)).drewN nq).heap.size = w.heap.size + 1 := by simp
    have hs := strs_new ((w.alloc (.cells #[.int .i64 k, .string f, .string t] 31)).drewN nq) [mk [109, 111, 118, 101], mk (wdP (bs f)), mk (wdP (bs t))] 9 3 rfl
    rw [hz] at hs
    exact ⟨_, _, rfl, hs, (hB0 nq).alloc (by rw [hz]; omega) _⟩

theorem map_mk_bs : ∀ l : List (List UInt8), (l.map mk).map bs = l
  | [] => rfl
  | x :: r => by rw [List.map_cons, List.map_cons, bs_mk, map_mk_bs r]
theorem lineL_take_len (ws : List (List UInt8)) (k : Nat) : (lineL (ws.take k)).length ≤ 4 * (ws.map List.length).sum + 3 * ws.length := by
  have h1 := lineL_len (ws.take k)
  have h2 : ((ws.take k).map List.length).sum ≤ (ws.map List.length).sum := by
    conv => rhs; rw [← List.take_append_drop k ws, List.map_append, List.sum_append]
    omega
  have h3 : (ws.take k).length ≤ ws.length := by rw [List.length_take]; omega
  omega
theorem wsR_small {r : Ru} (h : okR r = true) : (wsR r).length ≤ 3 ∧ ((wsR r).map List.length).sum ≤ 404 ∧ ∀ x ∈ wsR r, x.length ≤ 200 := by
  unfold okR at h
  simp only [Bool.and_eq_true] at h
  obtain ⟨⟨hf, ht⟩, _⟩ := h
  have h1 := wdP_len hf
  have h2 := wdP_len ht
  unfold wsR
  split
  · simp; omega
  · split
    · simp; omega
    · simp; omega

set_option maxRecDepth 100000 in
set_option maxHeartbeats 4000000 in
theorem uline_any (k : Int) (f t : ByteArray) (w : World) (hT : Tabs w) (hf : f.size ≤ maxLen) (ht : t.size ≤ maxLen) :
    Calls Tryz.prog 57 #[rv k f t] w fun e w' => e = .returned (.tuple #[.string (mk (if okR (k, bs f, bs t) = true then lineR (k, bs f, bs t) else [])), .int .i64 (chkE (k, bs f, bs t))]) ∧ Below w.heap.size w w' := by
  have hck := fun W => ucheck_any k f t W hf ht
  have hwo := fun W => wordsOf_any k f t W
  have b1 : BoxR (w.alloc (.cells #[.int .i64 k, .string f, .string t] 31)) w.heap.size k f t := BoxR.new w k f t
  have hB0 : Below w.heap.size w (w.alloc (.cells #[.int .i64 k, .string f, .string t] 31)) := (Below.refl _ w).alloc (Nat.le_refl _) _
  unfold lineR
  generalize hr : (k, bs f, bs t) = r at *
  by_cases ho : okR r = true
  · have he : chkE r = 0 := by unfold chkE; rw [if_pos ho]
    rw [if_pos ho, he]
    rw [he] at hck
    obtain ⟨s1, s2, s3⟩ := wsR_small ho
    have hbm : ((wsR r).map mk).map bs = wsR r := map_mk_bs _
    have hsum : ∀ j, (lineL ((((wsR r).map mk).take j).map bs)).length ≤ 100000000 := fun j => by
      rw [List.map_take, hbm]
      have := lineL_take_len (wsR r) j
      omega
    have hsz : ∀ x ∈ (wsR r).map mk, x.size ≤ 1048576 := fun x hx => by
      obtain ⟨y, hy, rfl⟩ := List.mem_map.1 hx
      have := s3 y hy
      rw [← bs_len, bs_mk]; omega
    have HL : Hid (∀ (W : World) (a : Option Addr) (c : Nat), Strs W a (wsR r).length ((wsR r).map mk) → Tabs W → Calls Tryz.prog 80 #[.slice a (wsR r).length c] W fun e w' => e = .returned (.string (mk (lineL (wsR r)))) ∧ Below W.heap.size W w') := fun W a c h1 h2 => by
      have := line_any W a (wsR r).length c ((wsR r).map mk) h1 h2 hsz (by omega) hsum
      rw [hbm] at this
      exact this
    clear hsum hsz hbm s1 s2 s3
    generalize lineL (wsR r) = L at *
    generalize (wsR r).map mk = M at *
    generalize (wsR r).length = n at *
    go_enter Tryz.func57, Tryz.ntmps57
    go_wp2_with first
      | (go_at_call 64; refine (hck _).mono ?_; clear hck; rintro e w2 ⟨rfl, hB2⟩; have hB2' : Below w.heap.size w w2 := hB0.trans (hB2.mono hB0.size); obtain ⟨q0, q1, q2⟩ := (b1.below hB2 (by simp)).cell; have hz2 := hB2'.size; clear b1 hB2 hB0)
      | (go_at_call 81; refine (hwo _).mono ?_; clear hwo; rintro e w3 ⟨a3, c3, rfl, hS3, hB3⟩; have HB3 : Hid (Below w.heap.size w w3) := hB2'.trans (hB3.mono hB2'.size); have HS : Hid (Strs w3 a3 n M) := hS3; clear hB2' hB3 hS3 q0 q1 q2)
      | (go_at_call 80; refine (HL.out _ _ _ HS.out (hT.below HB3.out)).mono ?_; clear HL; rintro e w4 ⟨rfl, hB4⟩)
    go_ret2
    exact ⟨rfl, HB3.out.trans (hB4.mono HB3.out.size)⟩
  · have he : chkE r = 2 := by unfold chkE; rw [if_neg ho]
    rw [if_neg ho, he]
    rw [he] at hck
    clear hwo ho he
    go_enter Tryz.func57, Tryz.ntmps57
    go_wp2_with (go_at_call 64; refine (hck _).mono ?_; clear hck; rintro e w2 ⟨rfl, hB2⟩; have hB2' : Below w.heap.size w w2 := hB0.trans (hB2.mono hB0.size))
    go_ret2
    exact ⟨rfl, hB2'⟩
end Go.Proofs.YtggnglgehobglaaGreatDoor

/- Rules in a row of one's own (MRow), beside the layer quote's texts. -/
namespace Go.Proofs.YtggnglgehobglaaGreatDoor
end Go.Proofs.YtggnglgehobglaaGreatDoor

/- The walk of Print: the text of rules. -/
namespace Go.Proofs.YtggnglgehobglaaGreatDoor
open Go.RowKit Go.Shelf

attribute [local go_sem] Oper.semAt_some

/-- what Print answers: what is wrong, and the text -/
def prE (l : List Ru) : Int := if 64 < l.length then 3 else if l.all okR = true then 0 else 2
def prT (l : List Ru) : List UInt8 := if 64 < l.length then [] else if l.all okR = true then textR l else []
theorem prE_long {l : List Ru} (h : 64 < l.length) : prE l = 3 ∧ prT l = [] := by unfold prE prT; rw [if_pos h, if_pos h]; exact ⟨rfl, rfl⟩
theorem prE_ok {l : List Ru} (h : ¬ 64 < l.length) (ha : l.all okR = true) : prE l = 0 ∧ prT l = textR l := by unfold prE prT; rw [if_neg h, if_neg h, if_pos ha, if_pos ha]; exact ⟨rfl, rfl⟩
theorem prE_bad {l : List Ru} (h : ¬ 64 < l.length) (ha : ¬ l.all okR = true) : prE l = 2 ∧ prT l = [] := by unfold prE prT; rw [if_neg h, if_neg h, if_neg ha, if_neg ha]; exact ⟨rfl, rfl⟩
theorem bad_of {l : List Ru} {k : Nat} {x : Ru} (hx : l[k]? = some x) (h : ¬ okR x = true) : ¬ l.all okR = true := fun ha => h (List.all_eq_true.1 ha x (List.mem_of_getElem? hx))
theorem take_ok {l : List Ru} {k : Nat} {x : Ru} (hx : l[k]? = some x) (h : ∀ y ∈ l.take k, okR y = true) (ho : okR x = true) : ∀ y ∈ l.take (k + 1), okR y = true := by
  obtain ⟨hk, rfl⟩ := List.getElem?_eq_some_iff.1 hx
  intro y hy
  rw [List.take_succ_eq_append_getElem hk] at hy
  rcases List.mem_append.1 hy with hy | hy
  · exact h y hy
  · rw [List.mem_singleton.1 hy]; exact ho
theorem take_text {l : List Ru} {k : Nat} {x : Ru} (hx : l[k]? = some x) : textR (l.take (k + 1)) = textR (l.take k) ++ lineR x ++ [10] := by
  obtain ⟨hk, rfl⟩ := List.getElem?_eq_some_iff.1 hx
  rw [List.take_succ_eq_append_getElem hk, textR_snoc, List.append_assoc]
theorem chkE_ok {r : Ru} (h : okR r = true) : chkE r = 0 := by unfold chkE; rw [if_pos h]
theorem chkE_no {r : Ru} (h : ¬ okR r = true) : chkE r = 2 := by unfold chkE; rw [if_neg h]

set_option maxRecDepth 100000 in
set_option maxHeartbeats 4000000 in
theorem uprint_any (w : World) (a : Option Addr) (n c : Nat) (l : List Ru) (h : Rus w a n l) (hT : Tabs w) (hn : n ≤ 100000000000000000) (hs : ∀ x ∈ l, x.2.1.length ≤ maxLen ∧ x.2.2.length ≤ maxLen) :
    Calls Tryz.prog 33 #[.slice a n c] w fun e w' => e = .returned (.tuple #[.string (mk (prT l)), .int .i64 (prE l)]) ∧ Below w.heap.size w w' := by
  by_cases h64 : 64 < n
  · have h' : 64 < l.length := by rw [h.1]; exact h64
    rw [(prE_long h').1, (prE_long h').2]
    have i1 : (64 : Int) < (n : Int) := by omega
    clear h h' hs
    go_enter Tryz.func33, Tryz.ntmps33
    go_wp2
    go_ret2
    exact ⟨rfl, Below.refl _ _⟩
  · have h' : ¬ 64 < l.length := by rw [h.1]; exact h64
    have i1 : ¬ (64 : Int) < (n : Int) := by omega
    go_enter Tryz.func33, Tryz.ntmps33
    go_wp2
    go_loopw [14] (fun i wr => ∃ k : Nat, k ≤ n ∧ i = .int .i64 k ∧ Hid ((∀ y ∈ l.take k, okR y = true) ∧ Bld w (textR (l.take k)) wr ∧ Below w.heap.size w wr)) (fun i _ => n - (intOf i).toNat)
    case atStart => exact ⟨0, Nat.zero_le _, rfl, by simp, by simpa [textR, backL] using bld_new w, (Below.refl _ w).alloc (Nat.le_refl _) _⟩
    case round =>
      obtain ⟨k, hk, rfl, H⟩ := hrel
      by_cases hlt : k < n
      · obtain ⟨x, hx⟩ : ∃ x, l[k]? = some x := ⟨_, List.getElem?_eq_getElem (by rw [h.1]; exact hlt)⟩
        obtain ⟨b1, o1, rfl, hc1⟩ := h.2 (by omega)
        obtain ⟨t1, t2, t3⟩ := hc1 k x hx
        have q1 := (H.out.2.2.cell (p := ⟨b1, o1 + k * 3, none⟩) (World.block_lt_of_cell? w _ t1)).trans t1
        have q2 := (H.out.2.2.cell (p := ⟨b1, o1 + k * 3 + 1, none⟩) (World.block_lt_of_cell? w _ t2)).trans t2
        have q3 := (H.out.2.2.cell (p := ⟨b1, o1 + k * 3 + 2, none⟩) (World.block_lt_of_cell? w _ t3)).trans t3
        have i2 : (k : Int) < (n : Int) := by omega
        have i3 : ¬ n ≤ k := by omega
        have hxs := hs x (List.mem_of_getElem? hx)
        have hH1 : Below w.heap.size w (wr.alloc (.cells #[.int .i64 x.1, .string (mk x.2.1), .string (mk x.2.2)] 31)) := H.out.2.2.alloc H.out.2.2.size _
        have cl : Hid (∀ W, Below w.heap.size w W → Calls Tryz.prog 57 #[rv x.1 (mk x.2.1) (mk x.2.2)] W fun e w' => e = .returned (.tuple #[.string (mk (if okR x = true then lineR x else [])), .int .i64 (chkE x)]) ∧ Below W.heap.size W w') := fun W hW => by
          have := uline_any x.1 (mk x.2.1) (mk x.2.2) W (hT.below hW) (by rw [← bs_len, bs_mk]; exact hxs.1) (by rw [← bs_len, bs_mk]; exact hxs.2)
          rw [bs_mk, bs_mk] at this
          exact this
        have HA : Hid (Bld w (textR (l.take k)) (wr.alloc (.cells #[.int .i64 x.1, .string (mk x.2.1), .string (mk x.2.2)] 31)) ∧ Below w.heap.size w (wr.alloc (.cells #[.int .i64 x.1, .string (mk x.2.1), .string (mk x.2.2)] 31))) := ⟨H.out.2.1.below ((Below.refl _ _).alloc (Nat.le_refl _) _), hH1⟩
        have HO : Hid (∀ y ∈ l.take k, okR y = true) := H.out.1
        clear hc1 t1 t2 t3 hH1 H
        by_cases ho : okR x = true
        · rw [if_pos ho, chkE_ok ho] at cl
          have HX : Hid ((∀ y ∈ l.take (k + 1), okR y = true) ∧ textR (l.take (k + 1)) = textR (l.take k) ++ lineR x ++ [10]) := ⟨take_ok hx HO.out ho, take_text hx⟩
          have hln := lineR_len ho
          have htl : (textR (l.take k)).length ≤ 104064 := by
            have h1 := textR_len (l.take k) HO.out
            have h2 : (l.take k).length ≤ 64 := by rw [List.length_take]; omega
            omega
          have hZs : (mk (lineR x)).size = (lineR x).length := by rw [← bs_len, bs_mk]
          have HZ : Hid (bs (mk (lineR x)) = lineR x) := bs_mk _
          generalize textR (l.take k) = L at *
          generalize lineR x = Y at *
          generalize hZ : mk Y = Z at *
          generalize mk x.2.1 = sf at *
          generalize mk x.2.2 = st at *
          generalize x.1 = xk at *
          clear hZ hx ho h h' hs HO
          go_wp2_with first
            | (go_at_call 57; refine (cl.out _ HA.out.2).mono ?_; clear cl; rintro e w1 ⟨rfl, hB1⟩; have H1 : Hid (Bld w L w1 ∧ Below w.heap.size w w1) := ⟨HA.out.1.below hB1, HA.out.2.trans (hB1.mono HA.out.2.size)⟩; clear hB1 HA)
            | (go_at_call 58; refine (writeString_any w.heap.size w.heap.size L _ _ H1.out.1 (by rw [hZs]; omega) H1.out.2.size).mono ?_; rintro e w2 ⟨rfl, hb2, hB2⟩; have H2 : Hid (Bld w (L ++ Y) w2 ∧ Below w.heap.size w w2) := ⟨by rw [HZ.out] at hb2; exact hb2, H1.out.2.trans hB2⟩; clear hb2 hB2)
            | (go_at_call 59; refine (writeByte_any w.heap.size w.heap.size (L ++ Y) 10 _ H2.out.1 (by rw [List.length_append]; omega) H2.out.2.size).mono ?_; rintro e w3 ⟨rfl, hb3, hB3⟩; have H3 : Hid (Bld w (L ++ Y ++ [10]) w3 ∧ Below w.heap.size w w3) := ⟨hb3, H2.out.2.trans hB3⟩; clear hb3 hB3)
          go_roundw
          case rel => exact ⟨k + 1, by omega, by go_num, HX.out.1, by rw [HX.out.2]; exact H3.out.1, H3.out.2⟩
          case measure => simp [intOf]; omega
        · have hbad := bad_of hx ho
          rw [if_neg ho, chkE_no ho] at cl
          have HP : Hid (prE l = 2 ∧ prT l = []) := prE_bad h' hbad
          generalize mk x.2.1 = sf at *
          generalize mk x.2.2 = st at *
          generalize x.1 = xk at *
          clear hx ho h h' hs HO hbad
          go_wp2_with (go_at_call 57; refine (cl.out _ HA.out.2).mono ?_; clear cl; rintro e w1 ⟨rfl, hB1⟩; have H1 : Hid (Below w.heap.size w w1) := HA.out.2.trans (hB1.mono HA.out.2.size); clear hB1 HA)
          go_ret2
          exact ⟨by rw [HP.out.1, HP.out.2]; rfl, H1.out⟩
      · obtain rfl : k = n := by omega
        have ilt : ¬ (k : Int) < (k : Int) := by omega
        have hf : l.take k = l := List.take_of_length_le (by rw [h.1]; exact Nat.le_refl _)
        rw [hf] at H
        clear hf
        have hall : l.all okR = true := List.all_eq_true.2 H.out.1
        have HP : Hid (prE l = 0 ∧ prT l = textR l) := prE_ok h' hall
        have cs := Tryz.Builder_String_any w.heap.size w.heap.size (textR l) wr H.out.2.1 H.out.2.2.size
        have HB := H.out.2.2
        rw [show (⟨(textR l).toArray⟩ : ByteArray) = mk (textR l) from rfl] at cs
        obtain ⟨Z, hZ⟩ : ∃ Z, Z = mk (textR l) := ⟨_, rfl⟩
        have HZ : Hid (Z = mk (textR l)) := hZ
        rw [← hZ] at cs
        clear H hZ h hs
        go_wp2_with (go_at_call 60; refine cs.mono ?_; rintro e w2 ⟨rfl, hB2⟩)
        go_ret2
        exact ⟨by rw [HP.out.1, HP.out.2, ← HZ.out]; rfl, HB.trans hB2⟩
end Go.Proofs.YtggnglgehobglaaGreatDoor

/- The walk of the program's Hash. -/
namespace Go.Proofs.YtggnglgehobglaaGreatDoor
open Go.RowKit

/-- the hash of the first k bytes of l -/
def hashTo (l : List UInt8) : Nat → Int
  | 0 => 14695981039346656037
  | k + 1 => IntKind.u64.wrap (bits BinOp.xor IntKind.u64 (hashTo l k) (bt l k) * 1099511628211)
theorem hashTo_zero (l : List UInt8) : hashTo l 0 = 14695981039346656037 := rfl
theorem hashTo_succ (l : List UInt8) (k : Nat) : hashTo l (k + 1) = IntKind.u64.wrap (bits BinOp.xor IntKind.u64 (hashTo l k) (bt l k) * 1099511628211) := rfl
theorem hashTo_lo (l : List UInt8) (k : Nat) : 0 ≤ hashTo l k := by
  cases k with
  | zero => rw [hashTo_zero]; omega
  | succ k => rw [hashTo_succ]; rw [IntKind.wrap_u64]; omega
theorem hashTo_hi (l : List UInt8) (k : Nat) : hashTo l k ≤ 18446744073709551615 := by
  cases k with
  | zero => rw [hashTo_zero]; omega
  | succ k => rw [hashTo_succ]; rw [IntKind.wrap_u64]; omega

set_option maxHeartbeats 400000 in
theorem hash_any (a : Option Addr) (n cap : Nat) (l : List UInt8) (w : World) (hb : Bytes w a n l) (hm : n ≤ maxLen) :
    Calls Tryz.prog 34 #[.slice a n cap] w fun e w' => e = .returned (.int .u64 (hashTo l n)) ∧ w' = w := by
  unfold maxLen at hm
  obtain ⟨hl, hc⟩ := hb
  go_enter Tryz.func34, Tryz.ntmps34
  go_wp2
  go_loop [3, 8] (fun h i => ∃ k : Nat, k ≤ n ∧ i = .int .i64 k ∧ h = .int .u64 (hashTo l k)) (fun _ i => n - (intOf i).toNat)
  case atStart => exact ⟨0, Nat.zero_le _, rfl, rfl⟩
  case round =>
    obtain ⟨k, hk, rfl, rfl⟩ := hrel
    by_cases hlt : k < n
    · obtain ⟨b, off, rfl, hcell⟩ := hc (by omega)
      have hck := hcell k hlt
      have b0 := bt_lo l k
      have b1 := bt_hi l k
      have h0 := hashTo_lo l k
      have h1 := hashTo_hi l k
      clear hcell hc
      go_wp2
      go_round
      case rel => exact ⟨k + 1, by omega, by go_num, by rw [hashTo_succ]⟩
      case measure => simp [intOf]; omega
    · go_wp2
      go_ret
      obtain rfl : k = n := by omega
      exact ⟨rfl, rfl⟩

end Go.Proofs.YtggnglgehobglaaGreatDoor

/- The walks of Text and Key. -/
namespace Go.Proofs.YtggnglgehobglaaGreatDoor
open Go.RowKit Go.Shelf Go.Maps

attribute [local go_sem] Oper.semAt_some

theorem run_bytesM (w : World) (s : ByteArray) : ∃ c w', (convert 9 66 (.string s)).run Tryz.prog w = .ok (.slice (some ⟨w.heap.size, 0, none⟩) s.size c) w' ∧ Bytes w' (some ⟨w.heap.size, 0, none⟩) s.size s.data.toList ∧ Below w.heap.size w w' ∧ w'.heap.size = w.heap.size + 1 := by
  refine ⟨_, _, Lib.run_convert_string_bytes w 9 66 5 s Tryz.underlying9 Tryz.underlying66 Tryz.underlying5, ⟨rfl, fun _ => ⟨w.heap.size, 0, rfl, fun i hi => ?_⟩⟩, ⟨rfl, rfl, rfl, ?_, fun k hk => Lib.bytesWorld_at_old w _ s k hk⟩, Lib.bytesWorld_size _ _ _⟩
  · rw [Nat.zero_add, Lib.bytesWorld_cell w _ s i hi]; rfl
  · rw [Lib.bytesWorld_size]; omega
theorem prT_len (F : List Ru) : (prT F).length ≤ 104064 := by
  unfold prT
  split
  · exact Nat.zero_le _
  · split
    · rename_i h1 h2
      have := textR_len F (fun r hr => List.all_eq_true.1 h2 r hr)
      omega
    · exact Nat.zero_le _
theorem text_any (w : World) (m : Nat) (F : List Ru) (hM : MpAt w m F) (hT : Tabs w) :
    Calls Tryz.prog 13 #[.pointer (some ⟨m, 0, none⟩)] w fun e w' => e = .returned (.string (mk (prT F))) ∧ Below w.heap.size w w' := by
  obtain ⟨a, n, c, b, c0, c1, h1, h2, h3, h4⟩ := hM.ex
  have hpr := uprint_any w a n c F h1 hT (by omega) (fun x hx => by have h1 := isP_len (hM.ok x hx).1; have h2 := isP_len (hM.ok x hx).2; unfold maxLen; omega)
  generalize mk (prT F) = PT at *
  generalize prE F = PE at *
  clear hM h1 h2 h3 h4 c1
  go_enter Tryz.func13, Tryz.ntmps13
  go_wp2_with fail
  refine hpr.mono ?_
  clear hpr
  rintro e w1 ⟨rfl, hB1⟩
  have H1 : Hid (Below w.heap.size w w1) := hB1
  clear hB1
  go_wp2
  go_ret
  exact ⟨rfl, H1.out⟩
/-- the key of rules -/
def keyF (F : List Ru) : Int := max 1 (hashTo (prT F) (prT F).length)
theorem key_any (w : World) (m : Nat) (F : List Ru) (hM : MpAt w m F) (hT : Tabs w) :
    Calls Tryz.prog 14 #[.pointer (some ⟨m, 0, none⟩)] w fun e w' => e = .returned (.int .u64 (keyF F)) ∧ Below w.heap.size w w' := by
  have htx := text_any w m F hM hT
  have hpl := prT_len F
  obtain ⟨P, hP⟩ : ∃ P, P = mk (prT F) := ⟨_, rfl⟩
  have hPd : P.data.toList = prT F := by rw [hP]; exact bs_mk _
  have hPs : P.size = (prT F).length := by rw [← bs_len, hP, bs_mk]
  rw [← hP] at htx
  have HK : Hid (keyF F = max 1 (hashTo (prT F) P.size)) := by show _ = _; unfold keyF; rw [hPs]
  have hlo := hashTo_lo (prT F) P.size
  have hhi := hashTo_hi (prT F) P.size
  have hPm : P.size ≤ maxLen := by unfold maxLen; omega
  generalize keyF F = KF at *
  clear hM hT hP hpl hPs
  go_enter Tryz.func14, Tryz.ntmps14
  go_wp2_with fail
  refine htx.mono ?_
  clear htx
  rintro e w1 ⟨rfl, hB1⟩
  obtain ⟨c, w2, hrun, hby, hB2, _⟩ := run_bytesM w1 P
  have H2 : Hid (Below w.heap.size w w2) := hB1.trans (hB2.mono hB1.size)
  have hha := hash_any (some ⟨w1.heap.size, 0, none⟩) P.size c P.data.toList w2 hby hPm
  rw [hPd] at hha
  clear hB1 hB2 hby hPd
  go_wp2_with fail
  refine hha.mono ?_
  clear hha hrun
  rintro e w3 ⟨rfl, rfl⟩
  generalize hashTo (prT F) P.size = HH at *
  go_wp2
  go_ret
  exact ⟨by rw [HK.out]; rfl, H2.out⟩
end Go.Proofs.YtggnglgehobglaaGreatDoor
