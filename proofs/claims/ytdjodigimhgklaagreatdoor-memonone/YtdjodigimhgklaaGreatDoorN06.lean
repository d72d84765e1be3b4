import Derived.Test.YtdjodigimhgklaaGreatDoorN03
import Derived.Test.YtdjodigimhgklaaGreatDoorN04
import Derived.Test.YtdjodigimhgklaaGreatDoorN05
import Derived.Outline
import Derived.Laws.CopyOwn
import Derived.Test.YtdjodigimhgklaaGreatDoorN01
/- Plain: what was written is read as the same; of a shorter beginning the read is refused with 110. Nothing of the program is named here. -/
namespace Go.Proofs.YtdjodigimhgklaaGreatDoor
open Go.RowKit

theorem shortF_canon : ∀ (f x : Nat), x < 128 ^ (f + 1) → Canon (shortF f x) ∧ val (shortF f x) = x := by
  intro f
  induction f with
  | zero =>
    intro x hx
    have hx' : x < 128 := by simpa using hx
    have e : (UInt8.ofNat x).toNat = x := by rw [UInt8.toNat_ofNat']; omega
    simp only [shortF, Canon, val, e]
    omega
  | succ f ih =>
    intro x hx
    by_cases h : x < 128
    · have e : (UInt8.ofNat x).toNat = x := by rw [UInt8.toNat_ofNat']; omega
      rw [shortF_low _ _ h]
      simp only [Canon, val, e]
      omega
    · rw [shortF_high f x h]
      obtain ⟨h1, h2⟩ := ih (x / 128) (by rw [Nat.pow_succ] at hx; exact Nat.div_lt_of_lt_mul (by rw [Nat.mul_comm]; exact hx))
      have e : (UInt8.ofNat (x % 128 + 128)).toNat = x % 128 + 128 := by rw [UInt8.toNat_ofNat']; omega
      constructor
      · cases hs : shortF f (x / 128) with
        | nil => rw [hs] at h1; exact absurd h1 (by simp [Canon])
        | cons d t => rw [hs] at h1 h2; exact ⟨by rw [e]; omega, h1, by rw [h2]; omega⟩
      · simp only [val, e, h2]; omega
theorem short_canon (x : Nat) (hx : x < 18446744073709551616) : Canon (short x) ∧ val (short x) = x :=
  shortF_canon 9 x (by have : (18446744073709551616 : Nat) ≤ 128 ^ (9 + 1) := by decide
                       omega)

theorem drop_cons {l : List UInt8} {i : Nat} {c : UInt8} {t : List UInt8} (h : l.drop i = c :: t) : bt l i = (c.toNat : Int) ∧ l.drop (i + 1) = t := by
  have hi : i < l.length := by
    by_cases hi : i < l.length
    · exact hi
    · rw [List.drop_eq_nil_of_le (by omega)] at h; cases h
  obtain ⟨c', h1, h2⟩ := drop_bt l i hi
  rw [h1] at h
  simp only [List.cons.injEq] at h
  rw [h.1] at h2
  exact ⟨h2, h.2⟩

theorem canon_num : ∀ (p : List UInt8), Canon p → ∀ (i f : Nat) (l rest : List UInt8), l.drop i = p ++ rest → p.length ≤ f → i ≤ 9 → (0 < i → 0 < val p) → val p * 128 ^ i < 18446744073709551616 →
    numFrom l f i = (accTo l i + 128 ^ i * (val p : Int), i + p.length, 0) := by
  intro p
  induction p with
  | nil => intro h; exact absurd h (by simp [Canon])
  | cons c t ih =>
    intro hp i f l rest hd hf hi hv hlim
    obtain ⟨f', rfl⟩ : ∃ f', f = f' + 1 := ⟨f - 1, by simp at hf; omega⟩
    obtain ⟨hbt, hd'⟩ := drop_cons hd
    have hcl := c.toNat_lt
    cases t with
    | nil =>
      simp only [Canon] at hp
      have hval : val [c] = c.toNat := by simp only [val]; omega
      rw [hval] at hlim hv
      have hb : brokenB i (bt l i) = false := by
        rw [hbt]
        simp only [brokenB]
        have h9 : i = 9 → c.toNat ≤ 1 := by
          intro h9; subst h9
          have : (128 : Nat) ^ 9 = 9223372036854775808 := by decide
          rw [this] at hlim
          omega
        have h0 : 0 < i → ¬ c.toNat = 0 := fun h => by have := hv h; omega
        by_cases h1 : i = 9
        · have := h9 h1
          have := h0 (by omega)
          simp [h1]
          omega
        · by_cases h2 : 0 < i
          · have := h0 h2
            simp [h1]
            omega
          · simp [h1]
            omega
      rw [numFrom, if_neg (by simp [hb]), if_pos (by rw [hbt]; omega), accTo_succ, hbt, hval]
      simp only [List.length_singleton, Prod.mk.injEq, and_true]
      have : (c.toNat : Int) % 128 = (c.toNat : Int) := by omega
      rw [this, Int.mul_comm]
    | cons d t =>
      obtain ⟨h1, h2, h3⟩ := hp
      have hval : val (c :: d :: t) = c.toNat % 128 + 128 * val (d :: t) := rfl
      have hi8 : i ≤ 8 := by
        by_cases h9 : i = 9
        · subst h9
          have h128 : (128 : Nat) ^ 9 = 9223372036854775808 := by decide
          rw [h128, hval] at hlim
          omega
        · omega
      have hb : brokenB i (bt l i) = false := by
        rw [hbt]
        simp only [brokenB]
        have : ¬ i = 9 := by omega
        simp [this]
        omega
      have hlim' : val (d :: t) * 128 ^ (i + 1) < 18446744073709551616 := by
        have hle : val (d :: t) * 128 ^ (i + 1) ≤ val (c :: d :: t) * 128 ^ i := by
          rw [Nat.pow_succ, Nat.mul_comm (128 ^ i) 128, ← Nat.mul_assoc]
          exact Nat.mul_le_mul_right _ (by rw [hval]; omega)
        omega
      rw [numFrom, if_neg (by simp [hb]), if_neg (by rw [hbt]; omega), ih h2 (i + 1) f' l rest hd' (by simp at hf ⊢; omega) (by omega) (fun _ => h3) hlim', accTo_succ, hbt, hval, Int.pow_succ]
      simp only [List.length_cons, Prod.mk.injEq, and_true]
      refine ⟨?_, by omega⟩
      have e1 : ((c.toNat % 128 + 128 * val (d :: t) : Nat) : Int) = (c.toNat : Int) % 128 + 128 * (val (d :: t) : Int) := by omega
      rw [e1, Int.mul_add, Int.mul_comm ((c.toNat : Int) % 128), Int.mul_assoc]
      omega

theorem num_short_app (x : Nat) (hx : x < 18446744073709551616) (rest : List UInt8) : num (short x ++ rest) = ((x : Int), (short x).length, 0) := by
  obtain ⟨h1, h2⟩ := short_canon x hx
  unfold num
  rw [canon_num (short x) h1 0 _ (short x ++ rest) rest rfl (by simp) (by omega) (fun h => by omega) (by rw [h2]; omega), h2]
  simp [accTo]

theorem canon_prefix : ∀ (p : List UInt8), Canon p → ∀ (j i : Nat) (l : List UInt8), j < p.length → l.drop i = p.take j → i + p.length ≤ 10 → numFrom l j i = (0, 0, 110) := by
  intro p
  induction p with
  | nil => intro h; exact absurd h (by simp [Canon])
  | cons c t ih =>
    intro hp j i l hj hd hi
    cases j with
    | zero => rfl
    | succ j =>
      cases t with
      | nil => simp at hj
      | cons d t =>
        obtain ⟨h1, h2, _⟩ := hp
        rw [List.take_succ_cons] at hd
        obtain ⟨hbt, hd'⟩ := drop_cons hd
        simp only [List.length_cons] at hi hj
        have hb : brokenB i (bt l i) = false := by
          rw [hbt]
          simp only [brokenB]
          have : ¬ i = 9 := by omega
          simp [this]
          omega
        rw [numFrom, if_neg (by simp [hb]), if_neg (by rw [hbt]; omega)]
        exact ih h2 j (i + 1) l (by simp only [List.length_cons]; omega) hd' (by simp only [List.length_cons]; omega)

theorem num_short_cut (x j : Nat) (hx : x < 18446744073709551616) (hj : j < (short x).length) : num ((short x).take j) = (0, 0, 110) := by
  obtain ⟨h1, _⟩ := short_canon x hx
  have hl := short_len x
  unfold num
  rw [List.length_take, Nat.min_eq_left (by omega)]
  exact canon_prefix (short x) h1 j 0 _ hj rfl (by omega)

theorem wideVal_wide (x : Nat) (rest : List UInt8) : ∀ k, k ≤ 8 → x < 256 ^ 8 → wideVal (wide x ++ rest) k = ((x / 256 ^ (8 - k) : Nat) : Int) := by
  intro k
  induction k with
  | zero => intro _ hx; rw [Nat.sub_zero, Nat.div_eq_of_lt hx]; rfl
  | succ k ih =>
    intro hk hx
    have hb : bt (wide x ++ rest) k = ((x / 256 ^ (7 - k) % 256 : Nat) : Int) := by
      have h1 : bt (wide x ++ rest) k = bt (wide x) k := by
        unfold bt
        rw [List.getD_eq_getElem?_getD, List.getD_eq_getElem?_getD, List.getElem?_append_left (by unfold wide; rw [wideTo_len]; omega)]
      rw [h1]
      exact wideTo_bt x k 8 (by omega)
    rw [wideVal_succ, ih (by omega) hx, hb, show 8 - k = (7 - k) + 1 from by omega, show 8 - (k + 1) = 7 - k from by omega, Nat.pow_succ, ← Nat.div_div_eq_div_mul]
    omega

theorem outU_ok (x : Nat) (hx : x < 18446744073709551616) (m : Int) (rest : List UInt8) : outOf 1 m (short x ++ rest) 0 = ⟨rest, 0, (x : Int), []⟩ := by
  rw [outOf, if_neg (by simp), if_neg (by decide), if_pos rfl, outU, num_short_app x hx rest, if_neg (by simp)]
  simp
theorem outU_cut (x j : Nat) (hx : x < 18446744073709551616) (m : Int) (hj : j < (short x).length) : (outOf 1 m ((short x).take j) 0).err = 110 := by
  rw [outOf, if_neg (by simp), if_neg (by decide), if_pos rfl, outU, num_short_cut x j hx hj, if_pos (by simp)]
  rfl
theorem outW_ok (x : Nat) (hx : x < 18446744073709551616) (m : Int) (rest : List UInt8) : outOf 2 m (wide x ++ rest) 0 = ⟨rest, 0, (x : Int), []⟩ := by
  have hl : (wide x).length = 8 := wideTo_len x 8
  have hv := wideVal_wide x rest 8 (by omega) hx
  rw [outOf, if_neg (by simp), if_neg (by decide), if_neg (by decide), if_pos rfl, outW, if_neg (by rw [List.length_append, hl]; omega), hv, List.drop_append]
  simp [hl]
theorem outW_cut (l : List UInt8) (m : Int) (hj : l.length < 8) : (outOf 2 m l 0).err = 110 := by
  rw [outOf, if_neg (by simp), if_neg (by decide), if_neg (by decide), if_pos rfl, outW, if_pos hj]
  rfl
theorem outT_ok (s rest : List UInt8) (hx : s.length < 18446744073709551616) : outOf 3 (s.length : Int) (short s.length ++ (s ++ rest)) 0 = ⟨rest, 0, 0, s⟩ := by
  have hn := num_short_app s.length hx (s ++ rest)
  have ht := txt_ok (short s.length ++ (s ++ rest)) (s.length : Int) (by omega) (by rw [hn]) (by rw [hn]; simp) (by rw [hn]; simp; omega)
  rw [hn] at ht
  simp only [Int.toNat_natCast] at ht
  rw [outOf, if_neg (by simp), if_neg (by decide), if_neg (by decide), if_neg (by decide), if_pos rfl, outT, ht, if_neg (by simp)]
  simp only [Out.mk.injEq, true_and]
  constructor
  · rw [← List.append_assoc, List.drop_append]
    simp
  · rw [← List.append_assoc, List.take_append_of_le_length (by simp), List.take_of_length_le (by simp), List.drop_append]
    simp
theorem outT_cut (s : List UInt8) (j : Nat) (hx : s.length < 18446744073709551616) (hj : j < (short s.length ++ s).length) : (outOf 3 (s.length : Int) ((short s.length ++ s).take j) 0).err = 110 := by
  rw [outOf, if_neg (by simp), if_neg (by decide), if_neg (by decide), if_neg (by decide), if_pos rfl, outT]
  by_cases h1 : j < (short s.length).length
  · have e : (short s.length ++ s).take j = (short s.length).take j := List.take_append_of_le_length (by omega)
    have hn := num_short_cut s.length j hx h1
    have ht := txt_num ((short s.length).take j) (s.length : Int) (by omega) (by rw [hn]; simp)
    rw [e, ht, hn, if_pos (by simp)]
    rfl
  · have e : (short s.length ++ s).take j = short s.length ++ s.take (j - (short s.length).length) := by rw [List.take_append, List.take_of_length_le (by omega)]
    have hn := num_short_app s.length hx (s.take (j - (short s.length).length))
    rw [List.length_append] at hj
    have ht := txt_short (short s.length ++ s.take (j - (short s.length).length)) (s.length : Int) (by omega) (by rw [hn]) (by rw [hn]; simp) (by rw [hn]; simp; omega)
    rw [e, ht, if_pos (by simp)]
    rfl

end Go.Proofs.YtdjodigimhgklaaGreatDoor

/- The walk of the one method by which files change: a raw write is done whole and counted, or not at all. -/
namespace Go.Proofs.YtdjodigimhgklaaGreatDoor
open Go.RowKit Go.Maps

def DG.can (S : DG) : Bool := !S.cut || S.left != 0
def DG.done (S : DG) : DG := { S with wr := S.wr + 1, left := if S.cut then S.left - 1 else S.left }

theorem turn_setCell (w : World) (p o : Nat) (v : Value) : Turn (fun k => k = p) w (w.setCell ⟨p, o, none⟩ v) :=
  ⟨rfl, rfl, rfl, by simp [World.setCell], fun k _ hk => Below.heap_setCell _ _ _ _ hk⟩

set_option maxHeartbeats 1000000 in
theorem raw_done (k p : Nat) (caps : Array Value) (S : DG) (Fp : Nat → Prop) (w : World) (R : World → Prop) (hk : ∀ w, (callFunc k caps).run Tryz.prog w = .ok (.enter k caps) w) (hd : IsDisk w p S Fp) (hw : S.wr < 4611686018427387904) (hc : S.can = true)
    (hcl : ∀ w1, (∀ b M, DiskAt w p b M S Fp → DiskAt w1 p b M S.done Fp) → IsDisk w1 p S.done Fp → Turn (fun i => i = p) w w1 → w1.heap.size = w.heap.size → Calls Tryz.prog k caps w1 fun e w' => e = .returned (.tuple #[]) ∧ R w') :
    Calls Tryz.prog 95 #[.pointer (some ⟨p, 0, none⟩), .func (.func k) #[] caps] w fun e w' => e = .returned (.int .i64 0) ∧ R w' := by
  obtain ⟨b, M, hd⟩ := hd
  obtain ⟨f, n, wr, cut, left⟩ := S
  have c1 := hd.c1
  have c2 := hd.c2
  have c3 := hd.c3
  have f1 := hd.f1
  have f3 := hd.f3
  have hl := hd.hl
  simp only at c1 c2 c3 hl hw
  cases cut with
  | false =>
    have hd1 := fun b' M' (hd : DiskAt w p b' M' (DG.mk f n wr false left) Fp) => hd.field 1 (.int .i64 ((wr : Int) + 1)) (by decide) (DG.mk f n (wr + 1) false left) rfl rfl hl (by rw [World.cell?_setCell_same _ _ _ c1]; rfl) (by rw [World.cell?_setCell_other _ _ _ _ (by simp)]; exact c2) (by rw [World.cell?_setCell_other _ _ _ _ (by simp)]; exact c3)
    have hx := hcl _ hd1 ⟨b, M, hd1 b M hd⟩ (turn_setCell w p 1 _) (by simp [World.setCell])
    clear hcl hd hd1
    go_enter Tryz.func95, Tryz.ntmps95
    go_wp2_with fail
    refine hx.mono ?_
    rintro e w' ⟨rfl, hR⟩
    go_wp2
    go_ret
    exact ⟨rfl, hR⟩
  | true =>
    have h0 : left ≠ 0 := by simpa [DG.can] using hc
    have h0' : ¬ (left : Int) = 0 := by omega
    have e1 : ((left - 1 : Nat) : Int) = (left : Int) - 1 := by omega
    have hd1 := fun b' M' (hd : DiskAt w p b' M' (DG.mk f n wr true left) Fp) => hd.field 3 (.int .i64 ((left : Int) - 1)) (by decide) (DG.mk f n wr true (left - 1)) rfl rfl (by simp only; omega) (by rw [World.cell?_setCell_other _ _ _ _ (by simp)]; exact c1) (by rw [World.cell?_setCell_other _ _ _ _ (by simp)]; exact c2) (by rw [World.cell?_setCell_same _ _ _ c3]; simp only; rw [e1])
    have hd2 := fun b' M' (hd : DiskAt w p b' M' (DG.mk f n wr true left) Fp) => (hd1 b' M' hd).field 1 (.int .i64 ((wr : Int) + 1)) (by decide) (DG.mk f n (wr + 1) true (left - 1)) rfl rfl (by simp only; omega) (by rw [World.cell?_setCell_same _ _ _ (hd1 b' M' hd).c1]; rfl) (by rw [World.cell?_setCell_other _ _ _ _ (by simp)]; exact (hd1 b' M' hd).c2) (by rw [World.cell?_setCell_other _ _ _ _ (by simp)]; exact (hd1 b' M' hd).c3)
    have hx := hcl _ hd2 ⟨b, M, hd2 b M hd⟩ ((turn_setCell w p 3 _).trans (turn_setCell _ p 1 _) (fun _ _ h => h)) (by simp [World.setCell])
    clear hcl hd hd1 hd2
    go_enter Tryz.func95, Tryz.ntmps95
    go_wp2_with fail
    refine hx.mono ?_
    rintro e w' ⟨rfl, hR⟩
    go_wp2
    go_ret
    exact ⟨rfl, hR⟩

set_option maxHeartbeats 1000000 in
theorem raw_cut (k p : Nat) (caps : Array Value) (S : DG) (Fp : Nat → Prop) (w : World) (hd : IsDisk w p S Fp) (hc : S.can = false) :
    Calls Tryz.prog 95 #[.pointer (some ⟨p, 0, none⟩), .func (.func k) #[] caps] w fun e w' => e = .returned (.int .i64 6) ∧ w' = w := by
  obtain ⟨b, M, hd⟩ := hd
  obtain ⟨f, n, wr, cut, left⟩ := S
  have hc' : cut = true ∧ left = 0 := by simpa [DG.can] using hc
  obtain ⟨rfl, rfl⟩ := hc'
  have c2 := hd.c2
  have c3 := hd.c3
  simp only at c2 c3
  clear hd hc
  go_enter Tryz.func95, Tryz.ntmps95
  go_wp2
  go_ret
  exact ⟨rfl, rfl⟩

end Go.Proofs.YtdjodigimhgklaaGreatDoor

/- The walks of a Reader's methods that need no number's form: Byte, Raw, Err, Left, End; and of Read itself. -/
namespace Go.Proofs.YtdjodigimhgklaaGreatDoor
open Go.RowKit

theorem err_nil (w : World) : Calls Tryz.prog 117 #[.pointer none] w fun e w' => e = .returned (.int .i64 1) ∧ w' = w := by
  go_enter Tryz.func117, Tryz.ntmps117
  go_wp2
  go_ret
  exact ⟨rfl, rfl⟩

theorem err_any (w : World) (r : Nat) (x : Int) (h : w.cell? ⟨r, 1, none⟩ = some (.int .i64 x)) : Calls Tryz.prog 117 #[.pointer (some ⟨r, 0, none⟩)] w fun e w' => e = .returned (.int .i64 x) ∧ w' = w := by
  go_enter Tryz.func117, Tryz.ntmps117
  go_wp2
  go_ret
  exact ⟨rfl, rfl⟩

theorem left_nil (w : World) : Calls Tryz.prog 114 #[.pointer none] w fun e w' => e = .returned (.int .i64 0) ∧ w' = w := by
  go_enter Tryz.func114, Tryz.ntmps114
  go_wp2
  go_ret
  exact ⟨rfl, rfl⟩

theorem left_any (w : World) (r g p m : Nat) (x : Int) (l : List UInt8) (h : Rd w r g p x l) (hm : l.length = p + m) :
    Calls Tryz.prog 114 #[.pointer (some ⟨r, 0, none⟩)] w fun e w' => e = .returned (.int .i64 m) ∧ ∃ k, w' = w.drewN k := by
  have Hm : Hid (l.length = p + m) := hm
  clear hm
  go_enter Tryz.func114, Tryz.ntmps114
  go_wp2_with fail
  refine (rest_any _ r g p m x l h Hm.out).mono ?_
  rintro e w1 ⟨q, k, rfl, hb, rfl⟩
  go_wp2
  go_ret
  exact ⟨rfl, _, rfl⟩

theorem end_nil (w : World) : Calls Tryz.prog 124 #[.pointer none] w fun e w' => e = .returned (.int .i64 1) ∧ w' = w := by
  go_enter Tryz.func124, Tryz.ntmps124
  go_wp2_with fail
  refine (err_nil _).mono ?_
  rintro e w1 ⟨rfl, rfl⟩
  go_wp2
  go_ret
  exact ⟨rfl, rfl⟩

theorem end_err (w : World) (r : Nat) (x : Int) (h : w.cell? ⟨r, 1, none⟩ = some (.int .i64 x)) (hx : (x != 0) = true) : Calls Tryz.prog 124 #[.pointer (some ⟨r, 0, none⟩)] w fun e w' => e = .returned (.int .i64 x) ∧ w' = w := by
  go_enter Tryz.func124, Tryz.ntmps124
  go_wp2_with fail
  refine (err_any _ r x h).mono ?_
  rintro e w1 ⟨rfl, rfl⟩
  go_wp2
  go_ret
  exact ⟨rfl, rfl⟩

theorem end_ok (w : World) (r g p m : Nat) (l : List UInt8) (h : Rd w r g p 0 l) (hm : l.length = p + m) :
    Calls Tryz.prog 124 #[.pointer (some ⟨r, 0, none⟩)] w fun e w' => e = .returned (.int .i64 (if 0 < m then 111 else 0)) ∧ ∃ k, w' = w.drewN k := by
  have Hm : Hid (l.length = p + m) := hm
  clear hm
  by_cases h0 : 0 < m
  · have i1 : (0 : Int) < (m : Int) := by omega
    rw [if_pos h0]
    go_enter Tryz.func124, Tryz.ntmps124
    go_wp2_with fail
    refine (err_any _ r 0 h.c1).mono ?_
    rintro e w1 ⟨rfl, rfl⟩
    go_wp2_with fail
    refine (left_any _ r g p m 0 l h Hm.out).mono ?_
    rintro e w1 ⟨rfl, k, rfl⟩
    go_wp2
    go_ret
    exact ⟨rfl, _, rfl⟩
  · have i1 : ¬ (0 : Int) < (m : Int) := by omega
    rw [if_neg h0]
    go_enter Tryz.func124, Tryz.ntmps124
    go_wp2_with fail
    refine (err_any _ r 0 h.c1).mono ?_
    rintro e w1 ⟨rfl, rfl⟩
    go_wp2_with fail
    refine (left_any _ r g p m 0 l h Hm.out).mono ?_
    rintro e w1 ⟨rfl, k, rfl⟩
    go_wp2
    go_ret
    exact ⟨rfl, _, rfl⟩

end Go.Proofs.YtdjodigimhgklaaGreatDoor

/- The walk of the program's reading of a short form. -/
namespace Go.Proofs.YtdjodigimhgklaaGreatDoor
open Go.RowKit

theorem ret3_of {p : Int × Nat × Int} {x : Int} {y : Int} {z : Int} (h : p = (x, y.toNat, z)) (h0 : 0 ≤ y) :
    Ending.returned (.tuple #[.int .u64 x, .int .i64 y, .int .i64 z]) = .returned (.tuple #[.int .u64 p.1, .int .i64 p.2.1, .int .i64 p.2.2]) := by
  rw [h]
  simp [Int.toNat_of_nonneg h0]

set_option maxHeartbeats 1000000 in
theorem shortForm_any (a : Option Addr) (n cap : Nat) (l : List UInt8) (w : World) (hb : Bytes w a n l) (hm : n ≤ maxLen) :
    Calls Tryz.prog 158 #[.slice a n cap] w fun e w' => e = .returned (.tuple #[.int .u64 (num l).1, .int .i64 (num l).2.1, .int .i64 (num l).2.2]) ∧ w' = w := by
  unfold maxLen at hm
  obtain ⟨hl, hc⟩ := hb
  have HN : Hid (num l = numFrom l (n - 0) 0) := by show num l = _; unfold num; rw [hl]; rfl
  go_enter Tryz.func158, Tryz.ntmps158
  go_wp2
  go_loop [5, 10] (fun x i => ∃ k : Nat, k ≤ n ∧ k ≤ 9 ∧ i = .int .i64 k ∧ x = .int .u64 (accTo l k) ∧ Hid (num l = numFrom l (n - k) k)) (fun _ i => n - (intOf i).toNat)
  case atStart => exact ⟨0, Nat.zero_le _, by omega, rfl, rfl, HN⟩
  case round =>
    clear HN
    obtain ⟨k, hk, hk9, rfl, rfl, HN⟩ := hrel
    by_cases hlt : k < n
    · obtain ⟨b, off, rfl, hcell⟩ := hc (by omega)
      have hck := hcell k hlt
      have b0 := bt_lo l k
      have b1 := bt_hi l k
      have h0 := accTo_lo l k
      clear hcell hc hl
      have HS : Hid (k ≤ 9 → (k = 9 → bt l k ≤ 1) → bits BinOp.or IntKind.u64 (accTo l k) (IntKind.u64.wrap (IntKind.u64.wrap (bits BinOp.andNot IntKind.u8 (bt l k) 128) * 2 ^ (7 * k))) = accTo l (k + 1)) :=
        fun h1 h2 => by rw [or_step l (bt l k) k b0 b1 h1 h2, accTo_succ]
      have NB : Hid (brokenB k (bt l k) = true → num l = (0, 0, 8)) := num_broken HN.out hlt
      have NL : Hid (brokenB k (bt l k) = false → bt l k < 128 → num l = (accTo l (k + 1), k + 1, 0)) := num_last HN.out hlt
      have NN : Hid (brokenB k (bt l k) = false → ¬ bt l k < 128 → num l = numFrom l (n - (k + 1)) (k + 1)) := num_next HN.out hlt
      clear HN
      generalize bt l k = c at *
      by_cases h9 : k = 9
      · subst h9
        by_cases hc1 : 1 < c
        · go_wp2
          go_ret3
          exact ⟨ret3_of (NB.out (by simp [brokenB]; omega)) (by omega), rfl⟩
        · by_cases hz : c = 0
          · subst hz
            go_wp2
            go_ret3
            exact ⟨ret3_of (NB.out (by simp [brokenB])) (by omega), rfl⟩
          · have cz : (c == 0) = false := by simpa using hz
            have h8 : c < 128 := by omega
            go_wp2
            go_ret3
            have hs := HS.out (by omega) (fun _ => by omega)
            rw [show (2 : Int) ^ (7 * 9) = 9223372036854775808 from by decide] at hs
            exact ⟨ret3_of (by rw [NL.out (by simp [brokenB]; omega) h8, hs]; rfl) (by omega), rfl⟩
      · have k9 : ((k : Int) == 9) = false := by simp; omega
        by_cases hk0 : ¬ 0 < k
        · by_cases h8 : c < 128
          · go_wp2
            go_ret3
            exact ⟨ret3_of (by rw [NL.out (by simp [brokenB]; omega) h8, HS.out (by omega) (by omega)]; congr 2) (by omega), rfl⟩
          · go_wp2
            go_round
            case rel => exact ⟨k + 1, by omega, by omega, by go_num, by rw [HS.out (by omega) (by omega)], NN.out (by simp [brokenB]; omega) h8⟩
            case measure => simp [intOf]; omega
        · have kp : 0 < k := by omega
          by_cases hz : c = 0
          · subst hz
            go_wp2
            go_ret3
            exact ⟨ret3_of (NB.out (by simp [brokenB]; omega)) (by omega), rfl⟩
          · have cz : (c == 0) = false := by simpa using hz
            by_cases h8 : c < 128
            · go_wp2
              go_ret3
              exact ⟨ret3_of (by rw [NL.out (by simp [brokenB]; omega) h8, HS.out (by omega) (by omega)]; congr 2) (by omega), rfl⟩
            · go_wp2
              go_round
              case rel => exact ⟨k + 1, by omega, by omega, by go_num, by rw [HS.out (by omega) (by omega)], NN.out (by simp [brokenB]; omega) h8⟩
              case measure => simp [intOf]; omega
    · have NS := num_short HN.out hlt
      clear HN
      have NS' : Hid (num l = (0, 0, 110)) := NS
      clear NS
      go_wp2
      go_ret3
      exact ⟨ret3_of (by rw [NS'.out]; rfl) (by omega), rfl⟩

end Go.Proofs.YtdjodigimhgklaaGreatDoor
