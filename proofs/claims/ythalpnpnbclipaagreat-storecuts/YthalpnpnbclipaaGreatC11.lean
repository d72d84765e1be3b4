import Derived.Test.YthalpnpnbclipaaGreatC08
import Derived.Test.YthalpnpnbclipaaGreatC10
import Derived.Deep.QuietTactic
import Derived.BigQuiet
/- What puts the bytes together: counts, words, texts. -/
namespace Go.Proofs.YthalpnpnbclipaaGreat
open Go.RowKit

/-- blocks of another type than bytes stand, but for B -/
def Keeps (B : Nat) (W W' : World) : Prop := ∀ K cs t, W.heap[K]? = some (.cells cs t (0, 0)) → t ≠ 5 → K ≠ B → W'.heap[K]? = some (.cells cs t (0, 0))
theorem Keeps.trans {B : Nat} {X Y Z : World} (h : Keeps B X Y) (k : Keeps B Y Z) : Keeps B X Z := fun K cs t a b c => k K cs t (h K cs t a b c) b c
theorem Keeps.of {B : Nat} {X Y : World} (h : Below X.heap.size X Y) : Keeps B X Y := fun K _ _ a _ _ => (h.block K (Array.getElem?_eq_some_iff.1 a).1).trans a

set_option maxRecDepth 20000 in
theorem put_any2 (w0 : World) (B : Nat) (l : List UInt8) (a : Option Addr) (n c : Nat) (m : List UInt8) (W : World) (h : OOut w0 B l W) (hb : Bytes W a n m) (hnil : a = none → n = 0 ∧ c = 0) (hm : l.length + n ≤ 140737488355328) :
    Calls Tryz.prog 99 #[.slice a n c, .pointer (some ⟨B, 0, none⟩)] W fun e W' => e = .returned (.tuple #[]) ∧ OOut w0 B (l ++ m) W' ∧ Keeps B W W' := by
  obtain ⟨v, hv, ho⟩ := h.box
  have cv := hv.cell
  have hsz := h.bel.size
  have d1 : 36 ≠ 5 := by decide
  go_enter Tryz.func99, Tryz.ntmps99
  go_wp2_with (at_builtin; refine wpList_app _ w0.heap.size hsz rfl _ _ rfl v l.length _ rfl ho a n c m rfl hb hnil hm ?_; intro v' W2 ho2 hg2 _; have hv2 : Boxed W2 B 36 v := hv.kept hg2 (hv.not_row d1 ho); have c2 := hv2.cell; have f2 := hv2.frozen; obtain ⟨ad, cp, rfl, _⟩ := row_shape ho2)
  go_end0
  refine ⟨rfl, ⟨⟨_, hv2.set _, ?_⟩, ?_, h.le⟩, fun K cs t hK ht hKB => ?_⟩
  · rw [List.length_append, hb.1, cellsOf_append]
    exact ho2.kept (grownBy_setCell' W2 B _) (.inr (hv2.not_row d1 ho2).symm)
  · exact (h.bel.grown hg2 hsz (fun k hk => (row_block ho k hk).1)).setCell (p := ⟨B, 0, none⟩) h.le _
  · have hlt : K < W.heap.size := (Array.getElem?_eq_some_iff.1 hK).1
    have h2 : W2.heap[K]? = some (.cells cs t (0, 0)) := (hg2.block K hlt (fun e => by
      obtain ⟨_, _, cur, hcur⟩ := row_block ho K e.symm
      rw [hK] at hcur
      cases hcur
      exact ht rfl)).trans hK
    exact (Below.heap_setCell _ _ _ _ hKB).trans h2

abbrev putV (B : Nat) : Value := .func (.func 99) #[] #[.pointer (some ⟨B, 0, none⟩)]
theorem grown_below {w w' : World} (h : w.grownBy w' none) : Below w.heap.size w w' := (Below.refl _ w).grown h (Nat.le_refl _) (by simp)

theorem count_any (w0 : World) (B : Nat) (l : List UInt8) (x : Nat) (W : World) (h : OOut w0 B l W) (hx : x < 9223372036854775808) (hm : l.length ≤ 70368744177664) :
    Calls Tryz.prog 123 #[putV B, .int .i64 (x : Int)] W fun e W' => e = .returned (.tuple #[]) ∧ OOut w0 B (l ++ short x) W' ∧ Keeps B W W' := by
  have hs := short_len x
  have hp := putUint_any none 0 0 x [] W ⟨rfl, fun h => absurd h (by omega)⟩ (by omega) (by omega)
  simp only [Nat.zero_add, List.nil_append] at hp
  go_enter Tryz.func123, Tryz.ntmps123
  go_wp2_with first
    | (go_at_call 134; refine hp.mono ?_; clear hp; rintro e w1 ⟨g, c, rfl, ho, hg⟩; have hB := grown_below hg; have hO := h.below hB; have hby := row_bytes ho; clear ho hg)
    | (go_at_call 99; refine (put_any2 w0 B l (some ⟨g, 0, none⟩) _ c (short x) _ hO hby (fun h => by cases h) (by omega)).mono ?_; rintro e w2 ⟨rfl, hO2, hK⟩)
  go_end0
  exact ⟨rfl, hO2, (Keeps.of hB).trans hK⟩
theorem word_any (w0 : World) (B : Nat) (l : List UInt8) (x : Nat) (W : World) (h : OOut w0 B l W) (hx : x < 18446744073709551616) (hm : l.length ≤ 70368744177664) :
    Calls Tryz.prog 126 #[putV B, .int .u64 (x : Int)] W fun e W' => e = .returned (.tuple #[]) ∧ OOut w0 B (l ++ wide x) W' ∧ Keeps B W W' := by
  have hp := putWord_any none 0 0 x [] W ⟨rfl, fun h => absurd h (by omega)⟩ (by omega) hx
  simp only [Nat.zero_add, List.nil_append] at hp
  go_enter Tryz.func126, Tryz.ntmps126
  go_wp2_with first
    | (go_at_call 83; refine hp.mono ?_; clear hp; rintro e w1 ⟨g, c, rfl, ho, hg⟩; have hB := grown_below hg; have hO := h.below hB; have hby := row_bytes ho; clear ho hg)
    | (go_at_call 99; refine (put_any2 w0 B l (some ⟨g, 0, none⟩) _ c (wide x) _ hO hby (fun h => by cases h) (by omega)).mono ?_; rintro e w2 ⟨rfl, hO2, hK⟩)
  go_end0
  exact ⟨rfl, hO2, (Keeps.of hB).trans hK⟩
theorem text_any (w0 : World) (B : Nat) (l : List UInt8) (s : ByteArray) (W : World) (h : OOut w0 B l W) (hs : s.size ≤ 1099511627776) (hm : l.length ≤ 70368744177664) :
    Calls Tryz.prog 124 #[putV B, .string s] W fun e W' => e = .returned (.tuple #[]) ∧ OOut w0 B (l ++ (short s.size ++ s.data.toList)) W' ∧ Keeps B W W' := by
  have hsl : (short s.size).length ≤ 10 := short_len s.size
  have hp := putText_any none 0 0 s [] W ⟨rfl, fun h => absurd h (by omega)⟩ (by omega)
  simp only [Nat.zero_add, List.nil_append] at hp
  go_enter Tryz.func124, Tryz.ntmps124
  go_wp2_with first
    | (go_at_call 84; refine hp.mono ?_; clear hp; rintro e w1 ⟨g, m, c, hmm, rfl, ho, hg⟩; have hml : m ≤ 2199023255552 := (by omega); clear hmm; have hB := grown_below hg; have hO := h.below hB; have hby := row_bytes ho; clear ho hg)
    | (go_at_call 99; refine (put_any2 w0 B l (some ⟨g, 0, none⟩) m c (short s.size ++ s.data.toList) _ hO hby (fun h => by cases h) (by omega)).mono ?_; rintro e w2 ⟨rfl, hO2, hK⟩)
  go_end0
  exact ⟨rfl, hO2, (Keeps.of hB).trans hK⟩
theorem entryMark_any (b : Bool) (w : World) : Calls Tryz.prog 125 #[.bool b] w fun e w' => e = .returned (.int .u8 (if b then 1 else 0)) ∧ w' = w := by
  cases b
  · go_enter Tryz.func125, Tryz.ntmps125
    go_wp2
    go_ret
    exact ⟨rfl, rfl⟩
  · go_enter Tryz.func125, Tryz.ntmps125
    go_wp2
    go_ret
    exact ⟨rfl, rfl⟩

/-- the bytes of entries -/
def entB (x : Ent) : List UInt8 := (short x.1.size ++ x.1.data.toList) ++ [if x.2.1 then 1 else 0] ++ wide x.2.2.toNat
def entsB (l : List Ent) : List UInt8 := (l.map entB).flatten
theorem entsB_take (l : List Ent) (k : Nat) (x : Ent) (h : l[k]? = some x) : entsB (l.take (k + 1)) = entsB (l.take k) ++ entB x := by
  unfold entsB
  rw [List.take_add_one, h]
  simp
/-- entries whose fields are as long and great as may be -/
structure Fits (l : List Ent) : Prop where
  name : ∀ (j : Nat) x, l[j]? = some x → x.1.size ≤ 32
  id : ∀ (j : Nat) x, l[j]? = some x → 0 ≤ x.2.2 ∧ x.2.2 < 18446744073709551616
theorem owide_len (x : Nat) : (wide x).length = 8 := by simp [wide, wideTo]
theorem entsB_len (l : List Ent) (h : Fits l) (k : Nat) (hk : k ≤ l.length) : (entsB (l.take k)).length ≤ k * 51 := by
  induction k with
  | zero => simp [entsB]
  | succ k ih =>
    have h1 := ih (by omega)
    obtain ⟨x, hx⟩ : ∃ x, l[k]? = some x := ⟨_, List.getElem?_eq_getElem (by omega)⟩
    rw [entsB_take l k x hx]
    have h2 := h.name k x hx
    have h3 := short_len x.1.size
    have h4 := owide_len x.2.2.toNat
    have h5 : x.1.data.toList.length = x.1.size := by simp
    simp only [entB, List.length_append, List.length_singleton, h4, h5]
    omega
theorem Keeps.box3 {B : Nat} {W W' : World} {g : Nat} {u0 u1 u2 : Value} (h : Keeps B W W') (hb : Box3 W g u0 u1 u2) (hg : g ≠ B) : Box3 W' g u0 u1 u2 := h g _ _ hb (by decide) hg

set_option maxRecDepth 100000 in
set_option maxHeartbeats 4000000 in
theorem putTree_any (w0 : World) (B : Nat) (l0 : List UInt8) (a : Option Addr) (n c : Nat) (l : List Ent) (W : World) (h : OOut w0 B l0 W) (hE : Ents w0 a n l) (hF : Fits l) (hn : n ≤ 256) (hl0 : l0.length ≤ 1024) :
    Calls Tryz.prog 100 #[putV B, .agg #[.slice a n c]] W fun e W' => e = .returned (.tuple #[]) ∧ OOut w0 B (l0 ++ (short n ++ entsB l)) W' ∧ Keeps B W W' := by
  have hll := hE.1
  have hsn := short_len n
  obtain ⟨v, hv, _⟩ := h.box
  have hBW := hv.lt
  have hK0 : Keeps B W (W.alloc (.cells #[.slice a n c] 69)) := Keeps.of ((Below.refl _ _).alloc (Nat.le_refl _) _)
  have bx0 : (W.alloc (.cells #[.slice a n c] 69)).heap[W.heap.size]? = some (.cells #[.slice a n c] 69 (0, 0)) := World.alloc_heap_new _ _
  have H0 : Hid (Keeps B W (W.alloc (.cells #[.slice a n c] 69))) := hK0
  have hO0 := h.alloc (.cells #[.slice a n c] 69)
  clear hv hK0
  go_enter Tryz.func100, Tryz.ntmps100
  go_wp2_with (go_at_call 123; refine (count_any w0 B l0 n _ hO0 (by omega) (by omega)).mono ?_; rintro e w1 ⟨rfl, hO1, hK1⟩; have bx1 : Boxed w1 W.heap.size 69 (.slice a n c) := hK1 _ _ _ bx0 (by decide) (by omega); have cb1 := bx1.cell; have H1 : Hid (OOut w0 B (l0 ++ short n ++ entsB (l.take 0)) w1 ∧ Keeps B W w1) := ⟨by simpa [entsB] using hO1, H0.out.trans hK1⟩; clear hO1 hK1 hO0 bx0 H0)
  go_loopw [14] (fun i wr => ∃ k : Nat, k ≤ n ∧ i = .int .i64 (k : Int) ∧ Hid (OOut w0 B (l0 ++ short n ++ entsB (l.take k)) wr ∧ Keeps B W wr)) (fun i _ => n - (intOf i).toNat)
  case atStart => exact ⟨0, Nat.zero_le _, rfl, H1.out⟩
  case round =>
    clear H1 cb1 bx1
    obtain ⟨k, hk, rfl, H⟩ := hrel
    by_cases hlt : k < n
    · obtain ⟨x, hx⟩ : ∃ x, l[k]? = some x := ⟨_, List.getElem?_eq_getElem (by omega)⟩
      obtain ⟨b1, o1, rfl, hc1⟩ := hE.2 (by omega)
      obtain ⟨t1, t2, t3⟩ := hc1 k x hx
      have hBw := H.out.1.bel
      have q1 := (hBw.cell (p := ⟨b1, o1 + k * 3, none⟩) (World.block_lt_of_cell? w0 _ t1)).trans t1
      have q2 := (hBw.cell (p := ⟨b1, o1 + k * 3 + 1, none⟩) (World.block_lt_of_cell? w0 _ t2)).trans t2
      have q3 := (hBw.cell (p := ⟨b1, o1 + k * 3 + 2, none⟩) (World.block_lt_of_cell? w0 _ t3)).trans t3
      have i2 : (k : Int) < (n : Int) := by omega
      have i3 : ¬ n ≤ k := by omega
      have HT := entsB_take l k x hx
      have hln := entsB_len l hF k (by omega)
      have hsz := hF.name k x hx
      have hid := hF.id k x hx
      obtain ⟨nm, fo, id⟩ := x
      simp only at q1 q2 q3 hsz hid HT
      obtain ⟨y, rfl⟩ := Int.eq_ofNat_of_zero_le hid.1
      have HTe : Hid (l0 ++ short n ++ entsB (l.take (k + 1)) = l0 ++ short n ++ entsB (l.take k) ++ (short nm.size ++ nm.data.toList) ++ [if fo then 1 else 0] ++ wide y) := by
        show _ = _
        rw [HT]
        simp [entB]
      generalize hP : l0 ++ short n ++ entsB (l.take k) = P at *
      have hPl : P.length ≤ 16384 := by rw [← hP]; simp only [List.length_append]; omega
      have hsm := short_len nm.size
      clear hP hc1 hx t1 t2 t3 hBw HT hln
      have bx : Box3 (wr.alloc (.cells #[.string nm, .bool fo, .int .u64 (y : Int)] 127)) wr.heap.size (.string nm) (.bool fo) (.int .u64 (y : Int)) := Box3.new wr _ _ _
      obtain ⟨vv, hvv, _⟩ := H.out.1.box
      have hBr := hvv.lt
      clear hvv
      have hO2 := H.out.1.alloc (.cells #[.string nm, .bool fo, .int .u64 (y : Int)] 127)
      have HK2 : Hid (Keeps B W (wr.alloc (.cells #[.string nm, .bool fo, .int .u64 (y : Int)] 127))) := H.out.2.trans (Keeps.of ((Below.refl _ _).alloc (Nat.le_refl _) _))
      cases fo with
      | false =>
        have hem : ∀ w, Calls Tryz.prog 125 #[.bool false] w fun e w' => e = .returned (.int .u8 0) ∧ w' = w := fun w => entryMark_any false w
        simp only [Bool.false_eq_true, if_false] at HTe
        go_wp2_with first
          | (go_at_call 124; refine (text_any w0 B P nm _ hO2 (by omega) (by omega)).mono ?_; rintro e x3 ⟨rfl, hO3, hK3⟩; have bx3 := hK3.box3 bx (by omega); obtain ⟨c0, c1, c2⟩ := bx3.cell; have HK3 : Hid (Keeps B W x3) := HK2.out.trans hK3; clear hK3 hO2 HK2 bx)
          | (go_at_call 125; refine (hem _).mono ?_; clear hem; rintro e x3' ⟨rfl, hx3⟩; subst hx3)
          | (go_at_call 99; refine (put_any2 w0 B _ (some ⟨_, 0, none⟩) 1 1 [0] _ (hO3.alloc _) (bytes_new _ [0] _ rfl) (fun h => by cases h) (by simp only [List.length_append]; have : nm.data.toList.length = nm.size := (by simp); omega)).mono ?_; rintro e x4 ⟨rfl, hO4, hK4⟩; have bx4 := hK4.box3 (bx3.below ((Below.refl _ _).alloc (Nat.le_refl _) _) bx3.lt) (by omega); obtain ⟨d0, d1, d2⟩ := bx4.cell; have HK4 : Hid (Keeps B W x4) := (HK3.out.trans (Keeps.of ((Below.refl _ _).alloc (Nat.le_refl _) _))).trans hK4; clear hK4 hO3 HK3 bx3 c0 c1 c2 bx4)
          | (go_at_call 126; refine (word_any w0 B _ y _ hO4 (by omega) (by simp only [List.length_append, List.length_singleton]; have : nm.data.toList.length = nm.size := (by simp); omega)).mono ?_; rintro e x5 ⟨rfl, hO5, hK5⟩; have HF5 : Hid (OOut w0 B (l0 ++ short n ++ entsB (l.take (k + 1))) x5 ∧ Keeps B W x5) := ⟨by rw [HTe.out]; exact hO5, HK4.out.trans hK5⟩; clear hK5 hO5 hO4 HK4)
        go_roundw
        case rel => exact ⟨k + 1, by omega, by simp, HF5.out⟩
        case measure => simp [intOf]; omega
      | true =>
        have hem : ∀ w, Calls Tryz.prog 125 #[.bool true] w fun e w' => e = .returned (.int .u8 1) ∧ w' = w := fun w => entryMark_any true w
        simp only [if_true] at HTe
        go_wp2_with first
          | (go_at_call 124; refine (text_any w0 B P nm _ hO2 (by omega) (by omega)).mono ?_; rintro e x3 ⟨rfl, hO3, hK3⟩; have bx3 := hK3.box3 bx (by omega); obtain ⟨c0, c1, c2⟩ := bx3.cell; have HK3 : Hid (Keeps B W x3) := HK2.out.trans hK3; clear hK3 hO2 HK2 bx)
          | (go_at_call 125; refine (hem _).mono ?_; clear hem; rintro e x3' ⟨rfl, hx3⟩; subst hx3)
          | (go_at_call 99; refine (put_any2 w0 B _ (some ⟨_, 0, none⟩) 1 1 [1] _ (hO3.alloc _) (bytes_new _ [1] _ rfl) (fun h => by cases h) (by simp only [List.length_append]; have : nm.data.toList.length = nm.size := (by simp); omega)).mono ?_; rintro e x4 ⟨rfl, hO4, hK4⟩; have bx4 := hK4.box3 (bx3.below ((Below.refl _ _).alloc (Nat.le_refl _) _) bx3.lt) (by omega); obtain ⟨d0, d1, d2⟩ := bx4.cell; have HK4 : Hid (Keeps B W x4) := (HK3.out.trans (Keeps.of ((Below.refl _ _).alloc (Nat.le_refl _) _))).trans hK4; clear hK4 hO3 HK3 bx3 c0 c1 c2 bx4)
          | (go_at_call 126; refine (word_any w0 B _ y _ hO4 (by omega) (by simp only [List.length_append, List.length_singleton]; have : nm.data.toList.length = nm.size := (by simp); omega)).mono ?_; rintro e x5 ⟨rfl, hO5, hK5⟩; have HF5 : Hid (OOut w0 B (l0 ++ short n ++ entsB (l.take (k + 1))) x5 ∧ Keeps B W x5) := ⟨by rw [HTe.out]; exact hO5, HK4.out.trans hK5⟩; clear hK5 hO5 hO4 HK4)
        go_roundw
        case rel => exact ⟨k + 1, by omega, by simp, HF5.out⟩
        case measure => simp [intOf]; omega
    · obtain rfl : k = n := by omega
      have i2 : ¬ (k : Int) < (k : Int) := by omega
      go_wp2
      go_end0
      refine ⟨rfl, ?_, H.out.2⟩
      have := H.out.1
      rw [← hll, List.take_length, List.append_assoc] at this
      rw [hll] at this
      exact this
end Go.Proofs.YthalpnpnbclipaaGreat

/- The document's check of a tree. -/
namespace Go.Proofs.YthalpnpnbclipaaGreat
open Go.RowKit

attribute [local go_sem] Oper.semAt_some

theorem sle_none (nm : ByteArray) (h : (spot (bs nm)).1 = 0) : sle nm ⟨#[]⟩ = false := by
  have hne : nm.toList ≠ [] := by
    intro e
    rw [toList_bs] at e
    rw [e] at h
    exact absurd h (by decide)
  unfold sle
  have : (⟨#[]⟩ : ByteArray).toList = [] := by rw [toList_bs]; rfl
  rw [this]
  cases hn : nm.toList with
  | nil => exact absurd hn hne
  | cons x r => rfl

set_option maxRecDepth 100000 in
set_option maxHeartbeats 8000000 in
theorem refCheckTree_any (a : Option Addr) (n c : Nat) (l : List Ent) (w : World) (h : Ents w a n l) (hs : Short l) (hn : n ≤ 9223372036854775807) :
    Calls Tryz.prog 66 #[.slice a n c] w fun e w' => e = .returned (.int .i64 (treeErrs l)) ∧ Below w.heap.size w w' := by
  have hll := h.1
  have hlq := run_leq
  by_cases h256 : 256 < n
  · have i1 : (256 : Int) < n := by omega
    have e1 : treeErrs l = 3 := by unfold treeErrs; rw [if_pos (by omega)]
    go_enter Tryz.func66, Tryz.ntmps66
    go_wp2
    go_ret
    exact ⟨by rw [e1]; rfl, Below.refl _ _⟩
  · have i1 : ¬ (256 : Int) < n := by omega
    have e1 : treeErrs l = treeErr ⟨#[]⟩ l := by unfold treeErrs; rw [if_neg (by omega)]
    rw [e1]
    obtain ⟨E, hE⟩ : ∃ E, E = treeErr ⟨#[]⟩ l := ⟨_, rfl⟩
    rw [← hE]
    go_enter Tryz.func66, Tryz.ntmps66
    go_wp2
    go_loopw [11] (fun i wr => ∃ (k : Nat) (s : ByteArray), k ≤ n ∧ i = .int .i64 (k : Int) ∧ Hid (E = treeErr s (l.drop k) ∧ (k = 0 → s = ⟨#[]⟩) ∧ (∀ x, 0 < k → l[k - 1]? = some x → s = x.1) ∧ Below w.heap.size w wr)) (fun i _ => n - (intOf i).toNat)
    case atStart => exact ⟨0, _, Nat.zero_le _, rfl, hE, fun _ => rfl, fun _ h => by omega, Below.refl _ _⟩
    case round =>
      clear hE e1
      obtain ⟨k, s, hk, rfl, H⟩ := hrel
      by_cases hlt : k < n
      · obtain ⟨x, hx⟩ : ∃ x, l[k]? = some x := ⟨_, List.getElem?_eq_getElem (by omega)⟩
        obtain ⟨b1, o1, rfl, hc1⟩ := h.2 (by omega)
        obtain ⟨t1, t2, t3⟩ := hc1 k x hx
        have hBw := H.out.2.2.2
        have q1 := (hBw.cell (p := ⟨b1, o1 + k * 3, none⟩) (World.block_lt_of_cell? w _ t1)).trans t1
        have q2 := (hBw.cell (p := ⟨b1, o1 + k * 3 + 1, none⟩) (World.block_lt_of_cell? w _ t2)).trans t2
        have q3 := (hBw.cell (p := ⟨b1, o1 + k * 3 + 2, none⟩) (World.block_lt_of_cell? w _ t3)).trans t3
        have hd := treeErr_drop s l k x hx
        have hck := fun w => refSpot_any x.1 w (hs k x hx)
        have i2 : (k : Int) < (n : Int) := by omega
        have i3 : ¬ n ≤ k := by omega
        have HD : Hid (treeErr s (l.drop k) = if (spot (bs x.1)).1 ≠ 0 then ((spot (bs x.1)).1 : Int) else if sle x.1 s then 161 else if x.2.2 = 0 then 2 else treeErr x.1 (l.drop (k + 1))) := hd
        have HX : Hid (l[k]? = some x) := hx
        have HP : Hid (0 < k → ∀ W, Below w.heap.size w W → W.cell? ⟨b1, o1 + (k - 1) * 3, none⟩ = some (.string s)) := fun h0 W hW => by
          obtain ⟨y, hy⟩ : ∃ y, l[k - 1]? = some y := ⟨_, List.getElem?_eq_getElem (by omega)⟩
          rw [H.out.2.2.1 y h0 hy]
          obtain ⟨u1, _, _⟩ := hc1 (k - 1) y hy
          exact (hW.cell (p := ⟨b1, o1 + (k - 1) * 3, none⟩) (World.block_lt_of_cell? w _ u1)).trans u1
        have HZ : Hid ((spot (bs x.1)).1 = 0 → k = 0 → sle x.1 s = false) := fun h1 h2 => by rw [H.out.2.1 h2]; exact sle_none _ h1
        clear hc1 hx t1 t2 t3 hd h
        obtain ⟨nm, fo, id⟩ := x
        simp only at q1 q2 q3 hck HD HZ
        obtain ⟨se, sp⟩ : ∃ se, se = spot (bs nm) := ⟨_, rfl⟩
        rw [← sp] at hck HD HZ
        clear sp
        simp only [spotV] at hck
        obtain ⟨se1, se2⟩ := se
        simp only at hck HD HZ
        by_cases h1 : se1 = 0
        · subst h1
          rw [if_neg (by simp)] at HD
          simp only [show ((0 : Nat) : Int) = 0 from rfl] at hck
          go_wp2_with (go_at_call 94; refine (hck _).mono ?_; clear hck; rintro e w2 ⟨rfl, hB2⟩; have hs2 := hB2.size; obtain ⟨c0, c1, c2⟩ := ((Box3.new wr (.string nm) (.bool fo) (.int .u64 id)).below (hB2.alloc hB2.size (.cells #[.int .i64 0, .int .i64 (se2 : Int)] 153)) (by simp)).cell; have HB : Hid (Below w.heap.size w (w2.alloc (.cells #[.int .i64 0, .int .i64 (se2 : Int)] 153))) := ((hBw.alloc hBw.size _).trans (hB2.mono (by simp; have := hBw.size; omega))).alloc (by have := hBw.size; have := hB2.size; simp at this; omega) _; clear hB2)
          clear q1 q2 q3
          cases k with
          | zero =>
            have h2 := HZ.out trivial rfl
            rw [if_neg (by rw [h2]; simp)] at HD
            simp only [show ((0 : Nat) : Int) = 0 from rfl] at i2 ⊢
            go_quiet (fail)
            by_cases h3 : id = 0
            · rw [if_pos h3] at HD
              subst h3
              have HE : Hid (E = 2) := H.out.1.trans HD.out
              clear HD
              go_wp2_with fail
              go_ret
              exact ⟨by rw [HE.out]; rfl, below_drewN HB.out _⟩
            · rw [if_neg h3] at HD
              have h3' : (id == 0) = false := beq_eq_false_iff_ne.2 h3
              have HE : Hid (E = treeErr nm (l.drop 1)) := H.out.1.trans HD.out
              clear HD
              go_wp2_with fail
              go_roundw
              case rel => exact ⟨1, nm, by omega, by simp, HE.out, fun h => by omega, fun x _ hx => by have := HX.out; rw [hx] at this; cases this; rfl, below_drewN HB.out _⟩
              case measure => simp [intOf]; omega
          | succ j =>
            have cp := HP.out (by omega) _ HB.out
            simp only [Nat.add_sub_cancel] at cp
            have hq := run_leq nm s
            clear hlq
            by_cases h2 : sle nm s = true
            · rw [if_pos h2] at HD
              rw [h2] at hq
              clear h2
              go_quiet (fail)
              have HE : Hid (E = 161) := H.out.1.trans HD.out
              clear HD
              go_wp2_with fail
              go_ret
              exact ⟨by rw [HE.out]; rfl, below_drewN HB.out _⟩
            · rw [if_neg h2] at HD
              rw [show sle nm s = false by simpa using h2] at hq
              clear h2
              go_quiet (fail)
              by_cases h3 : id = 0
              · rw [if_pos h3] at HD
                subst h3
                have HE : Hid (E = 2) := H.out.1.trans HD.out
                clear HD
                go_wp2_with fail
                go_ret
                exact ⟨by rw [HE.out]; rfl, below_drewN HB.out _⟩
              · rw [if_neg h3] at HD
                have h3' : (id == 0) = false := beq_eq_false_iff_ne.2 h3
                have HE : Hid (E = treeErr nm (l.drop (j + 1 + 1))) := H.out.1.trans HD.out
                clear HD
                go_wp2_with fail
                go_roundw
                case rel => exact ⟨j + 1 + 1, nm, by omega, by simp, HE.out, fun h => by omega, fun x _ hx => by have := HX.out; rw [Nat.add_sub_cancel] at hx; rw [hx] at this; cases this; rfl, below_drewN HB.out _⟩
                case measure => simp [intOf]; omega
        · rw [if_pos h1] at HD
          have h1' : ((se1 : Int) == 0) = false := beq_eq_false_iff_ne.2 (by omega)
          have HE : Hid (E = (se1 : Int)) := H.out.1.trans HD.out
          clear HD
          go_wp2_with (go_at_call 94; refine (hck _).mono ?_; clear hck; rintro e w2 ⟨rfl, hB2⟩; have hs2 := hB2.size; obtain ⟨c0, c1, c2⟩ := ((Box3.new wr (.string nm) (.bool fo) (.int .u64 id)).below (hB2.alloc hB2.size (.cells #[.int .i64 (se1 : Int), .int .i64 (se2 : Int)] 153)) (by simp)).cell; have HB : Hid (Below w.heap.size w (w2.alloc (.cells #[.int .i64 (se1 : Int), .int .i64 (se2 : Int)] 153))) := ((hBw.alloc hBw.size _).trans (hB2.mono (by simp; have := hBw.size; omega))).alloc (by have := hBw.size; have := hB2.size; simp at this; omega) _; clear hB2)
          go_ret
          exact ⟨by rw [HE.out]; rfl, HB.out⟩
      · obtain rfl : k = n := by omega
        have i2 : ¬ (k : Int) < (k : Int) := by omega
        have e0 : E = 0 := by rw [H.out.1, ← hll]; exact treeErr_end _ _
        subst e0
        go_wp2
        go_ret
        exact ⟨rfl, H.out.2.2.2⟩
end Go.Proofs.YthalpnpnbclipaaGreat
