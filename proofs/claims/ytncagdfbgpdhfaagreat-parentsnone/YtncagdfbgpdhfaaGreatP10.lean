import Derived.Test.YtncagdfbgpdhfaaGreatP09
import Derived.Test.YtncagdfbgpdhfaaGreatP07
import Derived.Test.YtncagdfbgpdhfaaGreatP08
/- What is wrong with a commit: the program's check. -/
namespace Go.Proofs.YtncagdfbgpdhfaaGreat
open Go.RowKit

attribute [local go_sem] Oper.semAt_some

def parL : List Int → Int
  | [] => 0
  | x :: r => if x = 0 then 2 else parL r
def parErr (l : List Int) : Int := if 8 < l.length then 3 else parL l
def txtErr (s : ByteArray) (m : Nat) : Int := if m < s.size then 3 else if rightL (bs s) then 0 else 162
def comErr (t : Int) (ps : List Int) (au tx : ByteArray) : Int := if t = 0 then 2 else if parErr ps ≠ 0 then parErr ps else if txtErr au 64 ≠ 0 then txtErr au 64 else txtErr tx 1024
theorem parL_drop (l : List Int) (k : Nat) (x : Int) (h : l[k]? = some x) : parL (l.drop k) = if x = 0 then 2 else parL (l.drop (k + 1)) := by
  have hk := (List.getElem?_eq_some_iff.1 h).1
  rw [List.drop_eq_getElem_cons hk]
  have : l[k] = x := (List.getElem?_eq_some_iff.1 h).2
  rw [this]
  rfl
theorem parL_end (l : List Int) : parL (l.drop l.length) = 0 := by rw [List.drop_length]; rfl

theorem checkParents_any (a : Option Addr) (n c : Nat) (l : List Int) (w : World) (h : Ids w a n l) (hn : n ≤ 9223372036854775807) :
    Calls Tryz.prog 132 #[.slice a n c] w fun e w' => e = .returned (.int .i64 (parErr l)) ∧ w' = w := by
  have hll := h.1
  by_cases h8 : 8 < n
  · have i1 : (8 : Int) < n := by omega
    have e1 : parErr l = 3 := by unfold parErr; rw [if_pos (by omega)]
    rw [e1]
    go_enter Tryz.func132, Tryz.ntmps132
    go_wp2
    go_ret
    exact ⟨rfl, rfl⟩
  · have i1 : ¬ (8 : Int) < n := by omega
    have e1 : parErr l = parL l := by unfold parErr; rw [if_neg (by omega)]
    rw [e1]
    obtain ⟨E, hE⟩ : ∃ E, E = parL l := ⟨_, rfl⟩
    rw [← hE]
    go_enter Tryz.func132, Tryz.ntmps132
    go_wp2
    go_loopw [10] (fun i wr => ∃ k : Nat, k ≤ n ∧ i = .int .i64 (k : Int) ∧ Hid (E = parL (l.drop k) ∧ wr = w)) (fun i _ => n - (intOf i).toNat)
    case atStart => exact ⟨0, Nat.zero_le _, rfl, hE, rfl⟩
    case round =>
      clear hE e1
      obtain ⟨k, hk, rfl, H⟩ := hrel
      have hwr := H.out.2
      subst hwr
      by_cases hlt : k < n
      · obtain ⟨x, hx⟩ : ∃ x, l[k]? = some x := ⟨_, List.getElem?_eq_getElem (by omega)⟩
        obtain ⟨b1, o1, rfl, hc1⟩ := h.2 (by omega)
        have q := hc1 k x hx
        have HD : Hid (parL (l.drop k) = if x = 0 then 2 else parL (l.drop (k + 1))) := parL_drop l k x hx
        have i2 : (k : Int) < (n : Int) := by omega
        have i3 : ¬ n ≤ k := by omega
        clear hc1 hx
        by_cases h0 : x = 0
        · subst h0
          have e0 : E = 2 := H.out.1.trans (by rw [HD.out, if_pos rfl])
          subst e0
          go_wp2
          go_ret
          exact ⟨rfl, rfl⟩
        · have h0' : (x == 0) = false := beq_eq_false_iff_ne.2 h0
          have HE : Hid (E = parL (l.drop (k + 1))) := H.out.1.trans (by rw [HD.out, if_neg h0])
          go_wp2
          go_roundw
          case rel => exact ⟨k + 1, by omega, by simp, HE.out, by trivial⟩
          case measure => simp [intOf]; omega
      · obtain rfl : k = n := by omega
        have i2 : ¬ (k : Int) < (k : Int) := by omega
        have e0 : E = 0 := by rw [H.out.1, ← hll]; exact parL_end _
        subst e0
        go_wp2
        go_ret
        exact ⟨rfl, rfl⟩
theorem checkText_any (s : ByteArray) (m : Nat) (w : World) (hs : s.size ≤ maxLen) :
    Calls Tryz.prog 133 #[.string s, .int .i64 (m : Int)] w fun e w' => e = .returned (.int .i64 (txtErr s m)) ∧ Below w.heap.size w w' := by
  have hr := right_any s w hs
  unfold txtErr
  by_cases h : m < s.size
  · have i1 : (m : Int) < s.size := by omega
    rw [if_pos h]
    go_enter Tryz.func133, Tryz.ntmps133
    go_wp2
    go_ret
    exact ⟨rfl, Below.refl _ _⟩
  · have i1 : ¬ (m : Int) < s.size := by omega
    rw [if_neg h]
    cases hR : rightL (bs s) with
    | true =>
      rw [hR] at hr
      rw [if_pos rfl]
      go_enter Tryz.func133, Tryz.ntmps133
      go_wp2_with (go_at_call 160; refine hr.mono ?_; rintro e w1 ⟨rfl, hB⟩)
      go_ret
      exact ⟨rfl, hB⟩
    | false =>
      rw [hR] at hr
      rw [if_neg (by simp)]
      go_enter Tryz.func133, Tryz.ntmps133
      go_wp2_with (go_at_call 160; refine hr.mono ?_; rintro e w1 ⟨rfl, hB⟩)
      go_ret
      exact ⟨rfl, hB⟩

/-- the fields of a commit that came in -/
structure Com (w : World) (t : Int) (pa : Option Addr) (pn pc : Nat) (ps : List Int) (au : ByteArray) (d : Int) (tx : ByteArray) : Prop where
  tree : 0 ≤ t ∧ t < 18446744073709551616
  par : Ids w pa pn ps
  pars : ∀ x ∈ ps, 0 ≤ x ∧ x < 18446744073709551616
  len : pn ≤ pc ∧ pn ≤ 9223372036854775807 ∧ (pa = none → pn = 0 ∧ pc = 0)
  author : au.size ≤ maxLen
  date : -9223372036854775808 ≤ d ∧ d < 9223372036854775808
  text : tx.size ≤ maxLen
theorem Com.below {w W : World} {t : Int} {pa : Option Addr} {pn pc : Nat} {ps : List Int} {au : ByteArray} {d : Int} {tx : ByteArray} (h : Com w t pa pn pc ps au d tx) (hB : Below w.heap.size w W) : Com W t pa pn pc ps au d tx :=
  ⟨h.tree, h.par.below hB, h.pars, h.len, h.author, h.date, h.text⟩

set_option maxRecDepth 20000 in
set_option maxHeartbeats 2000000 in
theorem checkCommit_any (t : Int) (pa : Option Addr) (pn pc : Nat) (ps : List Int) (au : ByteArray) (d : Int) (tx : ByteArray) (w : World) (h : Com w t pa pn pc ps au d tx) :
    Calls Tryz.prog 102 #[cmt t pa pn pc au d tx] w fun e w' => e = .returned (.int .i64 (comErr t ps au tx)) ∧ Below w.heap.size w w' := by
  have hB0 : Below w.heap.size w (w.alloc (.cells #[.int .u64 t, .slice pa pn pc, .string au, .int .i64 d, .string tx] 78)) := (Below.refl _ w).alloc (Nat.le_refl _) _
  have b0 := Box5.new w (.int .u64 t) (.slice pa pn pc) (.string au) (.int .i64 d) (.string tx)
  have hp := checkParents_any pa pn pc ps _ (h.par.below hB0) h.len.2.1
  have ha := fun w => checkText_any au 64 w h.author
  have hx := fun w => checkText_any tx 1024 w h.text
  simp only [show ((64 : Nat) : Int) = 64 from rfl] at ha
  simp only [show ((1024 : Nat) : Int) = 1024 from rfl] at hx
  unfold comErr
  by_cases h0 : t = 0
  · subst h0
    rw [if_pos rfl]
    go_enter Tryz.func102, Tryz.ntmps102
    go_wp2
    go_ret
    exact ⟨rfl, hB0⟩
  · have h0' : (t == 0) = false := beq_eq_false_iff_ne.2 h0
    rw [if_neg h0]
    generalize parErr ps = P at *
    by_cases h1 : P = 0
    · subst h1
      rw [if_neg (by simp)]
      generalize txtErr au 64 = A at *
      generalize txtErr tx 1024 = X at *
      by_cases h2 : A = 0
      · subst h2
        rw [if_neg (by simp)]
        go_enter Tryz.func102, Tryz.ntmps102
        go_wp2_with first
          | (go_at_call 132; refine hp.mono ?_; clear hp; rintro e w1 ⟨rfl, hw1⟩; subst hw1; obtain ⟨c0, c1, c2, c3, c4⟩ := b0.cell)
          | (go_at_call 133; refine (ha _).mono ?_; clear ha; rintro e w2 ⟨rfl, hB2⟩; obtain ⟨d0, d1, d2, d3, d4⟩ := (b0.kept hB2).cell)
          | (go_at_call 133; refine (hx _).mono ?_; clear hx; rintro e w3 ⟨rfl, hB3⟩)
        go_ret
        exact ⟨rfl, (hB0.trans (hB2.mono hB0.size)).trans (hB3.mono (by have := hB0.size; have := hB2.size; omega))⟩
      · have h2' : (A == 0) = false := beq_eq_false_iff_ne.2 h2
        rw [if_pos h2]
        go_enter Tryz.func102, Tryz.ntmps102
        go_wp2_with first
          | (go_at_call 132; refine hp.mono ?_; clear hp; rintro e w1 ⟨rfl, hw1⟩; subst hw1; obtain ⟨c0, c1, c2, c3, c4⟩ := b0.cell)
          | (go_at_call 133; refine (ha _).mono ?_; clear ha; rintro e w2 ⟨rfl, hB2⟩)
        go_ret
        exact ⟨rfl, hB0.trans (hB2.mono hB0.size)⟩
    · have h1' : (P == 0) = false := beq_eq_false_iff_ne.2 h1
      rw [if_pos h1]
      go_enter Tryz.func102, Tryz.ntmps102
      go_wp2_with (go_at_call 132; refine hp.mono ?_; clear hp; rintro e w1 ⟨rfl, hw1⟩; subst hw1)
      go_ret
      exact ⟨rfl, hB0⟩
end Go.Proofs.YtncagdfbgpdhfaaGreat

/- A commit's bytes, as the program puts them together. -/
namespace Go.Proofs.YtncagdfbgpdhfaaGreat
open Go.RowKit

attribute [local go_sem] Oper.semAt_some

/-- a date as a word -/
def du (d : Int) : Nat := (IntKind.u64.wrap d).toNat
theorem du_eq (d : Int) : IntKind.u64.wrap d = (du d : Int) ∧ du d < 18446744073709551616 := by
  have h : 0 ≤ IntKind.u64.wrap d ∧ IntKind.u64.wrap d ≤ 18446744073709551615 := by
    simp [IntKind.wrap, IntKind.bits, IntKind.signed]
    omega
  unfold du
  omega
def parsB (l : List Int) : List UInt8 := (l.map fun x => wide x.toNat).flatten
theorem parsB_take (l : List Int) (k : Nat) (x : Int) (h : l[k]? = some x) : parsB (l.take (k + 1)) = parsB (l.take k) ++ wide x.toNat := by
  unfold parsB
  rw [List.take_add_one, h]
  simp
theorem parsB_len (l : List Int) (k : Nat) (hk : k ≤ l.length) : (parsB (l.take k)).length = k * 8 := by
  induction k with
  | zero => simp [parsB]
  | succ k ih =>
    obtain ⟨x, hx⟩ : ∃ x, l[k]? = some x := ⟨_, List.getElem?_eq_getElem (by omega)⟩
    rw [parsB_take l k x hx, List.length_append, ih (by omega), owide_len]
    omega
/-- the bytes of a commit -/
def comB (t : Int) (ps : List Int) (au : ByteArray) (d : Int) (tx : ByteArray) : List UInt8 :=
  [99] ++ wide t.toNat ++ short ps.length ++ parsB ps ++ (short au.size ++ au.data.toList) ++ wide (du d) ++ (short tx.size ++ tx.data.toList)
theorem Keeps.box5 {B : Nat} {W W' : World} {g : Nat} {a b c d e : Value} (h : Keeps B W W') (hb : Box5 W g a b c d e) (hg : g ≠ B) : Box5 W' g a b c d e := h g _ _ hb (by decide) hg

set_option maxRecDepth 100000 in
set_option maxHeartbeats 8000000 in
theorem putCommit_any (w0 : World) (B : Nat) (t : Int) (pa : Option Addr) (pn pc : Nat) (ps : List Int) (au : ByteArray) (d : Int) (tx : ByteArray) (W : World) (h : OOut w0 B [99] W) (hC : Com w0 t pa pn pc ps au d tx) (hn : pn ≤ 8) (ha : au.size ≤ 64) (hx : tx.size ≤ 1024) :
    Calls Tryz.prog 105 #[putV B, cmt t pa pn pc au d tx] W fun e W' => e = .returned (.tuple #[]) ∧ OOut w0 B (comB t ps au d tx) W' ∧ Keeps B W W' := by
  have hll := hC.par.1
  have hsn := short_len pn
  have hsa := short_len au.size
  have hsx := short_len tx.size
  have hal : au.data.toList.length = au.size := by simp
  obtain ⟨v, hv, _⟩ := h.box
  have hBW := hv.lt
  clear hv
  obtain ⟨hdu, hdl⟩ := du_eq d
  obtain ⟨y, rfl⟩ := Int.eq_ofNat_of_zero_le hC.tree.1
  have hyl := hC.tree.2
  have hpl := parsB_len ps pn (by omega)
  have hpl' : (parsB ps).length = pn * 8 := by rw [← hpl, List.take_of_length_le (by omega)]
  have hwl := owide_len
  have HF : Hid (comB y ps au d tx = [99] ++ wide y ++ short pn ++ parsB ps ++ (short au.size ++ au.data.toList) ++ wide (du d) ++ (short tx.size ++ tx.data.toList)) := by
    show _ = _
    unfold comB
    rw [hll]
    rfl
  have HC : Hid (Com w0 y pa pn pc ps au d tx) := hC
  have b0 := Box5.new W (.int .u64 y) (.slice pa pn pc) (.string au) (.int .i64 d) (.string tx)
  have H0 : Hid (Keeps B W (W.alloc (.cells #[.int .u64 y, .slice pa pn pc, .string au, .int .i64 d, .string tx] 78))) := Keeps.of ((Below.refl _ _).alloc (Nat.le_refl _) _)
  have hO0 := h.alloc (.cells #[.int .u64 (y : Int), .slice pa pn pc, .string au, .int .i64 d, .string tx] 78)
  generalize du d = D at *
  clear hC hpl
  go_enter Tryz.func105, Tryz.ntmps105
  go_wp2_with first
    | (go_at_call 137; refine (word_any w0 B [99] y _ hO0 (by omega) (by simp)).mono ?_; rintro e w1 ⟨rfl, hO1, hK1⟩; have b1 := hK1.box5 b0 (by omega); obtain ⟨c0, c1, c2, c3, c4⟩ := b1.cell; have H1 : Hid (Keeps B W w1) := H0.out.trans hK1; clear hK1 H0 hO0 b0)
    | (go_at_call 134; refine (ocount_any w0 B _ pn _ hO1 (by omega) (by simp only [List.length_append, List.length_singleton, hwl]; omega)).mono ?_; rintro e w2 ⟨rfl, hO2, hK2⟩; have b2 := hK2.box5 b1 (by omega); obtain ⟨d0, d1, d2, d3, d4⟩ := b2.cell; have H2 : Hid (OOut w0 B ([99] ++ wide y ++ short pn ++ parsB (ps.take 0)) w2 ∧ Keeps B W w2 ∧ Box5 w2 W.heap.size (.int .u64 y) (.slice pa pn pc) (.string au) (.int .i64 d) (.string tx)) := ⟨by simpa [parsB] using hO2, H1.out.trans hK2, b2⟩; clear hK2 H1 hO1 hO2 b1 c0 c1 c2 c3 c4 b2)
  go_loopw [18] (fun i wr => ∃ k : Nat, k ≤ pn ∧ i = .int .i64 (k : Int) ∧ Hid (OOut w0 B ([99] ++ wide y ++ short pn ++ parsB (ps.take k)) wr ∧ Keeps B W wr ∧ Box5 wr W.heap.size (.int .u64 y) (.slice pa pn pc) (.string au) (.int .i64 d) (.string tx))) (fun i _ => pn - (intOf i).toNat)
  case atStart => exact ⟨0, Nat.zero_le _, rfl, H2.out⟩
  case round =>
    clear H2 d0 d1 d2 d3 d4
    obtain ⟨k, hk, rfl, H⟩ := hrel
    by_cases hlt : k < pn
    · obtain ⟨x, hx'⟩ : ∃ x, ps[k]? = some x := ⟨_, List.getElem?_eq_getElem (by omega)⟩
      obtain ⟨b1, o1, hpa, hc1⟩ := (HC.out.par.below H.out.1.bel).2 (by omega)
      subst hpa
      have q := hc1 k x hx'
      have hxr := HC.out.pars x (List.mem_of_getElem? hx')
      obtain ⟨z, rfl⟩ := Int.eq_ofNat_of_zero_le hxr.1
      have HT : Hid ([99] ++ wide y ++ short pn ++ parsB (ps.take (k + 1)) = [99] ++ wide y ++ short pn ++ parsB (ps.take k) ++ wide z) := by
        show _ = _
        rw [parsB_take ps k _ hx', ← List.append_assoc]
        rfl
      have hpk := parsB_len ps k (by omega)
      have i2 : (k : Int) < (pn : Int) := by omega
      have i3 : ¬ pn ≤ k := by omega
      clear hc1 hx'
      go_wp2_with (go_at_call 137; refine (word_any w0 B _ z _ H.out.1 (by omega) (by simp only [List.length_append, List.length_singleton, hwl]; omega)).mono ?_; rintro e x3 ⟨rfl, hO3, hK3⟩; have H3 : Hid (OOut w0 B ([99] ++ wide y ++ short pn ++ parsB (ps.take (k + 1))) x3 ∧ Keeps B W x3 ∧ Box5 x3 W.heap.size (.int .u64 y) (.slice (some ⟨b1, o1, none⟩) pn pc) (.string au) (.int .i64 d) (.string tx)) := ⟨by rw [HT.out]; exact hO3, H.out.2.1.trans hK3, hK3.box5 H.out.2.2 (by omega)⟩; clear hO3 hK3)
      go_roundw
      case rel => exact ⟨k + 1, by omega, by simp, H3.out⟩
      case measure => simp [intOf]; omega
    · obtain rfl : k = pn := by omega
      have i2 : ¬ (k : Int) < (k : Int) := by omega
      have hO3 := H.out.1
      rw [List.take_of_length_le (by omega)] at hO3
      have b3 := H.out.2.2
      obtain ⟨c0, c1, c2, c3, c4⟩ := b3.cell
      have H3 : Hid (Keeps B W wr) := H.out.2.1
      clear H
      go_wp2_with first
        | (go_at_call 135; refine (text_any w0 B ([99] ++ wide y ++ short k ++ parsB ps) au _ hO3 (by omega) (by simp only [List.length_append, List.length_singleton, hwl, hpl']; omega)).mono ?_; rintro e x4 ⟨rfl, hO4, hK4⟩; have b4 := hK4.box5 b3 (by omega); obtain ⟨e0, e1, e2, e3, e4⟩ := b4.cell; have H4 : Hid (Keeps B W x4) := H3.out.trans hK4; clear hK4 hO3 H3 b3 c0 c1 c2 c3 c4)
        | (go_at_call 137; refine (word_any w0 B _ D _ hO4 hdl (by simp only [List.length_append, List.length_singleton, hwl, hpl', hal]; omega)).mono ?_; rintro e x5 ⟨rfl, hO5, hK5⟩; have b5 := hK5.box5 b4 (by omega); obtain ⟨f0, f1, f2, f3, f4⟩ := b5.cell; have H5 : Hid (Keeps B W x5) := H4.out.trans hK5; clear hK5 hO4 H4 b4 e0 e1 e2 e3 e4)
        | (go_at_call 135; refine (text_any w0 B _ tx _ hO5 (by omega) (by simp only [List.length_append, List.length_singleton, hwl, hpl', hal]; omega)).mono ?_; rintro e x6 ⟨rfl, hO6, hK6⟩)
      go_end0
      exact ⟨rfl, by rw [HF.out]; exact hO6, H5.out.trans hK6⟩
end Go.Proofs.YtncagdfbgpdhfaaGreat

/- What the layer answers of a commit. -/
namespace Go.Proofs.YtncagdfbgpdhfaaGreat
open Go.RowKit

attribute [local go_sem] Oper.semAt_some

abbrev coV (t : Int) (pa : Option Addr) (pn pc : Nat) (au : ByteArray) (d : Int) (tx : ByteArray) : Value := .iface 78 (cmt t pa pn pc au d tx)
theorem no_blob_com (v : Value) : ∀ xT w, (Instr.typeAssert (.iface 78 v) xT 82 true).run Tryz.prog w = .ok (.tuple #[.agg #[.slice none 0 0], .bool false]) w := no_blob 78 (by decide) v
theorem no_tree_com (v : Value) : ∀ xT w, (Instr.typeAssert (.iface 78 v) xT 125 true).run Tryz.prog w = .ok (.tuple #[.agg #[.slice none 0 0], .bool false]) w := no_tree 78 (by decide) v
theorem com_fits {t : Int} {ps : List Int} {au tx : ByteArray} (h : comErr t ps au tx = 0) : t ≠ 0 ∧ ps.length ≤ 8 ∧ au.size ≤ 64 ∧ tx.size ≤ 1024 := by
  have ht : ∀ (s : ByteArray) (m : Nat), txtErr s m = 0 → s.size ≤ m := fun s m h => by
    unfold txtErr at h
    split at h
    · omega
    · omega
  unfold comErr at h
  split at h
  · omega
  · rename_i h0
    split at h
    · rename_i h1; exact absurd h h1
    · rename_i h1
      have h1' : parErr ps = 0 := by simpa using h1
      split at h
      · rename_i h2; exact absurd h h2
      · rename_i h2
        have h2' : txtErr au 64 = 0 := by simpa using h2
        refine ⟨h0, ?_, ht _ _ h2', ht _ _ h⟩
        unfold parErr at h1'
        split at h1'
        · omega
        · omega
theorem comB_len {t : Int} {ps : List Int} {au tx : ByteArray} (d : Int) (h : comErr t ps au tx = 0) : (comB t ps au d tx).length ≤ 16384 := by
  obtain ⟨_, h1, h2, h3⟩ := com_fits h
  have a1 := short_len ps.length
  have a2 := short_len au.size
  have a3 := short_len tx.size
  have a4 := parsB_len ps ps.length (Nat.le_refl _)
  rw [List.take_length] at a4
  have a5 : au.data.toList.length = au.size := by simp
  have a6 : tx.data.toList.length = tx.size := by simp
  simp only [comB, List.length_append, List.length_singleton, owide_len, a4, a5, a6]
  omega
theorem check_com (t : Int) (pa : Option Addr) (pn pc : Nat) (ps : List Int) (au : ByteArray) (d : Int) (tx : ByteArray) (w : World) (h : Com w t pa pn pc ps au d tx) : Calls Tryz.prog 74 #[(coV t pa pn pc au d tx)] w fun e w' => e = .returned (.int .i64 (comErr t ps au tx)) ∧ Below w.heap.size w w' := by
  have h1 := no_blob_com (cmt t pa pn pc au d tx)
  have h2 := no_tree_com (cmt t pa pn pc au d tx)
  have h3 := as_commit (cmt t pa pn pc au d tx)
  have hB0 : Below w.heap.size w (w.alloc (.cells #[.int .u64 t, .slice pa pn pc, .string au, .int .i64 d, .string tx] 78)) := (Below.refl _ w).alloc (Nat.le_refl _) _
  have hc := checkCommit_any t pa pn pc ps au d tx _ (h.below hB0)
  go_enter Tryz.func74, Tryz.ntmps74
  go_wp2_with (go_at_call 102; refine hc.mono ?_; rintro e w1 ⟨rfl, hB⟩)
  go_ret
  exact ⟨rfl, hB0.trans (hB.mono (by simp))⟩
set_option maxRecDepth 20000 in
set_option maxHeartbeats 1000000 in
theorem encode_com (t : Int) (pa : Option Addr) (pn pc : Nat) (ps : List Int) (au : ByteArray) (d : Int) (tx : ByteArray) (w : World) (h : Com w t pa pn pc ps au d tx) (h0 : comErr t ps au tx = 0) :
    Calls Tryz.prog 75 #[(coV t pa pn pc au d tx)] w fun e w' => ∃ ad m cp, e = .returned (.slice ad m cp) ∧ (comB t ps au d tx).length = m ∧ OwnB w.heap.size (comB t ps au d tx) (.slice ad m cp) w' ∧ Below w.heap.size w w' := by
  obtain ⟨_, hn, hau, htx⟩ := com_fits h0
  have hpn := h.par.1
  have hmf : ∀ (fn : Fn) (first cap : Array Value) (w : World), (Instr.makeFunc fn first cap).run Tryz.prog w = .ok (.func fn first cap) w := fun _ _ _ _ => rfl
  have h1 := no_blob_com (cmt t pa pn pc au d tx)
  have h2 := no_tree_com (cmt t pa pn pc au d tx)
  have h3 := as_commit (cmt t pa pn pc au d tx)
  have HO := ((out_new w).alloc (.cells #[.int .u64 t, .slice pa pn pc, .string au, .int .i64 d, .string tx] 78)).alloc (.cells #[.int .u8 99] 5)
  have hO2 : Box5 ((w.alloc (.cells #[.slice none 0 0] 80)).alloc (.cells #[.int .u64 t, .slice pa pn pc, .string au, .int .i64 d, .string tx] 78)) (w.heap.size + 1) (.int .u64 t) (.slice pa pn pc) (.string au) (.int .i64 d) (.string tx) := by
    have := Box5.new (w.alloc (.cells #[.slice none 0 0] 80)) (.int .u64 t) (.slice pa pn pc) (.string au) (.int .i64 d) (.string tx)
    rw [World.size_alloc] at this
    exact this
  have hby := bytes_new ((w.alloc (.cells #[.slice none 0 0] 80)).alloc (.cells #[.int .u64 t, .slice pa pn pc, .string au, .int .i64 d, .string tx] 78)) [99] _ rfl
  have hp := put_any2 w w.heap.size [] (some ⟨w.heap.size + 1 + 1, 0, none⟩) 1 1 [99] _ HO (by rw [World.size_alloc, World.size_alloc] at hby; exact hby) (fun h => by cases h) (by simp)
  clear HO
  have hK := hO2.kept ((Below.refl _ _).alloc (Nat.le_refl _) (.cells #[.int .u8 99] 5))
  clear hO2 hby
  go_enter Tryz.func75, Tryz.ntmps75
  go_wp2_with first
    | (go_at_call 103; refine hp.mono ?_; rintro e w1 ⟨rfl, hO1, hk1⟩; obtain ⟨c0, c1, c2, c3, c4⟩ := (hk1.box5 hK (by omega)).cell; have HO1 : Hid (OOut w w.heap.size [99] w1) := hO1; clear hp hO1 hk1)
    | (go_at_call 105; refine (putCommit_any w w.heap.size t pa pn pc ps au d tx _ HO1.out h (by omega) hau htx).mono ?_; rintro e w2 ⟨rfl, hO2, _⟩; obtain ⟨v, hv, ho⟩ := hO2.box; have cv := hv.cell; have HO2 : Hid (OwnB w.heap.size (comB t ps au d tx) v w2 ∧ Below w.heap.size w w2) := ⟨⟨ho⟩, hO2.bel⟩; obtain ⟨ad, cp, hvv, _⟩ := HO2.out.1.shape rfl; subst hvv; clear hO2 HO1 ho hv)
  go_ret
  exact ⟨ad, _, cp, rfl, rfl, HO2.out.1, HO2.out.2⟩
theorem Encode_com (t : Int) (pa : Option Addr) (pn pc : Nat) (ps : List Int) (au : ByteArray) (d : Int) (tx : ByteArray) (w : World) (h : Com w t pa pn pc ps au d tx) (h0 : comErr t ps au tx = 0) :
    Calls Tryz.prog 52 #[(coV t pa pn pc au d tx)] w fun e w' => ∃ v, e = .returned (.tuple #[v, .int .i64 0]) ∧ OwnB w.heap.size (comB t ps au d tx) v w' ∧ Below w.heap.size w w' := by
  have c1 := check_com t pa pn pc ps au d tx w h
  rw [h0] at c1
  have he := fun w h => encode_com t pa pn pc ps au d tx w h h0
  generalize comB t ps au d tx = T at *
  go_enter Tryz.func52, Tryz.ntmps52
  go_wp2_with first
    | (go_at_call 74; refine c1.mono ?_; clear c1; rintro e w1 ⟨rfl, hB1⟩)
    | (go_at_call 75; refine (he _ (h.below hB1)).mono ?_; clear he; rintro e w2 ⟨ad, m, cp, rfl, hm, ho, hB2⟩; have HO : Hid (OwnB w1.heap.size T (.slice ad m cp) w2) := ho; clear ho hm)
  go_ret2
  exact ⟨_, rfl, ⟨row_lower HO.out.row hB1.size⟩, hB1.trans (hB2.mono hB1.size)⟩
end Go.Proofs.YtncagdfbgpdhfaaGreat

/- A commit's links, its copy, and what it answers in all. -/
namespace Go.Proofs.YtncagdfbgpdhfaaGreat
open Go.RowKit

attribute [local go_sem] Oper.semAt_some

/-- ids appended to a row of one's own -/
theorem wpList_appI (w : World) (B : Nat) (hB : B ≤ w.heap.size) {ops : Array Oper} {rest : List Oper} {o : Oper} {a : Act} {Q : Exit → Act → World → Prop} (hgd : o.guard = none) (s x : Operand)
    (ho : o.op = .call { callee := .builtin .append, args := #[s, x], argTypes := #[28, 28] })
    (v : Value) (n : Nat) (k : List Int) (hs : a.eval s = v) (hown : w.ownsRow B 31 1 v n (k.map (Value.int .u64))) (ad : Option Addr) (m c : Nat) (l : List Int) (hx : a.eval x = .slice ad m c) (hb : Ids w ad m l) (hnil : ad = none → m = 0 ∧ c = 0) (hm : n + m ≤ 1099511627776)
    (h : ∀ v' w', w'.ownsRow B 31 1 v' (n + m) ((k ++ l).map (Value.int .u64)) → w.grownBy w' v.ownBlock → wpList Tryz.prog ops Q rest (a.put o.dst v') w') : wpList Tryz.prog ops Q (o :: rest) a w := by
  obtain ⟨i0, hi, hz0, hz1, hz2⟩ := info_parts infoId
  cases ad with
  | none =>
    obtain ⟨rfl, rfl⟩ := hnil rfl
    have hl : l = [] := List.eq_nil_of_length_eq_zero hb.1
    subst hl
    refine wpList_plain hgd fun K hK => ?_
    have hr := run_append_owned_none (P := Tryz.prog) (w := w) B 28 o.type 31 i0 1 Tryz.underlying28 hi v n _ hown
    unfold Oper.wp execOp
    simp only [ho, resolve, invoke, builtin, Sem.run_bind, Sem.run_pure, Result.andThen_ok, List.map_toArray, List.map_cons, List.map_nil, hs, hx, hr]
    exact hK _ _ (h v w (by rw [List.append_nil]; exact hown) ⟨rfl, rfl, rfl, Nat.le_refl _, fun _ _ _ => rfl⟩)
  | some q =>
    refine wpList_append_own w hgd s x 28 ho B 31 i0 _ 1 8 Tryz.underlying28 hi hz0 hz1 hz2 rfl (by decide) v n _ hs hown q m c (l.map (Value.int .u64)) hx (by rw [List.length_map, hb.1]; omega) ?_ (by intro u hu; obtain ⟨y, _, rfl⟩ := List.mem_map.1 hu; rfl) (by unfold maxLen; omega) (by omega) hB fun v' w' h1 h2 _ => h v' w' (by rw [List.map_append]; exact h1) h2
    intro j u hj
    rw [List.getElem?_map] at hj
    have hl := hb.1
    cases hlj : l[j]? with
    | none => rw [hlj] at hj; cases hj
    | some y =>
      rw [hlj] at hj
      have hjl := (List.getElem?_eq_some_iff.1 hlj).1
      obtain ⟨b, off, e, hc⟩ := hb.2 (by omega)
      cases e
      rw [Addr.add_lit, hc j y hlj]
      exact hj
theorem ids_lit (w : World) (x : Int) : Ids (w.alloc (.cells #[.int .u64 x] 31)) (some ⟨w.heap.size, 0, none⟩) 1 [x] := by
  refine ⟨rfl, fun _ => ⟨_, _, rfl, fun j y hy => ?_⟩⟩
  match j, hy with
  | 0, hy =>
    simp at hy; subst hy
    exact (Boxed.new w 31 (.int .u64 x)).cell

end Go.Proofs.YtncagdfbgpdhfaaGreat
