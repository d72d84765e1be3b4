/- Proved here: for every slice of bytes, every place and every byte the law OctetHash returns true, and its arguments read as before. No condition. -/
import Derived.Test.YtkfmihbbmafolabLaw
import Derived.Test.YtkfmihbbmafolabHashPlain
import Derived.Test.YtkfmihbbmafolabHex
import Derived.Test.YtkfmihbbmafolabApp
import Derived.Test.YtkfmihbbmafolabPutPlain
namespace Go.Proofs.Ytkfmihbbmafolab
open Go.ChangeShapes Go.WideShapes Go.ChangeAt Go.RowKit

theorem own_at {w : World} {B n c : Nat} {ad : Option Addr} {l : List UInt8} (h : w.ownsRow B 5 1 (.slice ad n c) n (cellsOf l)) (hn : ¬ n = 0) :
    ∃ g, ad = some ⟨g, 0, none⟩ ∧ B ≤ g ∧ n ≤ c ∧ ∀ j, j < n → w.cell? ⟨g, j, none⟩ = some (.int .u8 (bt l j)) ∧ w.frozen? ⟨g, j, none⟩ = false := by
  have hb := ownsRow_slice_bytes h
  rcases h.2 with ⟨_, h0⟩ | ⟨g, cap, cur, hv, hB, hg, hnc, _⟩
  · exact absurd h0 hn
  · injection hv with h1 _ h3
    subst h1; subst h3
    refine ⟨g, rfl, hB, hnc, fun j hj => ⟨?_, ?_⟩⟩
    · obtain ⟨b, off, hx, hc⟩ := hb.2 (by omega)
      simp only [Option.some.injEq, Addr.mk.injEq, and_true] at hx
      obtain ⟨rfl, rfl⟩ := hx
      have := hc j hj
      rwa [Nat.zero_add] at this
    · simp [World.frozen?, hg]

theorem bt_set (l : List UInt8) (j i : Nat) (c : UInt8) (hj : j < l.length) : bt (l.set j c) i = if i = j then (c.toNat : Int) else bt l i := by
  unfold bt
  rw [List.getD_eq_getElem?_getD, List.getD_eq_getElem?_getD, List.getElem?_set]
  by_cases h : i = j
  · subst h
    simp [hj]
  · rw [if_neg (by omega), if_neg h]

theorem bytes_set {w : World} {g n j : Nat} {l : List UInt8} {c : UInt8} {z : Int} (hl : l.length = n) (hj : j < n) (hc : ∀ i, i < n → w.cell? ⟨g, i, none⟩ = some (.int .u8 (bt l i)) ∧ w.frozen? ⟨g, i, none⟩ = false) (hz : z = (c.toNat : Int)) :
    Bytes (w.setCell ⟨g, j, none⟩ (.int .u8 z)) (some ⟨g, 0, none⟩) n (l.set j c) := by
  subst hz
  refine ⟨by simpa using hl, fun _ => ⟨g, 0, rfl, fun i hi => ?_⟩⟩
  rw [Nat.zero_add, bt_set l j i c (by omega)]
  by_cases h : i = j
  · subst h
    rw [if_pos rfl]
    exact World.cell?_setCell_same _ _ _ (hc i hi).1
  · rw [if_neg h, World.cell?_setCell_other _ _ _ _ (fun e => h (by injection e with _ e2; exact e2.symm))]
    exact (hc i hi).1

/-- the byte at place j, turned by o -/
def turned (l : List UInt8) (j : Nat) (o : UInt8) : UInt8 := l.getD j 0 ^^^ o
theorem turned_eq (l : List UInt8) (j : Nat) (o : UInt8) : bits BinOp.xor IntKind.u8 (bt l j) (o.toNat : Int) = ((turned l j o).toNat : Int) := by
  have h1 := (l.getD j 0).toNat_lt
  have h2 := o.toNat_lt
  unfold bt turned
  rw [u8_xor_nat _ _ (by omega) (by omega), UInt8.toNat_xor]

theorem hash_turned (l : List UInt8) (j n : Nat) (o : UInt8) (hl : l.length = n) (hj : j < n) : (o.toNat = 0 → hashTo (l.set j (turned l j o)) n = hashTo l n) ∧ (o.toNat ≠ 0 → hashTo (l.set j (turned l j o)) n ≠ hashTo l n) := by
  constructor
  · intro h0
    refine hashTo_congr _ _ n (fun i _ => ?_)
    rw [bt_set l j i _ (by omega)]
    by_cases h : i = j
    · subst h
      rw [if_pos rfl]
      unfold turned bt
      have : o = 0 := UInt8.toNat_inj.1 (by simpa using h0)
      rw [this]
      simp
    · rw [if_neg h]
  · intro h0
    refine hashTo_other _ _ j n hj (fun i hi => by rw [bt_set l j i _ (by omega), if_neg hi]) ?_
    rw [bt_set l j j _ (by omega), if_pos rfl]
    unfold turned bt
    intro he
    have h1 : (l.getD j 0 ^^^ o).toNat = (l.getD j 0).toNat := by omega
    rw [UInt8.toNat_xor] at h1
    have := congrArg ((l.getD j 0).toNat ^^^ ·) h1
    simp only [← Nat.xor_assoc, Nat.xor_self, Nat.zero_xor] at this
    exact h0 this

set_option maxRecDepth 20000 in
set_option maxHeartbeats 1000000 in
theorem octetHash_walk (a : Option Addr) (n cap : Nat) (at' : Int) (o : UInt8) (l : List UInt8) (w : World) (hb : Bytes w a n l) (hnil : a = none → n = 0 ∧ cap = 0) (hm : n ≤ 140737488351232) :
    Calls Try.prog 3 #[.slice a n cap, .int .i64 at', .int .u8 (o.toNat : Int)] w fun e w' => e = .returned (.bool true) ∧ Below w.heap.size w w' := by
  have hml : n ≤ maxLen := by unfold maxLen; omega
  have o0 : (0 : Int) ≤ (o.toNat : Int) := by omega
  have o1 : (o.toNat : Int) ≤ 255 := by have := o.toNat_lt; omega
  have h0 := hashTo_lo l n
  have h1 := hashTo_hi l n
  obtain ⟨h, hh⟩ := Int.eq_ofNat_of_zero_le h0
  have Hh : Hid (hashTo l n = (h : Int)) := hh
  have hlt : h < 18446744073709551616 := by omega
  have Hsn : Hid (hashTo (l ++ [o]) (n + 1) = IntKind.u64.wrap (bits BinOp.xor IntKind.u64 (h : Int) (o.toNat : Int) * 1099511628211)) := by rw [hashTo_snoc l o n hb.1, hh]; rfl
  clear hh h0 h1
  have Hl : Hid (l.length = n) := hb.1
  have Hnil : Hid (a = none → n = 0 ∧ cap = 0) := hnil
  clear hnil
  go_enter Try.func3, Try.ntmps3
  go_wp2_with fail
  refine (wakes_any _).mono ?_
  rintro e w1 ⟨rfl, B1⟩
  have hb1 := hb.below B1
  clear hb
  go_wp2_with fail
  refine (hash_any a n cap l _ hb1 hml).mono ?_
  rw [Hh.out]
  rintro e w2 ⟨rfl, rfl⟩
  have hbA : Bytes (w2.alloc (.cells #[] 5)) a n l := hb1.below ((Below.refl _ _).alloc (Nat.le_refl _) _)
  have hsz : w2.heap.size ≤ (w2.alloc (.cells #[] 5)).heap.size := by simp
  have hoe := ownsRow_empty w2 w2.heap.size (Nat.le_refl _)
  go_wp2_with (first | (at_builtin; refine wpList_append_bytes rfl (.tmp 15) (.tmp 16) rfl w2.heap.size 0 n cap _ [] l a rfl rfl hoe hbA Hnil.out (by omega) hsz ?_; intro ad3 c3 w3 hown3 B3; simp only [Nat.zero_add, List.nil_append] at hown3 ⊢; have hsz3 : w2.heap.size ≤ w3.heap.size := Nat.le_trans hsz B3.size) | (at_builtin; refine wpList_append_byte1 _ rfl (.tmp 17) (.tmp 19) rfl w2.heap.size n _ _ rfl rfl hown3 (by omega) hsz3 ?_; intro ad4 c4 w4 hown4 B4))
  rw [cellsOf_snoc l o _ rfl] at hown4
  have hb4 := ownsRow_slice_bytes hown4
  have B4' : Below w2.heap.size w2 w4 := (((Below.refl _ _).alloc (Nat.le_refl _) _).trans B3).trans B4
  have B4w := below_more B1 B4'
  have hba4 := hb1.below B4'
  clear hown3 hown4 B3 B4 hbA hsz hoe hsz3 B1 hb1 B4'
  refine (hex_any h _ hlt).mono ?_
  rintro e w5 ⟨rfl, B5⟩
  have hb5 := hb4.below B5
  have hba5 := hba4.below B5
  have B5w := below_more B4w B5
  clear hb4 B5 hba4 B4w
  go_wp2_with fail
  refine (unhex_yes _ _ (by simpa using hexOK_hexOf h)).mono ?_
  rw [show unhexTo (ByteArray.mk (hexOf h).toArray).data.toList 16 = (h : Int) from by simpa using unhex_hex h hlt]
  rintro e w6 ⟨rfl, rfl⟩
  go_wp2_with fail
  refine (wakes_any _).mono ?_
  rintro e w7 ⟨rfl, B7⟩
  have hb7 := hb5.below B7
  have hba7 := hba5.below B7
  have B7w := below_more B5w B7
  clear hb5 B7 hba5 B5w
  go_wp2_with fail
  refine (hash_any ad4 (n + 1) c4 (l ++ [o]) _ hb7 (by unfold maxLen; omega)).mono ?_
  rw [Hsn.out]
  rintro e w8 ⟨rfl, rfl⟩
  clear hb7
  by_cases hn0 : n = 0
  · have n0 : ((n : Int) == 0) = true := by simp; omega
    have Hn0 : Hid (n = 0) := hn0
    clear hn0
    go_wp2
    go_ret
    exact ⟨rfl, B7w⟩
  · have n0 : ((n : Int) == 0) = false := by simp; omega
    have hbA : Bytes (w8.alloc (.cells #[] 5)) a n l := hba7.below ((Below.refl _ _).alloc (Nat.le_refl _) _)
    have hsz : w8.heap.size ≤ (w8.alloc (.cells #[] 5)).heap.size := by simp
    have hoe := ownsRow_empty w8 w8.heap.size (Nat.le_refl _)
    by_cases hat : 0 ≤ at'
    · obtain ⟨j, hjn⟩ : ∃ j : Nat, at' % (n : Int) = (j : Int) := ⟨(at' % (n : Int)).toNat, (Int.toNat_of_nonneg (Int.emod_nonneg _ (by omega))).symm⟩
      have hj : j < n := by have := Int.emod_lt_of_pos at' (show (0 : Int) < (n : Int) by omega); omega
      have i0 : (0 : Int) ≤ (j : Int) := by omega
      have i1 : (j : Int) < (n : Int) := by omega
      go_wp2_with (at_builtin; refine wpList_append_bytes rfl (.tmp 51) (.tmp 52) rfl w8.heap.size 0 n cap _ [] l a rfl rfl hoe hbA Hnil.out (by omega) hsz ?_; intro ad9 c9 w9 hown9 B9; simp only [Nat.zero_add, List.nil_append] at hown9 ⊢; obtain ⟨g9, rfl, hg9, hnc, hat9⟩ := own_at hown9 hn0; have Hat9 : Hid (∀ i, i < n → w9.cell? ⟨g9, i, none⟩ = some (.int .u8 (bt l i)) ∧ w9.frozen? ⟨g9, i, none⟩ = false) := hat9; clear hat9; have hcj := (Hat9.out j hj).1; have hfj := (Hat9.out j hj).2)
      have hb10 := bytes_set Hl.out hj Hat9.out (turned_eq l j o)
      have B10 : Below w.heap.size w (w9.setCell ⟨g9, j, none⟩ (.int .u8 (bits BinOp.xor IntKind.u8 (bt l j) (o.toNat : Int)))) := ((B7w.trans (((Below.refl _ _).alloc B7w.size _).trans (B9.mono B7w.size))).setCell (Nat.le_trans B7w.size hg9) _)
      refine (hash_any _ n c9 _ _ hb10 hml).mono ?_
      have hht := hash_turned l j n o Hl.out hj
      rw [Hh.out] at hht
      have Hht := (show Hid _ from hht)
      clear hht hb10
      by_cases ho : o.toNat = 0
      · rw [Hht.out.1 ho]
        have ob : ((o.toNat : Int) == 0) = true := by simp; omega
        have Ho : Hid (o.toNat = 0) := ho
        clear ho
        rintro e w11 ⟨rfl, rfl⟩
        go_wp2
        go_ret
        exact ⟨rfl, B10⟩
      · have hne : (hashTo (l.set j (turned l j o)) n == (h : Int)) = false := by simpa using Hht.out.2 ho
        have ob : ((o.toNat : Int) == 0) = false := by simp; omega
        rintro e w11 ⟨rfl, rfl⟩
        go_wp2
        go_ret
        exact ⟨rfl, B10⟩
    · have hj : 0 < n := by omega
      go_wp2_with (at_builtin; refine wpList_append_bytes rfl (.tmp 51) (.tmp 52) rfl w8.heap.size 0 n cap _ [] l a rfl rfl hoe hbA Hnil.out (by omega) hsz ?_; intro ad9 c9 w9 hown9 B9; simp only [Nat.zero_add, List.nil_append] at hown9 ⊢; obtain ⟨g9, rfl, hg9, hnc, hat9⟩ := own_at hown9 hn0; have Hat9 : Hid (∀ i, i < n → w9.cell? ⟨g9, i, none⟩ = some (.int .u8 (bt l i)) ∧ w9.frozen? ⟨g9, i, none⟩ = false) := hat9; clear hat9; have hcj := (Hat9.out 0 hj).1; have hfj := (Hat9.out 0 hj).2)
      have hb10 := bytes_set Hl.out hj Hat9.out (turned_eq l 0 o)
      have B10 : Below w.heap.size w (w9.setCell ⟨g9, 0, none⟩ (.int .u8 (bits BinOp.xor IntKind.u8 (bt l 0) (o.toNat : Int)))) := ((B7w.trans (((Below.refl _ _).alloc B7w.size _).trans (B9.mono B7w.size))).setCell (Nat.le_trans B7w.size hg9) _)
      refine (hash_any _ n c9 _ _ hb10 hml).mono ?_
      have hht := hash_turned l 0 n o Hl.out hj
      rw [Hh.out] at hht
      have Hht := (show Hid _ from hht)
      clear hht hb10
      by_cases ho : o.toNat = 0
      · rw [Hht.out.1 ho]
        have ob : ((o.toNat : Int) == 0) = true := by simp; omega
        have Ho : Hid (o.toNat = 0) := ho
        clear ho
        rintro e w11 ⟨rfl, rfl⟩
        go_wp2
        go_ret
        exact ⟨rfl, B10⟩
      · have hne : (hashTo (l.set 0 (turned l 0 o)) n == (h : Int)) = false := by simpa using Hht.out.2 ho
        have ob : ((o.toNat : Int) == 0) = false := by simp; omega
        rintro e w11 ⟨rfl, rfl⟩
        go_wp2
        go_ret
        exact ⟨rfl, B10⟩

set_option maxRecDepth 100000 in
theorem octetHash_lifted (os : Os) (started : os.Started) (H : Type) (enc : TypeId × Value → H) :
    ReturnsInHanded {} Try.checked os 3 .any (Rows.octetHashSpec.pre6 enc Try.prog Try.f3 Rows.octetHashRow.domain false) (Rows.octetHashSpec.post enc Try.prog Try.f3 false true false false) := by
  refine returnsInHanded_of_change_sized (C := Try.checked) own started (by kernel_rfl) Try.func3
    (ChangeSpec.witness6 (enc := enc) (C := Try.checked) false ⟨#[], #[.slice none 0 0, .int .i64 0, .int .u8 0], []⟩ 8 (by kernel_rfl) (by kernel_rfl) (by kernel_rfl) (by kernel_rfl)) ?_
  intro W base args ds gs before hval0 hW _ hsz0 _
  have hsz : (DataW.weightsEach Try.prog (Try.f3.params.toList ++ Rows.octetHashSpec.plain.varTypes Try.prog) (ds ++ gs)).all (· ≤ reachBytes) = true := hsz0
  have hval : ∀ (j : Nat) t v, Try.f3.params[j]? = some t → args[j]? = some v → Value.okWide Try.prog W .any base t v := hval0
  have hW' := hW
  obtain ⟨p, q, hA0, hV, rfl, _, _⟩ := hW
  have hA : DataW.TrodAll enc Try.prog W 0 (fun _ => true) true Try.f3.params.toList args.toList ds p := hA0
  rw [Try.params3] at hA hval hsz
  obtain ⟨v0, vs0, d0, ds0, p0, q0, hargs, rfl, rfl, h0, r0⟩ := trodAll_cons hA
  obtain ⟨v1, vs1, d1, ds1, p1, q1, rfl, rfl, rfl, h1, r1⟩ := trodAll_cons r0
  obtain ⟨v2, vs2, d2, ds2, p2, q2, rfl, rfl, rfl, h2, r2⟩ := trodAll_cons r1
  obtain ⟨rfl, rfl, rfl⟩ := trodAll_nil r2
  obtain rfl : args = #[v0, v1, v2] := by cases args; simp_all
  obtain ⟨rfl, rfl⟩ := trodVars_none hV
  have k0 := h0
  have lt0 : ∀ x ∈ p0, x.block < W.heap.size := by obtain ⟨m, hm⟩ := k0; exact DataW.trod_lt m _ _ _ hm
  obtain ⟨a0, n0, cap0, l0, rfl, b0, c0, hd⟩ := bytes_arg (hval 0 22 v0 rfl rfl) h0
  have hn0 : n0 ≤ 140737488351232 := by
    rcases hd with rfl | ⟨el, sp, rfl, hle⟩
    · omega
    · have := sized_slice hsz (j := 0) (t := 22) (e := 5) rfl rfl Try.underlying22
      rw [bytes5] at this
      simp only [reachBytes] at this
      omega
  obtain ⟨a1, rfl, rfl, rfl, w1⟩ := open_int Try.underlying3 (hval 1 3 v1 rfl rfl) h1
  obtain ⟨a2, rfl, rfl, rfl, w2⟩ := open_int Try.underlying5 (hval 2 5 v2 rfl rfl) h2
  have hx2 := bounds_u8 w2
  obtain ⟨y, rfl⟩ := Int.eq_ofNat_of_zero_le hx2.1
  have ey : ((y : Nat) : Int) = ((UInt8.ofNat y).toNat : Int) := by rw [UInt8.toNat_ofNat']; omega
  have hnil : a0 = none → n0 = 0 ∧ cap0 = 0 := by
    rintro rfl
    obtain ⟨m, hm⟩ := h0
    rcases open_ints Try.underlying22 Try.underlying5 (by kernel_rfl) hm with ⟨hcs, _⟩ | ⟨x, l, c, zs, hcs, _⟩
    · simp [Value.cells] at hcs
      exact hcs
    · simp [Value.cells] at hcs
  clear hA0 hval0 hsz0 hsz
  have wk := octetHash_walk a0 n0 cap0 a1 (UInt8.ofNat y) l0 W b0 hnil hn0
  rw [← ey] at wk
  refine wk.mono fun e W' ⟨he, bel⟩ => ?_
  subst he
  exact ⟨_, rfl, _, _, _, [], _, [], hW', trodAll_mk1 (shut_bool Try.underlying4 _), trodAll_cons_mk (Below.trod laidOut (by kernel_rfl) (of_decide_eq_true (by kernel_rfl)) k0 bel lt0) (trodAll_cons_mk (shut_int Try.underlying3 w1) (trodAll_cons_mk (shut_int Try.underlying5 w2) trodAll_mk0)), rfl, bel.frame _, fun h => by cases h⟩

theorem octetHash_holds : Rows.OctetHashSaid :=
  OpenClaim.holds_of_wide 3 Try.f3 rfl rfl rfl rfl rfl rfl rfl ⟨rfl, rfl, rfl, rfl, rfl⟩ rfl rfl rfl rfl rfl (by kernel_rfl) Try.func3 (by kernel_rfl)
    (of_decide_eq_true (by kernel_rfl)) (by unfold Func.isWrapper; first | (rw [if_pos (by decide +kernel)]; kernel_rfl) | (rw [if_neg (by decide +kernel)]; exact ⟨rfl, rfl⟩))
    (fun os started H enc _ => octetHash_lifted os started H enc)
#print axioms octetHash_holds

end Go.Proofs.Ytkfmihbbmafolab
