import Derived.Test.YthalpnpnbclipaaGreatL29
import Derived.Test.YthalpnpnbclipaaGreatL36
import Derived.Test.YthalpnpnbclipaaGreatL32
import Derived.ProofKit
import Derived.OpenShut
import Derived.ShutString
import Derived.ChangeOld
import Derived.SizedLaws
import Derived.Deep.Slices
import Derived.Test.YthalpnpnbclipaaGreatL22
import Derived.Laws.MakeOwn
import Derived.BigRegion
/- The walk of law 07's look whether an object, got by its id, is told by its kind alone. -/
namespace Go.Proofs.YthalpnpnbclipaaGreat
open Go.RowKit Go.Shelf Go.Maps

attribute [local go_sem] Oper.semAt_some

set_option maxRecDepth 20000 in
set_option maxHeartbeats 4000000 in
theorem skind_any (w : World) (s d : Nat) (os : List Ob) (sz : Nat) (cut : Bool) (F : Nat → Prop) (h : IsSt w s d os sz cut F) (i : Int) (h0 : 0 ≤ i) (h1 : i ≤ 18446744073709551615) (o : Ob) (hf : findO os i = some o) :
    Calls Tryz.prog 44 #[.pointer (some ⟨s, 0, none⟩), .int .u64 i, .int .i64 (obK o)] w fun e w' => e = .returned (.bool true) ∧ Below w.heap.size w w' := by
  have H : Hid (∀ W, Below w.heap.size w W → IsSt W s d os sz cut F) := fun W hB => h.below hB
  have HB0 : Hid (Below w.heap.size w w) := Below.refl _ _
  clear h
  cases o with
  | blob q =>
    have hk0 : obK (.blob q) = 1 := rfl
    rw [hk0]
    clear hk0
    go_enter Tryz.func44, Tryz.ntmps44
    go_wp2_with first
      | (go_at_call 22; refine (sblob_yes _ s d os sz cut F (H.out _ HB0.out) i h0 h1 _ hf rfl).mono ?_; rintro e w1 ⟨ba, bn, bc, rfl, _, hB⟩; have HC1 : Hid (Below w.heap.size w w1) := HB0.out.trans (hB.mono HB0.out.size); have HB1 : Hid (Below w.heap.size w (w1.alloc (.cells #[.slice ba bn bc] 65))) := HC1.out.alloc HC1.out.size _; clear hB)
      | (go_at_call 23; refine (stree_no _ s d os sz cut F (H.out _ HB1.out) i h0 h1 _ hf rfl).mono ?_; rintro e w2 ⟨ta, tn, tc, rfl, hB⟩; have HC2 : Hid (Below w.heap.size w w2) := HB1.out.trans (hB.mono HB1.out.size); have HB2 : Hid (Below w.heap.size w (w2.alloc (.cells #[.slice ta tn tc] 69))) := HC2.out.alloc HC2.out.size _; clear hB)
      | (go_at_call 24; refine (scom_no _ s d os sz cut F (H.out _ HB2.out) i h0 h1 _ hf rfl).mono ?_; rintro e w3 ⟨ct, ca, cn, cc, cu, ce, cx, rfl, hB⟩; have HC3 : Hid (Below w.heap.size w w3) := HB2.out.trans (hB.mono HB2.out.size); have HB3 : Hid (Below w.heap.size w (w3.alloc (.cells #[.int .u64 ct, .slice ca cn cc, .string cu, .int .i64 ce, .string cx] 39))) := HC3.out.alloc HC3.out.size _; clear hB)
    go_ret
    exact ⟨rfl, HB3.out⟩
  | tree q =>
    have hk0 : obK (.tree q) = 2 := rfl
    rw [hk0]
    clear hk0
    go_enter Tryz.func44, Tryz.ntmps44
    go_wp2_with first
      | (go_at_call 22; refine (sblob_no _ s d os sz cut F (H.out _ HB0.out) i h0 h1 _ hf rfl).mono ?_; rintro e w1 ⟨ba, bn, bc, rfl, hB⟩; have HC1 : Hid (Below w.heap.size w w1) := HB0.out.trans (hB.mono HB0.out.size); have HB1 : Hid (Below w.heap.size w (w1.alloc (.cells #[.slice ba bn bc] 65))) := HC1.out.alloc HC1.out.size _; clear hB)
      | (go_at_call 23; refine (stree_yes _ s d os sz cut F (H.out _ HB1.out) i h0 h1 _ hf rfl).mono ?_; rintro e w2 ⟨ta, tn, tc, rfl, _, hB⟩; have HC2 : Hid (Below w.heap.size w w2) := HB1.out.trans (hB.mono HB1.out.size); have HB2 : Hid (Below w.heap.size w (w2.alloc (.cells #[.slice ta tn tc] 69))) := HC2.out.alloc HC2.out.size _; clear hB)
      | (go_at_call 24; refine (scom_no _ s d os sz cut F (H.out _ HB2.out) i h0 h1 _ hf rfl).mono ?_; rintro e w3 ⟨ct, ca, cn, cc, cu, ce, cx, rfl, hB⟩; have HC3 : Hid (Below w.heap.size w w3) := HB2.out.trans (hB.mono HB2.out.size); have HB3 : Hid (Below w.heap.size w (w3.alloc (.cells #[.int .u64 ct, .slice ca cn cc, .string cu, .int .i64 ce, .string cx] 39))) := HC3.out.alloc HC3.out.size _; clear hB)
    go_ret
    exact ⟨rfl, HB3.out⟩
  | com q =>
    have hk0 : obK (.com q) = 3 := rfl
    rw [hk0]
    clear hk0
    go_enter Tryz.func44, Tryz.ntmps44
    go_wp2_with first
      | (go_at_call 22; refine (sblob_no _ s d os sz cut F (H.out _ HB0.out) i h0 h1 _ hf rfl).mono ?_; rintro e w1 ⟨ba, bn, bc, rfl, hB⟩; have HC1 : Hid (Below w.heap.size w w1) := HB0.out.trans (hB.mono HB0.out.size); have HB1 : Hid (Below w.heap.size w (w1.alloc (.cells #[.slice ba bn bc] 65))) := HC1.out.alloc HC1.out.size _; clear hB)
      | (go_at_call 23; refine (stree_no _ s d os sz cut F (H.out _ HB1.out) i h0 h1 _ hf rfl).mono ?_; rintro e w2 ⟨ta, tn, tc, rfl, hB⟩; have HC2 : Hid (Below w.heap.size w w2) := HB1.out.trans (hB.mono HB1.out.size); have HB2 : Hid (Below w.heap.size w (w2.alloc (.cells #[.slice ta tn tc] 69))) := HC2.out.alloc HC2.out.size _; clear hB)
      | (go_at_call 24; refine (scom_yes _ s d os sz cut F (H.out _ HB2.out) i h0 h1 _ hf rfl).mono ?_; rintro e w3 ⟨ct, ca, cn, cc, cu, ce, cx, rfl, _, hB⟩; have HC3 : Hid (Below w.heap.size w w3) := HB2.out.trans (hB.mono HB2.out.size); have HB3 : Hid (Below w.heap.size w (w3.alloc (.cells #[.int .u64 ct, .slice ca cn cc, .string cu, .int .i64 ce, .string cx] 39))) := HC3.out.alloc HC3.out.size _; clear hB)
    go_ret
    exact ⟨rfl, HB3.out⟩
end Go.Proofs.YthalpnpnbclipaaGreat

/- The walk of the look whether a Journal has just these records, where it has. -/
namespace Go.Proofs.YthalpnpnbclipaaGreat
open Go.RowKit Go.Shelf

attribute [local go_sem] Oper.semAt_some

/-- a slice of n slices of bytes that leads to these lists -/
def Slices (w : World) (a : Option Addr) (n : Nat) (ls : List (List UInt8)) : Prop :=
  ls.length = n ∧ ∀ k, k < n → ∃ b off x m c, a = some ⟨b, off, none⟩ ∧ w.cell? ⟨b, off + k, none⟩ = some (.slice x m c) ∧ Bytes w x m (rc ls k)

theorem Slices.turn {w w' : World} {a : Option Addr} {n : Nat} {ls : List (List UInt8)} (h : Slices w a n ls) (hB : Below w.heap.size w w') : Slices w' a n ls := by
  refine ⟨h.1, fun k hk => ?_⟩
  obtain ⟨b, off, x, m, c, h1, h2, h3⟩ := h.2 k hk
  exact ⟨b, off, x, m, c, h1, (hB.cell (p := ⟨b, off + k, none⟩) (World.block_lt_of_cell? w _ h2)).trans h2, (Turn.of_below (fun _ => False) hB).bytes h3 (fun _ _ _ => id)⟩

end Go.Proofs.YthalpnpnbclipaaGreat

/- The document's store (espalierref07): Id and Find. -/
namespace Go.Proofs.YthalpnpnbclipaaGreat
open Go.RowKit Go.Shelf Go.Maps

attribute [local go_sem] Oper.semAt_some

theorem srefId_any (a : Option Addr) (n c : Nat) (l : List UInt8) (w : World) (hb : Bytes w a n l) (hm : n ≤ maxLen) : Calls Tryz.prog 42 #[.slice a n c] w fun e w' => e = .returned (.int .u64 (idOf l)) ∧ w' = w := by
  have hh := refHash_any a n c l w hb hm
  have e0 : idOf l = if hashTo l n = 0 then 1 else hashTo l n := by unfold idOf; rw [hb.1]
  rw [e0]
  generalize hashTo l n = h at hh
  by_cases h0 : h = 0
  · subst h0
    go_enter Tryz.func42, Tryz.ntmps42
    go_wp2_with (go_at_call 52; refine hh.mono ?_; rintro e w1 ⟨rfl, rfl⟩)
    go_ret
    exact ⟨rfl, rfl⟩
  · have h1 : (h == 0) = false := beq_eq_false_iff_ne.2 h0
    go_enter Tryz.func42, Tryz.ntmps42
    go_wp2_with (go_at_call 52; refine hh.mono ?_; rintro e w1 ⟨rfl, rfl⟩)
    go_ret
    exact ⟨rfl, rfl⟩
/-- where an id stands first -/
def fidx (ids : List Int) (i : Int) : Option Nat := ids.findIdx? (· == i)
def fidxI (ids : List Int) (i : Int) : Int := match fidx ids i with
  | some k => (k : Int)
  | none => -1
theorem fidxI_at {ids : List Int} {i : Int} {k : Nat} (hk : ids[k]? = some i) (hb : ∀ (j : Nat) x, j < k → ids[j]? = some x → x ≠ i) : fidxI ids i = (k : Int) := by
  have h : fidx ids i = some k := by
    unfold fidx
    rw [List.findIdx?_eq_some_iff_getElem]
    obtain ⟨hlt, hx⟩ := List.getElem?_eq_some_iff.1 hk
    refine ⟨hlt, by simp [hx], fun j hj => ?_⟩
    have := hb j _ hj (List.getElem?_eq_getElem (by omega))
    simpa using this
  unfold fidxI
  rw [h]
theorem fidxI_no {ids : List Int} {i : Int} (hb : ∀ (j : Nat) x, ids[j]? = some x → x ≠ i) : fidxI ids i = -1 := by
  have h : fidx ids i = none := by
    unfold fidx
    rw [List.findIdx?_eq_none_iff]
    intro x hx
    obtain ⟨j, hj⟩ := List.getElem?_of_mem hx
    have := hb j x hj
    simpa using this
  unfold fidxI
  rw [h]
set_option maxHeartbeats 2000000 in
theorem srefFind_any (ia : Option Addr) (n ic : Nat) (ra : Option Addr) (rn rc' : Nat) (ids : List Int) (w : World) (hi : Ids w ia n ids) (hn : n ≤ 1000000) (i : Int) :
    Calls Tryz.prog 15 #[.agg #[.slice ia n ic, .slice ra rn rc'], .int .u64 i] w fun e w' => e = .returned (.int .i64 (fidxI ids i)) ∧ Below w.heap.size w w' := by
  have hll := hi.1
  have hB0 : Below w.heap.size w (w.alloc (.cells #[.slice ia n ic, .slice ra rn rc'] 35)) := (Below.refl _ w).alloc (Nat.le_refl _) _
  have hbk := World.alloc_heap_new w (.cells #[.slice ia n ic, .slice ra rn rc'] 35)
  have c0 : (w.alloc (.cells #[.slice ia n ic, .slice ra rn rc'] 35)).cell? ⟨w.heap.size, 0, none⟩ = some (.slice ia n ic) := by
    generalize w.alloc (.cells #[.slice ia n ic, .slice ra rn rc'] 35) = W at hbk
    simp [World.cell?, hbk]
  have hi1 := hi.kept hB0
  obtain ⟨w1, hw1⟩ : ∃ w1, w1 = w.alloc (.cells #[.slice ia n ic, .slice ra rn rc'] 35) := ⟨_, rfl⟩
  rw [← hw1] at c0 hB0 hi1
  clear hbk
  go_enter Tryz.func15, Tryz.ntmps15
  go_wp2_with fail
  rw [← hw1]
  clear hw1
  go_loopw [5] (fun v wr => ∃ k : Nat, k ≤ n ∧ v = .int .i64 k ∧ wr = w1 ∧ Hid (∀ (j : Nat) x, j < k → ids[j]? = some x → x ≠ i)) (fun v _ => n - (intOf v).toNat)
  case atStart => exact ⟨0, Nat.zero_le _, rfl, rfl, fun j x hj => by omega⟩
  case round =>
    obtain ⟨k, hk, rfl, rfl, H⟩ := hrel
    by_cases hlt : k < n
    · obtain ⟨x, hx⟩ : ∃ x, ids[k]? = some x := ⟨_, List.getElem?_eq_getElem (by omega)⟩
      obtain ⟨b1, o1, rfl, hc1⟩ := hi1.2 (by omega)
      have q1 := hc1 k x hx
      have i1 : (k : Int) < (n : Int) := by omega
      have i2 : ¬ n ≤ k := by omega
      have HX : Hid (ids[k]? = some x) := hx
      clear hc1 hi1 hi hx
      by_cases hxi : x = i
      · subst hxi
        go_wp2_with fail
        go_ret
        have hfx := fidxI_at HX.out H.out
        exact ⟨by rw [hfx]; rfl, hB0⟩
      · have hxb : (x == i) = false := by simpa using hxi
        have HXI : Hid (x ≠ i) := hxi
        clear hxi
        go_wp2_with fail
        go_roundw
        case rel => exact ⟨k + 1, by omega, by go_num, trivial, fun j y hj hy => by
          by_cases e : j = k
          · subst e
            rw [HX.out] at hy
            cases hy
            exact HXI.out
          · exact H.out j y (by omega) hy⟩
        case measure => simp [intOf]; omega
    · obtain rfl : k = n := by omega
      go_wp2_with fail
      go_ret
      have hfx := fidxI_no (fun j x hj => H.out j x (by have := (List.getElem?_eq_some_iff.1 hj).1; omega) hj)
      exact ⟨by rw [hfx]; rfl, hB0⟩
end Go.Proofs.YthalpnpnbclipaaGreat

/- A slice of slices of bytes that came in, opened. -/
namespace Go.Proofs.YthalpnpnbclipaaGreat
open Go.ChangeShapes Go.WideShapes Go.ChangeAt Go.RowKit

theorem bytes_cell {H : Type} {enc : TypeId × Value → H} {W : World} {fuel : Nat} {v : Value} {x : DataW H × List MemPlace} (hf : DataW.trod enc Tryz.prog W 0 (fun _ => true) true fuel 36 [v] = some x) :
    ∃ a n cap l, v = .slice a n cap ∧ Bytes W a n l ∧ n ≤ cap ∧ (a = none → n = 0 ∧ cap = 0) ∧ n ≤ maxLen := by
  rcases open_ints Tryz.underlying36 Tryz.underlying5 (by kernel_rfl) hf with ⟨hcs, _⟩ | ⟨x, n, cap, zs, hcs, _, hl, hm, hz, hx, hcell, hwz⟩
  · simp only [List.cons.injEq, and_true] at hcs
    subst hcs
    exact ⟨none, 0, 0, [], rfl, ⟨rfl, fun h0 => by omega⟩, Nat.le_refl _, fun _ => ⟨rfl, rfl⟩, Nat.zero_le _⟩
  · simp only [List.cons.injEq, and_true] at hcs
    subst hcs
    simp only [if_true] at hz
    refine ⟨some x, n, cap, (zs.take n).map (fun z => UInt8.ofNat z.toNat), rfl, ⟨by simp; omega, fun h0 => ?_⟩, hl, (fun h => by cases h), by omega⟩
    obtain ⟨b, off, spot⟩ := x
    have hc := hcell 0 (by omega)
    have hspot : spot = none := by simpa [Addr.add] using World.cell?_spot hc
    subst hspot
    refine ⟨b, off, rfl, fun i hi => ?_⟩
    have hci := hcell i (by omega)
    rw [Addr.add_lit] at hci
    rw [hci]
    have hb : 0 ≤ zs.getD i 0 ∧ zs.getD i 0 ≤ 255 := by
      rw [List.getD_eq_getElem?_getD]
      exact range_u8 hwz i
    have e : bt ((zs.take n).map (fun z => UInt8.ofNat z.toNat)) i = zs.getD i 0 := by
      unfold bt
      have e1 : ((zs.take n).map (fun z => UInt8.ofNat z.toNat)).getD i 0 = UInt8.ofNat (zs.getD i 0).toNat := by
        simp [List.getD, hi, show i < zs.length by omega]
      rw [e1, UInt8.toNat_ofNat']
      omega
    rw [e]

/-- what an element of such a slice is -/
structure El where
  x : Option Addr
  m : Nat
  c : Nat
  l : List UInt8
deriving Inhabited
/-- a slice of n slices of bytes that came in -/
def Lists (W : World) (a : Option Addr) (n : Nat) (E : Nat → El) : Prop :=
  (0 < n → ∃ b off, a = some ⟨b, off, none⟩ ∧ ∀ k, k < n → W.cell? ⟨b, off + k, none⟩ = some (.slice (E k).x (E k).m (E k).c)) ∧
    ∀ k, k < n → Bytes W (E k).x (E k).m (E k).l ∧ (E k).m ≤ (E k).c ∧ ((E k).x = none → (E k).m = 0 ∧ (E k).c = 0) ∧ (E k).m ≤ maxLen

set_option maxRecDepth 20000 in
theorem lists_arg {H : Type} {enc : TypeId × Value → H} {W : World} {base : Nat} {v : Value} {d : DataW H} {ps : List MemPlace} (hok : Value.okWide Tryz.prog W .any base 33 v)
    (h : DataW.Trod enc Tryz.prog W 0 (fun _ => true) true 33 v d ps) :
    ∃ a n cap E, v = .slice a n cap ∧ Lists W a n E ∧ n ≤ maxLen := by
  obtain ⟨a, n, cap, rfl⟩ := okWide_slice Tryz.underlying33 hok
  obtain ⟨fuel, hf⟩ := h
  rcases Deep.open_slice Tryz.underlying33 hf with ⟨hcs, _⟩ | ⟨x, len, c, m, j, D, Pl, hcs, _, hl, hmx, hm, hx, hel⟩
  · simp [Value.cells] at hcs
    obtain ⟨rfl, rfl, rfl⟩ := hcs
    exact ⟨none, 0, 0, fun _ => ⟨none, 0, 0, []⟩, rfl, ⟨fun h0 => by omega, fun i hi => by omega⟩, Nat.zero_le _⟩
  · simp [Value.cells] at hcs
    obtain ⟨rfl, rfl, rfl⟩ := hcs
    simp only [if_true] at hm
    have hcell : ∀ i, i < n → ∃ p : El, W.cell? (x.add i) = some (.slice p.x p.m p.c) ∧ Bytes W p.x p.m p.l ∧ p.m ≤ p.c ∧ (p.x = none → p.m = 0 ∧ p.c = 0) ∧ p.m ≤ maxLen := by
      intro i hi
      obtain ⟨cs', hc1, hc2⟩ := hel i (by omega)
      rw [show Tryz.prog.cellsOf 36 = 1 from by kernel_rfl] at hc1
      obtain ⟨_, hlen2, hget⟩ := World.cells?_some hc1
      match cs', hlen2 with
      | [c0], _ =>
        have g0 := hget 0 (by omega)
        rw [Deep.add_add] at g0
        obtain ⟨a', n', cap', l', rfl, h1, h2, h3, h4⟩ := bytes_cell hc2
        exact ⟨⟨a', n', cap', l'⟩, by simpa using g0, h1, h2, h3, h4⟩
    obtain ⟨E, hE⟩ := Deep.choose_lt hcell
    refine ⟨some x, n, cap, E, rfl, ⟨fun h0 => ?_, fun i hi => (hE i hi).2⟩, by omega⟩
    obtain ⟨b, off, spot⟩ := x
    have hc := (hE 0 h0).1
    have hspot : spot = none := by simpa [Addr.add] using World.cell?_spot hc
    subst hspot
    refine ⟨b, off, rfl, fun i hi => ?_⟩
    have := (hE i hi).1
    rw [Addr.add_lit] at this
    exact this

end Go.Proofs.YthalpnpnbclipaaGreat

/- The document's store (espalierref07): Put. -/
namespace Go.Proofs.YthalpnpnbclipaaGreat
open Go.RowKit Go.Shelf Go.Maps

attribute [local go_sem] Oper.semAt_some

/-- the document's store in memory: ids and rows, that lie in blocks of X alone -/
structure RM (X : Nat → Prop) (w : World) (ia : Option Addr) (ra : Option Addr) (n : Nat) (ids : List Int) (rows : List (List UInt8)) : Prop where
  li : ids.length = n
  lr : rows.length = n
  lt : ∀ k, X k → k < w.heap.size
  all : ∃ E : Nat → El, ∀ W : World, (∀ k, X k → W.heap[k]? = w.heap[k]?) → Ids W ia n ids ∧ ∀ k, k < n → ∃ b off, ra = some ⟨b, off, none⟩ ∧ W.cell? ⟨b, off + k, none⟩ = some (.slice (E k).x (E k).m (E k).c) ∧ Bytes W (E k).x (E k).m (rc rows k)
theorem RM.kept {X : Nat → Prop} {w w' : World} {ia ra : Option Addr} {n : Nat} {ids : List Int} {rows : List (List UInt8)} (h : RM X w ia ra n ids rows) (hs : w.heap.size ≤ w'.heap.size) (hk : ∀ k, X k → w'.heap[k]? = w.heap[k]?) : RM X w' ia ra n ids rows :=
  ⟨h.li, h.lr, fun k hx => Nat.lt_of_lt_of_le (h.lt k hx) hs, by
    obtain ⟨E, hE⟩ := h.all
    exact ⟨E, fun W hW => hE W fun k hx => (hW k hx).trans (hk k hx)⟩⟩
theorem RM.ids {X : Nat → Prop} {w : World} {ia ra : Option Addr} {n : Nat} {ids : List Int} {rows : List (List UInt8)} (h : RM X w ia ra n ids rows) : Ids w ia n ids := by
  obtain ⟨E, hE⟩ := h.all
  exact (hE w (fun _ _ => rfl)).1
theorem RM.turn {X Q : Nat → Prop} {w w' : World} {ia ra : Option Addr} {n : Nat} {ids : List Int} {rows : List (List UInt8)} (h : RM X w ia ra n ids rows) (hT : Turn Q w w') (hd : ∀ k, X k → ¬ Q k) : RM X w' ia ra n ids rows :=
  h.kept hT.size fun k hx => hT.block k (h.lt k hx) (hd k hx)
theorem RM.below {X : Nat → Prop} {w w' : World} {ia ra : Option Addr} {n : Nat} {ids : List Int} {rows : List (List UInt8)} (h : RM X w ia ra n ids rows) (hB : Below w.heap.size w w') : RM X w' ia ra n ids rows :=
  h.turn (Turn.of_below (fun _ => False) hB) (fun _ _ => id)
/-- bytes that lie in blocks of X alone -/
def BytesX (X : Nat → Prop) (w : World) (a : Option Addr) (n : Nat) (l : List UInt8) : Prop := ∀ W : World, (∀ k, X k → W.heap[k]? = w.heap[k]?) → Bytes W a n l
theorem two_cells {W : World} {n : Nat} {a b : Value} {t : TypeId} (h : W.heap[n]? = some (.cells #[a, b] t)) : W.cell? ⟨n, 0, none⟩ = some a ∧ W.cell? ⟨n, 1, none⟩ = some b := by
  simp [World.cell?, h]

set_option maxRecDepth 20000 in
set_option maxHeartbeats 4000000 in
theorem srefPut_there (X : Nat → Prop) (ia ra : Option Addr) (n ic rcp : Nat) (ids : List Int) (rows : List (List UInt8)) (w : World) (h : RM X w ia ra n ids rows) (hn : n ≤ 100000) (a : Option Addr) (m c : Nat) (l : List UInt8) (hb : Bytes w a m l) (hm : m ≤ maxLen) (k : Nat) (hk : fidx ids (idOf l) = some k) (hkn : k < n) :
    Calls Tryz.prog 13 #[.agg #[.slice ia n ic, .slice ra n rcp], .slice a m c] w fun e w' => e = .returned (.tuple #[.agg #[.slice ia n ic, .slice ra n rcp], .int .u64 (idOf l), .bool (decide (rc rows k = l))]) ∧ Below w.heap.size w w' := by
  obtain ⟨w0, hw0⟩ : ∃ w0, w0 = (w.alloc (.cells #[.slice ia n ic, .slice ra n rcp] 35)).alloc (.cells #[.slice none 0 0, .slice none 0 0] 35) := ⟨_, rfl⟩
  have hB0 : Below w.heap.size w w0 := by rw [hw0]; exact ((Below.refl _ w).alloc (Nat.le_refl _) _).alloc (by simp) _
  have k0 : w0.heap[w.heap.size]? = some (.cells #[.slice ia n ic, .slice ra n rcp] 35) := by
    rw [hw0, Below.heap_alloc _ _ _ (by simp)]; exact World.alloc_heap_new w _
  have k1 : w0.heap[w.heap.size + 1]? = some (.cells #[.slice none 0 0, .slice none 0 0] 35) := by
    have := World.alloc_heap_new (w.alloc (.cells #[.slice ia n ic, .slice ra n rcp] 35)) (.cells #[.slice none 0 0, .slice none 0 0] 35)
    rw [World.size_alloc] at this
    rw [hw0]; exact this
  have hs0 : w0.heap.size = w.heap.size + 2 := by rw [hw0]; simp
  have HB : Hid (∀ W, Below w.heap.size w W → Ids W ia n ids) := fun W hW => (h.below hW).ids
  have hfi : fidxI ids (idOf l) = (k : Int) := by unfold fidxI; rw [hk]
  have hid := fun W (hW : Below w.heap.size w W) => srefId_any a m c l W (bytes_below hb hW) hm
  have HFD : Hid (∀ W, Below w.heap.size w W → Calls Tryz.prog 15 #[.agg #[.slice ia n ic, .slice ra n rcp], .int .u64 (idOf l)] W fun e w' => e = .returned (.int .i64 (k : Int)) ∧ Below W.heap.size W w') := fun W hW => by
    have := srefFind_any ia n ic ra n rcp ids W (HB.out W hW) (by omega) (idOf l)
    rw [hfi] at this
    exact this
  obtain ⟨D, hD⟩ : ∃ D : Bool, D = decide (rc rows k = l) := ⟨_, rfl⟩
  have HD : Hid (D = decide (rc rows k = l)) := hD
  rw [← hD]
  generalize idOf l = I at *
  obtain ⟨t0, t1⟩ := two_cells k0
  have hx0 := hid w0 hB0
  obtain ⟨E, hE⟩ := h.all
  obtain ⟨b1, o1, rfl, hck, hyk⟩ := (hE w (fun _ _ => rfl)).2 k hkn
  obtain ⟨xk, mk, ck, lk, hEk⟩ : ∃ x m c l, E k = ⟨x, m, c, l⟩ := ⟨_, _, _, _, rfl⟩
  rw [hEk] at hck hyk
  simp only at hck hyk
  clear hfi hk hD h hid HB hE hEk
  go_enter Tryz.func13, Tryz.ntmps13
  go_wp2_with fail
  rw [← hw0]
  refine hx0.mono ?_
  clear hx0
  rintro e w1 ⟨rfl, hw1⟩
  subst hw1
  clear hw0
  go_wp2_with fail
  refine (HFD.out _ hB0).mono ?_
  clear HFD
  rintro e w2 ⟨rfl, hB2⟩
  have hB02 : Below w.heap.size w w2 := hB0.trans (hB2.mono hB0.size)
  have e0 := two_cells ((hB2.block _ (by omega)).trans k0)
  have e1 := (hB2.block _ (by omega)).trans k1
  obtain ⟨t2, t3⟩ := e0
  have hck2 : w2.cell? ⟨b1, o1 + k, none⟩ = some (.slice xk mk ck) := (hB02.cell (p := ⟨b1, o1 + k, none⟩) (World.block_lt_of_cell? w _ hck)).trans hck
  have hBd : Below w.heap.size w w2.drew := ⟨hB02.os, hB02.tape, hB02.output, hB02.size, hB02.block⟩
  have hBe : Below w.heap.size w ((w2.setCell ⟨w.heap.size + 1, 0, none⟩ (.slice ia n ic)).setCell ⟨w.heap.size + 1, 1, none⟩ (.slice (some ⟨b1, o1, none⟩) n rcp)) := (hB02.setCell (p := ⟨w.heap.size + 1, 0, none⟩) (by simp) _).setCell (p := ⟨w.heap.size + 1, 1, none⟩) (by simp) _
  have hBf : Below w.heap.size w ((w2.setCell ⟨w.heap.size + 1, 0, none⟩ (.slice ia n ic)).setCell ⟨w.heap.size + 1, 1, none⟩ (.slice (some ⟨b1, o1, none⟩) n rcp)).drew := ⟨hBe.os, hBe.tape, hBe.output, hBe.size, hBe.block⟩
  have hck3 : ((w2.setCell ⟨w.heap.size + 1, 0, none⟩ (.slice ia n ic)).setCell ⟨w.heap.size + 1, 1, none⟩ (.slice (some ⟨b1, o1, none⟩) n rcp)).cell? ⟨b1, o1 + k, none⟩ = some (.slice xk mk ck) := (hBe.cell (p := ⟨b1, o1 + k, none⟩) (World.block_lt_of_cell? w _ hck)).trans hck
  have t5 : ((w2.setCell ⟨w.heap.size + 1, 0, none⟩ (.slice ia n ic)).setCell ⟨w.heap.size + 1, 1, none⟩ (.slice (some ⟨b1, o1, none⟩) n rcp)).cell? ⟨w.heap.size, 1, none⟩ = some (.slice (some ⟨b1, o1, none⟩) n rcp) := by
    rw [World.cell?_setCell_other _ _ _ _ (by simp), World.cell?_setCell_other _ _ _ _ (by simp)]; exact t3
  have r1 := run_string _ xk mk ck _ (bytes_below hyk hBd)
  have r2 := run_string _ a m c _ (bytes_below hb hBd)
  have r3 := run_string _ xk mk ck _ (bytes_below hyk hBf)
  have r4 := run_string _ a m c _ (bytes_below hb hBf)
  have HBE : Hid (Below w.heap.size w ((w2.setCell ⟨w.heap.size + 1, 0, none⟩ (.slice ia n ic)).setCell ⟨w.heap.size + 1, 1, none⟩ (.slice (some ⟨b1, o1, none⟩) n rcp)).drew) := hBf
  have i1 : (k : Int) < (n : Int) := by omega
  have i2 : ¬ n ≤ k := by omega
  clear k0 k1 t0 t1 hBd hBe hBf hck hB2 hB02
  obtain ⟨u2, u3⟩ := two_cells e1
  have f0 : w2.frozen? ⟨w.heap.size + 1, 0, none⟩ = false := by simp [World.frozen?, e1]
  have f1 : w2.frozen? ⟨w.heap.size + 1, 1, none⟩ = false := by simp [World.frozen?, e1]
  have hDD : (rc rows k == l) = D := by rw [HD.out]; by_cases e : rc rows k = l <;> simp [e]
  have z1 : ((w2.setCell ⟨w.heap.size + 1, 0, none⟩ (.slice ia n ic)).setCell ⟨w.heap.size + 1, 1, none⟩ (.slice (some ⟨b1, o1, none⟩) n rcp)).cell? ⟨w.heap.size + 1, 1, none⟩ = some (.slice (some ⟨b1, o1, none⟩) n rcp) := World.cell?_setCell_same _ _ _ (by rw [World.cell?_setCell_other _ _ _ _ (by simp)]; exact u3)
  have z0 : ((w2.setCell ⟨w.heap.size + 1, 0, none⟩ (.slice ia n ic)).setCell ⟨w.heap.size + 1, 1, none⟩ (.slice (some ⟨b1, o1, none⟩) n rcp)).cell? ⟨w.heap.size + 1, 0, none⟩ = some (.slice ia n ic) := by
    rw [World.cell?_setCell_other _ _ _ _ (by simp)]; exact World.cell?_setCell_same _ _ _ u2
  go_wp2_with fail
  go_region_law (fail)
  all_goals
    go_wp2_with fail
    refine bodyPost_ret (v := .tuple #[.agg #[.slice ia n ic, .slice (some ⟨b1, o1, none⟩) n rcp], .int .u64 I, .bool D]) (by simp [results, Tryz.results13, go_sem, z0, z1]) rfl ⟨rfl, HBE.out⟩
end Go.Proofs.YthalpnpnbclipaaGreat
