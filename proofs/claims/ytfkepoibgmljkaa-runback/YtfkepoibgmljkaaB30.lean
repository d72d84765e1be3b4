import Derived.Test.YtfkepoibgmljkaaB29
import Derived.Test.YtfkepoibgmljkaaB10
import Derived.ProofKit
import Derived.OpenShut
import Derived.ShutString
import Derived.ChangeOld
import Derived.SizedLaws
import Derived.Deep.Slices
import Derived.Test.YtfkepoibgmljkaaB26
import Derived.Test.YtfkepoibgmljkaaB23
import Derived.Test.YtfkepoibgmljkaaB21
import Derived.Test.YtfkepoibgmljkaaB05
/- The law's wakes. -/
namespace Go.Proofs.Ytfkepoibgmljkaa
open Go.RowKit Go.Shelf Go.Maps Go.Lib

attribute [local go_sem] Oper.semAt_some

/-- the bytes that Make answers, as a slice -/
theorem own_slice {w : World} {B n c : Nat} {ad : Option Addr} {l : List UInt8} (h : w.ownsRow B 5 1 (.slice ad n c) n (cellsOf l)) : Bytes w ad n l ∧ (ad = none → n = 0 ∧ c = 0) ∧ n ≤ c := by
  obtain ⟨ad', c', e, h1, h2⟩ := vrow_shape h
  cases e
  exact ⟨vrow_bytes h, h2, h1⟩
def wakeL : List Pr := [(7, 0), (3, 9)]
theorem wake_make {w w' : World} {v : Value} {er : Int} (h : MakeE wakeL w v er w') : er = 0 ∧ ∃ d ad cp, v = .slice ad (runB d).length cp ∧ Bytes w' ad (runB d).length (runB d) ∧ (ad = none → (runB d).length = 0) ∧ (runB d).length ≤ cp ∧ (runB d).length ≤ 100 ∧ pairsR (runB d) = some d ∧ d.length = 2 ∧ lookP d 3 = some 9 := by
  rcases h with ⟨⟨p, hp, h0⟩, _⟩ | ⟨_, h2, _⟩ | ⟨d, ad, cp, hg, hp, _, ho, rfl, rfl, hown⟩
  · simp [wakeL] at hp
    rcases hp with rfl | rfl <;> simp at h0
  · exact absurd (by decide : Once wakeL) h2
  · obtain ⟨h1, h2, h3⟩ := own_slice hown
    refine ⟨rfl, d, ad, cp, rfl, h1, fun e => (h2 e).1, h3, ?_, pairs_runB hg, by rw [hp.length_eq]; rfl, ?_⟩
    · have hl := hp.length_eq
      have : wakeL.length = 2 := rfl
      have := short_len d.length
      rw [runB_len]
      omega
    · rw [look_perm (ho.perm hp.symm) hp 3]
      rfl
set_option maxRecDepth 100000 in
set_option maxHeartbeats 4000000 in
theorem vwakes_any (w : World) : Calls Try.prog 5 #[] w fun e w' => e = .returned (.bool true) ∧ Below w.heap.size w w' := by
  have hB0 : Below w.heap.size w (w.alloc (.cells #[.int .u64 7, .int .u64 0, .int .u64 3, .int .u64 9] 32)) := (Below.refl _ w).alloc (Nat.le_refl _) _
  have hrow : RowV (w.alloc (.cells #[.int .u64 7, .int .u64 0, .int .u64 3, .int .u64 9] 32)) w.heap.size wakeL := World.alloc_heap_new w _
  have hm := make_any _ (some ⟨w.heap.size, 0, none⟩) 2 2 wakeL hrow.prs (fun p hp => by simp [wakeL] at hp; rcases hp with rfl | rfl <;> decide) (fun h => by cases h) (by omega)
  have HB0 : Hid (Below w.heap.size w (w.alloc (.cells #[.int .u64 7, .int .u64 0, .int .u64 3, .int .u64 9] 32))) := hB0
  clear hB0 hrow
  go_enter Try.func5, Try.ntmps5
  go_wp2_with fail
  refine hm.mono ?_
  clear hm
  rintro e w1 ⟨v, er, rfl, hE, hB⟩
  obtain ⟨rfl, d, ad, cp, rfl, hby, hnil, hcap, hlen, hp, hd2, hlk⟩ := wake_make hE
  have H1 : Hid (Bytes w1 ad (runB d).length (runB d) ∧ Below w.heap.size w w1) := ⟨hby, HB0.out.trans (hB.mono HB0.out.size)⟩
  have hf := find_any w1 ad (runB d).length cp 3 (runB d) hby hnil hcap (by omega)
  rw [findR_some hp hlk] at hf
  have HC : Hid (∀ W, Below w1.heap.size w1 W → Calls Try.prog 15 #[.slice ad (runB d).length cp] W fun e w' => e = .returned (.tuple #[.int .i64 2, .int .i64 0]) ∧ Below W.heap.size W w') := fun W hW => by
    refine (vcheck_any W ad (runB d).length cp (runB d) (vbytes_below hby hW) hnil hcap (by omega)).mono ?_
    rintro e w' ⟨k, er, rfl, (⟨h, _⟩ | ⟨l, h, rfl, rfl⟩), hB'⟩
    · rw [hp] at h; cases h
    · rw [hp] at h
      cases h
      rw [hd2]
      exact ⟨rfl, hB'⟩
  clear hE hB hby hnil hcap hlen hp hd2 hlk HB0
  generalize (runB d).length = N at *
  go_wp2_with first
    | (go_at_call 14; refine hf.mono ?_; clear hf; rintro e w2 ⟨rfl, hB2⟩)
    | (go_at_call 15; refine (HC.out w2 hB2).mono ?_; clear HC; rintro e w3 ⟨rfl, hB3⟩)
  go_ret
  have h2 := H1.out.2.trans (hB2.mono H1.out.2.size)
  exact ⟨rfl, h2.trans (hB3.mono h2.size)⟩
end Go.Proofs.Ytfkepoibgmljkaa

/- The law's some: at most so many pairs; pairs copied into a row of one's own. -/
namespace Go.Proofs.Ytfkepoibgmljkaa
open Go.RowKit Go.Shelf Go.Maps Go.Lib

attribute [local go_sem] Oper.semAt_some

theorem some_any (w : World) (a : Option Addr) (n c m : Nat) (hcap : n ≤ c) :
    Calls Try.prog 7 #[.slice a n c, .int .i64 (m : Int)] w fun e w' => e = .returned (.slice a (min n m) c) ∧ w' = w := by
  by_cases h : n ≤ m
  · have i1 : ¬ (m : Int) < (n : Int) := by omega
    rw [Nat.min_eq_left h]
    go_enter Try.func7, Try.ntmps7
    go_wp2
    go_ret
    exact ⟨rfl, rfl⟩
  · have i1 : (m : Int) < (n : Int) := by omega
    have i2 : (m : Int) ≤ (c : Int) := by omega
    have i3 : (0 : Int) ≤ (m : Int) := by omega
    rw [Nat.min_eq_right (by omega)]
    go_enter Try.func7, Try.ntmps7
    go_wp2
    go_ret
    exact ⟨rfl, rfl⟩
end Go.Proofs.Ytfkepoibgmljkaa

/- Slices of pairs, and bytes, that came in, opened. -/
namespace Go.Proofs.Ytfkepoibgmljkaa
open Go.ChangeShapes Go.WideShapes Go.ChangeAt Go.RowKit

/-- a slice of pairs, as it came in -/
structure PrIn (W : World) (a : Option Addr) (n c : Nat) (l : List Pr) : Prop where
  prs : Prs W a n l
  ok : PrOk l
  nil : a = none → n = 0 ∧ c = 0
  cap : n ≤ c
set_option maxRecDepth 100000 in
theorem pairs_cell {H : Type} {enc : TypeId × Value → H} {W : World} {fuel : Nat} {v : Value} {x0 : DataW H × List MemPlace} (hf : DataW.trod enc Try.prog W 0 (fun _ => true) true fuel 25 [v] = some x0) :
    ∃ a n cap l, v = .slice a n cap ∧ PrIn W a n cap l := by
  rcases Deep.open_slice Try.underlying25 hf with ⟨hcs, _⟩ | ⟨x, n, cap, m, j, D, Pl, hcs, _, hl, hmx, hm, hx, hel⟩
  · simp only [List.cons.injEq, and_true] at hcs
    subst hcs
    exact ⟨none, 0, 0, [], rfl, ⟨rfl, fun h0 => by omega⟩, PrOk.nil, fun _ => ⟨rfl, rfl⟩, Nat.le_refl _⟩
  · simp only [List.cons.injEq, and_true] at hcs
    subst hcs
    simp only [if_true] at hm
    have hcell : ∀ i, i < n → ∃ o : Pr, W.cell? (x.add (i * 2)) = some (.int .u64 (o.1 : Int)) ∧ W.cell? (x.add (i * 2 + 1)) = some (.int .u64 (o.2 : Int)) ∧ o.1 < 18446744073709551616 ∧ o.2 < 18446744073709551616 := by
      intro i hi
      obtain ⟨cs', hc1, hc2⟩ := hel i (by omega)
      rw [show Try.prog.cellsOf 32 = 2 from by kernel_rfl] at hc1
      obtain ⟨xs, fu, _, _, _, hxl, hfl⟩ := DataW.trod_struct Try.underlying32 hc2
      obtain ⟨_, hlen2, hget⟩ := World.cells?_some hc1
      have e39 : Try.prog.cellsOf 30 = 1 := by kernel_rfl
      match cs', hlen2, xs, hxl with
      | [z0, z1], _, [y0, y1], _ =>
        have f0 : DataW.trod enc Try.prog W 0 (fun _ => true) true fu 30 [z0] = some y0 := by simpa [e39] using hfl 0 _ rfl
        have f1 : DataW.trod enc Try.prog W 0 (fun _ => true) true fu 30 [z1] = some y1 := by simpa [e39] using hfl 1 _ rfl
        obtain ⟨k0, c0, _, w0⟩ := DataW.trod_int Try.underlying30 f0
        obtain ⟨k1, c1, _, w1⟩ := DataW.trod_int Try.underlying30 f1
        simp only [List.cons.injEq, and_true] at c0 c1
        subst c0 c1
        have g0 := hget 0 (by simp)
        have g1 := hget 1 (by simp)
        rw [Deep.add_add] at g0 g1
        have b0 := bounds_u64 w0
        have b1 := bounds_u64 w1
        refine ⟨(k0.toNat, k1.toNat), ?_, ?_, by show k0.toNat < _; omega, by show k1.toNat < _; omega⟩
        · have e : ((k0.toNat : Nat) : Int) = k0 := by omega
          show _ = some (Value.int .u64 ((k0.toNat : Nat) : Int))
          rw [e]
          simpa using g0
        · have e : ((k1.toNat : Nat) : Int) = k1 := by omega
          show _ = some (Value.int .u64 ((k1.toNat : Nat) : Int))
          rw [e]
          simpa using g1
    obtain ⟨g, hg⟩ := Deep.choose_lt hcell
    have hgy : ∀ (i : Nat) y, ((List.range n).map g)[i]? = some y → i < n ∧ y = g i := fun i y hy => by
      have hi : i < n := by have := (List.getElem?_eq_some_iff.1 hy).1; simpa using this
      rw [List.getElem?_map, List.getElem?_range hi] at hy
      exact ⟨hi, (Option.some.inj hy).symm⟩
    refine ⟨some x, n, cap, (List.range n).map g, rfl, ⟨by simp, fun h0 => ?_⟩, fun p hp => ?_, (fun h => by cases h), hl⟩
    · obtain ⟨b, off, spot⟩ := x
      have hc := (hg 0 h0).1
      have hspot : spot = none := by simpa [Addr.add] using World.cell?_spot hc
      subst hspot
      refine ⟨b, off, rfl, fun i y hy => ?_⟩
      obtain ⟨hi, rfl⟩ := hgy i y hy
      obtain ⟨e1, e2, _⟩ := hg i hi
      rw [Addr.add_lit] at e1 e2
      rw [← Nat.add_assoc] at e2
      exact ⟨e1, e2⟩
    · obtain ⟨i, hi, rfl⟩ := List.mem_map.1 hp
      exact (hg i (List.mem_range.1 hi)).2.2
set_option maxRecDepth 100000 in
theorem pairs_arg {H : Type} {enc : TypeId × Value → H} {W : World} {base : Nat} {v : Value} {d : DataW H} {ps : List MemPlace} (hok : Value.okWide Try.prog W .any base 25 v)
    (h : DataW.Trod enc Try.prog W 0 (fun _ => true) true 25 v d ps) :
    ∃ a n cap l, v = .slice a n cap ∧ PrIn W a n cap l := by
  obtain ⟨a, n, cap, rfl⟩ := okWide_slice Try.underlying25 hok
  obtain ⟨fuel, hf⟩ := h
  simp only [Value.cells] at hf
  exact pairs_cell hf
/-- bytes, as they came in -/
structure ByIn (W : World) (a : Option Addr) (n c : Nat) (l : List UInt8) : Prop where
  by_ : Bytes W a n l
  nil : a = none → n = 0 ∧ c = 0
  cap : n ≤ c
  sml : c ≤ maxLen
set_option maxRecDepth 100000 in
theorem bytes_cell {H : Type} {enc : TypeId × Value → H} {W : World} {fuel : Nat} {v : Value} {x0 : DataW H × List MemPlace} (hf : DataW.trod enc Try.prog W 0 (fun _ => true) true fuel 23 [v] = some x0) :
    ∃ a n cap l, v = .slice a n cap ∧ ByIn W a n cap l := by
  rcases open_ints Try.underlying23 Try.underlying5 (by kernel_rfl) hf with ⟨hcs, _⟩ | ⟨x, l, c, zs, hcs, _, hl, hm, hz, hx, hcell, hwz⟩
  · simp only [List.cons.injEq, and_true] at hcs
    subst hcs
    exact ⟨none, 0, 0, [], rfl, ⟨rfl, fun h0 => by omega⟩, fun _ => ⟨rfl, rfl⟩, Nat.le_refl _, by unfold maxLen; omega⟩
  · simp only [List.cons.injEq, and_true] at hcs
    subst hcs
    have hz' : l ≤ zs.length := by simp only [if_true] at hz; omega
    refine ⟨some x, l, c, (zs.take l).map fun z => UInt8.ofNat z.toNat, rfl, ⟨by simp; omega, fun h0 => ?_⟩, (fun h => by cases h), hl, hm⟩
    obtain ⟨b, off, spot⟩ := x
    have hc := hcell 0 (by omega)
    have hspot : spot = none := by simpa [Addr.add] using World.cell?_spot hc
    subst hspot
    refine ⟨b, off, rfl, fun i hi => ?_⟩
    have hci := hcell i (by omega)
    rw [Addr.add_lit] at hci
    rw [hci]
    have hb : 0 ≤ zs.getD i 0 ∧ zs.getD i 0 ≤ 255 := by
      rw [List.getD_eq_getElem?_getD]
      exact range_u8 hwz i
    have e : bt ((zs.take l).map (fun z => UInt8.ofNat z.toNat)) i = zs.getD i 0 := by
      unfold bt
      have e1 : ((zs.take l).map (fun z => UInt8.ofNat z.toNat)).getD i 0 = UInt8.ofNat (zs.getD i 0).toNat := by
        simp [List.getD, hi, show i < zs.length by omega]
      rw [e1, UInt8.toNat_ofNat']
      omega
    rw [e]
set_option maxRecDepth 100000 in
theorem bytes_arg {H : Type} {enc : TypeId × Value → H} {W : World} {base : Nat} {v : Value} {d : DataW H} {ps : List MemPlace} (hok : Value.okWide Try.prog W .any base 23 v)
    (h : DataW.Trod enc Try.prog W 0 (fun _ => true) true 23 v d ps) :
    ∃ a n cap l, v = .slice a n cap ∧ ByIn W a n cap l := by
  obtain ⟨a, n, cap, rfl⟩ := okWide_slice Try.underlying23 hok
  obtain ⟨fuel, hf⟩ := h
  simp only [Value.cells] at hf
  exact bytes_cell hf
end Go.Proofs.Ytfkepoibgmljkaa

/- The walk of RunMakes. -/
namespace Go.Proofs.Ytfkepoibgmljkaa
open Go.RowKit Go.Shelf Go.Maps Go.Lib

attribute [local go_sem] Oper.semAt_some

set_option maxRecDepth 20000 in
theorem vstep_bytesG (w : World) {ops : Array Oper} {o : Oper} {a : Act} {K : Act → World → Prop} {Q : Exit → Act → World → Prop} {E : Prop} (hw : Region.wanted o (yielded ops a.tmps) = true) (x : Nat) (t1 : TypeId)
    (ho : o.op = .call { callee := .value (.func 8), args := #[.tmp x], argTypes := #[t1] }) (vx : Value) (hx : a.tmps[x]?.getD undef = vx) (R : Value → World → Prop)
    (hc : Calls Try.prog 8 #[vx] w fun e w' => ∃ v, e = .returned v ∧ R v w') (hK : ∀ v w', R v w' → K (a.put o.dst v) w') :
    if Region.wanted o (yielded ops a.tmps) = true then Oper.wp Try.prog o a w K Q else E := by
  rw [if_pos hw]
  unfold Oper.wp execOp
  simp [ho, resolve, invoke, go_sem, hx]
  refine hc.mono ?_
  rintro e w' ⟨v, rfl, hR⟩
  have := hK v w' hR
  simpa [go_sem] using this
theorem vstep_strG (w : World) {ops : Array Oper} {o : Oper} {a : Act} {K : Act → World → Prop} {Q : Exit → Act → World → Prop} {E : Prop} (hw : Region.wanted o (yielded ops a.tmps) = true) (x : Nat)
    (ho : o.op = .convert 23 9 (.tmp x)) (vx : Value) (hx : a.tmps[x]?.getD undef = vx) (v : Value) (hr : (convert 23 9 vx).run Try.prog w = .ok v w) (hK : K (a.put o.dst v) w) :
    if Region.wanted o (yielded ops a.tmps) = true then Oper.wp Try.prog o a w K Q else E := by
  rw [if_pos hw]
  unfold Oper.wp execOp
  simp [ho, go_sem, hx, hr]
  simpa [go_sem] using hK
theorem mk_zero {l : List Pr} (h : ∃ p ∈ l, p.1 = 0) : ∃ j : Nat, idxF l 0 0 = (j : Int) := by
  cases hl : lookP l 0 with
  | none =>
    obtain ⟨p, hp, e⟩ := h
    exact absurd e ((look_none l 0).1 hl p hp)
  | some y =>
    obtain ⟨j, hj, _⟩ := idxF_some l 0 0 y hl
    exact ⟨0 + j, hj⟩
theorem mk_none {l : List Pr} (h : ∀ p ∈ l, p.1 ≠ 0) : idxF l 0 0 = -1 := idxF_none l 0 0 ((look_none l 0).2 h)

end Go.Proofs.Ytfkepoibgmljkaa
