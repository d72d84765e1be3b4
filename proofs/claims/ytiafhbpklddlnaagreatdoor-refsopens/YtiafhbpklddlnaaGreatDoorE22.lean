import Derived.Test.YtiafhbpklddlnaaGreatDoorE21
import Derived.ProofKit
import Derived.OpenShut
import Derived.ShutString
import Derived.ChangeOld
import Derived.SizedLaws
import Derived.Deep.Slices
/- The walk of check: why changes may not be made at once. -/
namespace Go.Proofs.YtiafhbpklddlnaaGreatDoor
open Go.RowKit Go.Maps

attribute [local go_sem] Oper.semAt_some

/-- a change: a name and an id -/
abbrev Ch := ByteArray × Int
/-- a slice of changes -/
def Chs (w : World) (a : Option Addr) (n : Nat) (l : List Ch) : Prop := l.length = n ∧ (0 < n → ∃ b off, a = some ⟨b, off, none⟩ ∧ ∀ (j : Nat) x, l[j]? = some x → w.cell? ⟨b, off + j * 2, none⟩ = some (.string x.1) ∧ w.cell? ⟨b, off + j * 2 + 1, none⟩ = some (.int .u64 x.2))
theorem Chs.kept {w w' : World} {a : Option Addr} {n : Nat} {l : List Ch} (h : Chs w a n l) (hB : Below w.heap.size w w') : Chs w' a n l :=
  ⟨h.1, fun h0 => by
    obtain ⟨b, off, e, hc⟩ := h.2 h0
    refine ⟨b, off, e, fun j x hx => ?_⟩
    obtain ⟨h1, h2⟩ := hc j x hx
    exact ⟨(hB.cell (p := ⟨b, off + j * 2, none⟩) (World.block_lt_of_cell? w _ h1)).trans h1, (hB.cell (p := ⟨b, off + j * 2 + 1, none⟩) (World.block_lt_of_cell? w _ h2)).trans h2⟩⟩
/-- names are as long as a text may be -/
def ShortR (l : List Ch) : Prop := ∀ (j : Nat) x, l[j]? = some x → x.1.size ≤ maxLen

def addA (A : List UInt8 → Bool) (s : List UInt8) : List UInt8 → Bool := fun k => k == s || A k
/-- the first thing wrong with changes behind those whose names A holds of, that leave c names -/
def chkFrom (g : List UInt8 → Int) : (List UInt8 → Bool) → Int → List Ch → Int
  | _, c, [] => if 64 < c then 3 else 0
  | A, c, x :: r => if chgErr g A x.1 x.2 ≠ 0 then chgErr g A x.1 x.2 else chkFrom g (addA A (bs x.1)) (c + growR g x.1 x.2) r
def chkR (g : List UInt8 → Int) (n : Nat) (l : List Ch) : Int := chkFrom g (fun _ => false) n l
theorem chkFrom_drop (g : List UInt8 → Int) (A : List UInt8 → Bool) (c : Int) (l : List Ch) (k : Nat) (x : Ch) (h : l[k]? = some x) : chkFrom g A c (l.drop k) = if chgErr g A x.1 x.2 ≠ 0 then chgErr g A x.1 x.2 else chkFrom g (addA A (bs x.1)) (c + growR g x.1 x.2) (l.drop (k + 1)) := by
  have hk := (List.getElem?_eq_some_iff.1 h).1
  rw [List.drop_eq_getElem_cons hk]
  have : l[k] = x := (List.getElem?_eq_some_iff.1 h).2
  rw [this]
  rfl
theorem growR_le (g : List UInt8 → Int) (s : ByteArray) (i : Int) : -1 ≤ growR g s i ∧ growR g s i ≤ 1 := by
  unfold growR
  repeat' split
  all_goals omega

/-- block b of w is a map of names to numbers that has the names that A holds of -/
def AhAt (w : World) (b : Nat) (A : List UInt8 → Bool) (k : Nat) : Prop := ∃ M : DataW Value, w.ownsMap Tryz.prog 9 rvR b (size M) M ∧ size M ≤ k ∧ (∀ l, has M (.string l) = A l) ∧ ∀ l, ∃ u : Int, M.atKey (.string l) (.held (.int .i64 0)) = .held (.int .i64 u)
theorem zeroIntV (w : World) : (zeroValue 3).run Tryz.prog w = .ok (.int .i64 0) w := by kernel_rfl
theorem AhAt.look {w : World} {b : Nat} {A : List UInt8 → Bool} {k : Nat} (h : AhAt w b A k) (s : ByteArray) (hs : s.size ≤ maxLen) (W : World) (hW : W.heap[b]? = w.heap[b]?) : ∃ u, (Instr.lookup 108 (.map (some b)) (.string s) true).run Tryz.prog W = .ok (.tuple #[.int .i64 u, .bool (A (bs s))]) W := by
  obtain ⟨M, h1, h2, h3, h4⟩ := h
  obtain ⟨u', ps, hrun, hu'⟩ := (ownsMap_keptR h1 hW).look_ok keyed Tryz.underlying108 (zeroIntV W) (show rvR (.int .i64 0) = some (.held (.int .i64 0), []) from rfl) (keyOfS s hs)
  obtain ⟨u, hu⟩ := h4 s.data.toList
  rw [hu] at hu'
  simp only [rvR, Option.some.injEq, Prod.mk.injEq] at hu'
  obtain ⟨e, _⟩ := hu'
  cases e
  rw [h3] at hrun
  exact ⟨u, hrun⟩
theorem AhAt.kept {w w' : World} {b : Nat} {A : List UInt8 → Bool} {k : Nat} (h : AhAt w b A k) (hk : w'.heap[b]? = w.heap[b]?) : AhAt w' b A k := by
  obtain ⟨M, h1, h2⟩ := h
  exact ⟨M, ownsMap_keptR h1 hk, h2⟩
theorem AhAt.lt {w : World} {b : Nat} {A : List UInt8 → Bool} {k : Nat} (h : AhAt w b A k) : b < w.heap.size := by
  obtain ⟨M, h1, h2⟩ := h
  exact h1.lt
theorem AhAt.put {w : World} {b : Nat} {A : List UInt8 → Bool} {k : Nat} (h : AhAt w b A k) (s : ByteArray) (hs : s.size ≤ maxLen) (hk : k < maxLen) (i : Int) : ∃ w2, (Instr.mapUpdate 108 (.map (some b)) (.string s) (.int .i64 i)).run Tryz.prog w = .ok () w2 ∧ AhAt w2 b (addA A (bs s)) (k + 1) ∧ w.grownBy w2 (some b) := by
  obtain ⟨M, h1, h2, h3, h4⟩ := h
  obtain ⟨w2, hrun, own2, hg2⟩ := h1.update keyed Tryz.underlying108 (by omega) (keyOfS s hs) (show rvR (.int .i64 i) = some (.held (.int .i64 i), []) from rfl)
  have hm := h1.isMap
  have htidy := h1.tidy keyed
  refine ⟨w2, hrun, ⟨_, ownsMap_tightR own2, ?_, fun l => ?_, fun l => ?_⟩, hg2⟩
  · rw [size_put htidy]
    split <;> omega
  · by_cases e : l = s.data.toList
    · subst e; rw [has_put_same hm (keyLit _)]; simp [addA, bs]
    · rw [has_put_other (keyNeS e), h3]; simp [addA, bs, e]
  · by_cases e : l = s.data.toList
    · subst e; exact ⟨i, atKey_put_same hm (keyLit _) _ _⟩
    · rw [atKey_put_other (keyNeS e)]; exact h4 l

theorem rlen_any (w : World) (r d j b : Nat) (M : DataW Value) (rs : List (List UInt8)) (g : List UInt8 → Int) (n sz : Nat) (cut : Bool) (FJ F : Nat → Prop) (h : RfAt w r d j b M rs g n sz cut FJ F) :
    Calls Tryz.prog 19 #[.pointer (some ⟨r, 0, none⟩)] w fun e w' => e = .returned (.int .i64 n) ∧ w' = w := by
  have c1 := h.c1
  have hl := fun ty => h.own.len Tryz.underlying63 ty
  rw [h.msz] at hl
  clear h
  go_enter Tryz.func19, Tryz.ntmps19
  go_wp2
  go_ret
  exact ⟨rfl, rfl⟩

theorem chk_step {w wr w2 : World} {A : List UInt8 → Bool} {k : Nat} (hB : Below w.heap.size w wr) (hA : AhAt wr w.heap.size A k) (nm : ByteArray) (id : Int) (hs : nm.size ≤ maxLen) (hk : k < maxLen) (hB2 : Below (wr.alloc (.cells #[.string nm, .int .u64 id] 38)).heap.size (wr.alloc (.cells #[.string nm, .int .u64 id] 38)) w2) (i : Int) :
    ∃ w3, (Instr.mapUpdate 108 (.map (some w.heap.size)) (.string nm) (.int .i64 i)).run Tryz.prog w2 = .ok () w3 ∧ w2.cell? ⟨wr.heap.size, 0, none⟩ = some (.string nm) ∧ w2.cell? ⟨wr.heap.size, 1, none⟩ = some (.int .u64 id) ∧ w3.cell? ⟨wr.heap.size, 0, none⟩ = some (.string nm) ∧ w3.cell? ⟨wr.heap.size, 1, none⟩ = some (.int .u64 id) ∧ Hid (Below w.heap.size w w3 ∧ AhAt w3 w.heap.size (addA A (bs nm)) (k + 1)) := by
  have hlt := hA.lt
  have d0 : (wr.alloc (.cells #[.string nm, .int .u64 id] 38)).cell? ⟨wr.heap.size, 0, none⟩ = some (.string nm) := by simp only [World.cell?, World.alloc_heap_new]; rfl
  have d1 : (wr.alloc (.cells #[.string nm, .int .u64 id] 38)).cell? ⟨wr.heap.size, 1, none⟩ = some (.int .u64 id) := by simp only [World.cell?, World.alloc_heap_new]; rfl
  have hBa : Below wr.heap.size wr (wr.alloc (.cells #[.string nm, .int .u64 id] 38)) := (Below.refl _ wr).alloc (Nat.le_refl _) _
  have h12 : Below wr.heap.size wr w2 := hBa.trans (hB2.mono (by rw [World.size_alloc]; exact Nat.le_succ _))
  have hBw : Below w.heap.size w w2 := hB.trans (h12.mono hB.size)
  have q3 := (hB2.cell (p := ⟨wr.heap.size, 0, none⟩) (by rw [World.size_alloc]; exact Nat.lt_succ_self _)).trans d0
  have q4 := (hB2.cell (p := ⟨wr.heap.size, 1, none⟩) (by rw [World.size_alloc]; exact Nat.lt_succ_self _)).trans d1
  have hA2 : AhAt w2 w.heap.size A k := hA.kept (h12.block _ hlt)
  obtain ⟨w3, hupd, hA3, hg3⟩ := hA2.put nm hs hk i
  have hne : some wr.heap.size ≠ some w.heap.size := fun e => by have := Option.some.inj e; omega
  exact ⟨w3, hupd, q3, q4, hg3.cell q3 hne, hg3.cell q4 hne, ⟨hg3.os.trans hBw.os, hg3.tape.trans hBw.tape, hg3.output.trans hBw.output, Nat.le_trans hBw.size hg3.size, fun z hz => (hg3.block z (Nat.lt_of_lt_of_le hz hBw.size) (fun e => absurd (Option.some.inj e) (Nat.ne_of_lt hz))).trans (hBw.block z hz)⟩, hA3⟩

set_option maxRecDepth 100000 in
set_option maxHeartbeats 4000000 in
theorem check_all (w : World) (r d j b : Nat) (M : DataW Value) (rs : List (List UInt8)) (g : List UInt8 → Int) (n sz : Nat) (cut : Bool) (FJ F : Nat → Prop) (h : RfAt w r d j b M rs g n sz cut FJ F) (a : Option Addr) (m c : Nat) (l : List Ch) (hl : Chs w a m l) (hs : ShortR l) (hm : m ≤ 1000000000000) (hn : n ≤ 1000000000000) :
    Calls Tryz.prog 23 #[.pointer (some ⟨r, 0, none⟩), .slice a m c] w fun e w' => e = .returned (.int .i64 (chkR g n l)) ∧ Below w.heap.size w w' := by
  have hlen := fun ty => h.own.len Tryz.underlying63 ty
  rw [h.msz] at hlen
  have c1 := h.c1
  have HH : Hid (RfAt w r d j b M rs g n sz cut FJ F) := h
  clear h
  have hmm := @run_makeMap Tryz.prog
  obtain ⟨E, hE⟩ : ∃ E, E = chkR g n l := ⟨_, rfl⟩
  rw [← hE]
  go_enter Tryz.func23, Tryz.ntmps23
  go_wp2
  have hll := hl.1
  have hA0 : AhAt (w.alloc (.map #[] 0)) w.heap.size (fun _ => false) 0 := ⟨.map [], World.ownsMap_made w Tryz.prog 9 rvR, Nat.le_refl _, fun _ => rfl, fun _ => ⟨0, rfl⟩⟩
  have hB0 : Below w.heap.size w (w.alloc (.map #[] 0)) := (Below.refl _ w).alloc (Nat.le_refl _) _
  clear hmm hlen c1
  go_loopw [5, 18] (fun q i wr => ∃ (k : Nat) (A : List UInt8 → Bool) (cc : Int), k ≤ m ∧ i = .int .i64 (k : Int) ∧ q = .int .i64 cc ∧ Hid (E = chkFrom g A cc (l.drop k) ∧ -(k : Int) ≤ cc ∧ cc ≤ n + k ∧ AhAt wr w.heap.size A k ∧ Below w.heap.size w wr)) (fun _ i _ => m - (intOf i).toNat)
  case atStart => exact ⟨0, _, _, Nat.zero_le _, rfl, rfl, hE, by omega, by omega, hA0, hB0⟩
  case round =>
    clear hE hA0 hB0
    obtain ⟨k, A, cc, hk, rfl, rfl, H⟩ := hrel
    by_cases hlt : k < m
    · obtain ⟨x, hx⟩ : ∃ x, l[k]? = some x := ⟨_, List.getElem?_eq_getElem (by omega)⟩
      obtain ⟨b1, o1, rfl, hc1⟩ := hl.2 (by omega)
      obtain ⟨t1, t2⟩ := hc1 k x hx
      have HD : Hid (E = _) := H.out.1.trans (chkFrom_drop g A cc l k x hx)
      have hsx := hs k x hx
      obtain ⟨_, hcl, hch, hAh, hBw⟩ := H.out
      have q1 := (hBw.cell (p := ⟨b1, o1 + k * 2, none⟩) (World.block_lt_of_cell? w _ t1)).trans t1
      have q2 := (hBw.cell (p := ⟨b1, o1 + k * 2 + 1, none⟩) (World.block_lt_of_cell? w _ t2)).trans t2
      have i2 : (k : Int) < (m : Int) := by omega
      have i3 : ¬ m ≤ k := by omega
      clear hc1 hx t1 t2 H
      obtain ⟨nm, id⟩ := x
      simp only at q1 q2 HD hsx
      have hBa : Below wr.heap.size wr (wr.alloc (.cells #[.string nm, .int .u64 id] 38)) := (Below.refl _ wr).alloc (Nat.le_refl _) _
      have hBa' : Below w.heap.size w (wr.alloc (.cells #[.string nm, .int .u64 id] 38)) := hBw.trans (hBa.mono hBw.size)
      have hahl := hAh.lt
      have hAa : AhAt (wr.alloc (.cells #[.string nm, .int .u64 id] 38)) w.heap.size A k := hAh.kept (hBa.block _ hahl)
      have hck := checkChange_any _ r d j b M rs g n sz cut FJ F (HH.out.below hBa') nm hsx id w.heap.size A (Nat.lt_of_lt_of_le hahl hBa.size) (fun W hW => hAa.look nm hsx W hW)
      have d0 : (wr.alloc (.cells #[.string nm, .int .u64 id] 38)).cell? ⟨wr.heap.size, 0, none⟩ = some (.string nm) := by simp only [World.cell?, World.alloc_heap_new]; rfl
      have d1 : (wr.alloc (.cells #[.string nm, .int .u64 id] 38)).cell? ⟨wr.heap.size, 1, none⟩ = some (.int .u64 id) := by simp only [World.cell?, World.alloc_heap_new]; rfl
      have HW : Hid (Below w.heap.size w wr ∧ AhAt wr w.heap.size A k ∧ -(k : Int) ≤ cc ∧ cc ≤ n + k) := ⟨hBw, hAh, hcl, hch⟩
      have HWa : Hid (Below w.heap.size w (wr.alloc (.cells #[.string nm, .int .u64 id] 38))) := hBa'
      have hgl := growR_le g nm id
      have hgr := fun W (h : RfAt W r d j b M rs g n sz cut FJ F) => grows_any W r d j b M rs g n sz cut FJ F h nm hsx id
      have w1 : -9223372036854775808 ≤ cc + growR g nm id := by omega
      have w2' : cc + growR g nm id ≤ 9223372036854775807 := by omega
      clear hBa hBa' hAa hAh hBw hahl hcl hch
      generalize hGE : growR g nm id = gr at *
      generalize hCE : chgErr g A nm id = ce at *
      clear hCE hGE
      by_cases h1 : ce = 0
      · subst h1
        rw [if_neg (by simp)] at HD
        go_wp2_with first
          | (go_at_call 54; refine (hck).mono ?_; clear hck; rintro e w2 ⟨rfl, hB2⟩; obtain ⟨w3, hupd, q3, q4, q5, q6, H3⟩ := chk_step HW.out.1 HW.out.2.1 nm id hsx (by unfold maxLen; omega) hB2 (k : Int); clear hB2)
          | (go_at_call 55; refine (hgr _ (HH.out.below H3.out.1)).mono ?_; clear hgr; rintro e w4 ⟨rfl, hB5⟩; have HF : Hid (Below w.heap.size w w4 ∧ AhAt w4 w.heap.size (addA A (bs nm)) (k + 1)) := ⟨H3.out.1.trans (hB5.mono H3.out.1.size), H3.out.2.kept (hB5.block _ H3.out.2.lt)⟩; clear hB5)
        go_roundw
        case rel => exact ⟨k + 1, addA A (bs nm), cc + gr, by omega, by simp, rfl, HD.out, by have := HW.out.2.2.1; omega, by have := HW.out.2.2.2; omega, HF.out.2, HF.out.1⟩
        case measure => simp [intOf]; omega
      · rw [if_pos h1] at HD
        have h1' : (ce == 0) = false := beq_eq_false_iff_ne.2 h1
        go_wp2_with (go_at_call 54; refine (hck).mono ?_; clear hck; rintro e w2 ⟨rfl, hB2⟩; have hB3 : Hid (Below (wr.alloc (.cells #[.string nm, .int .u64 id] 38)).heap.size (wr.alloc (.cells #[.string nm, .int .u64 id] 38)) w2) := hB2;  clear hB2)
        go_ret
        exact ⟨by rw [HD.out]; rfl, HWa.out.trans (hB3.out.mono HWa.out.size)⟩
    · obtain rfl : k = m := by omega
      have i2 : ¬ (k : Int) < (k : Int) := by omega
      have e0 : E = if 64 < cc then 3 else 0 := by rw [H.out.1, ← hll, List.drop_length]; rfl
      by_cases h64 : 64 < cc
      · rw [if_pos h64] at e0
        subst e0
        go_wp2
        go_ret
        exact ⟨rfl, H.out.2.2.2.2⟩
      · rw [if_neg h64] at e0
        subst e0
        go_wp2
        go_ret
        exact ⟨rfl, H.out.2.2.2.2⟩
end Go.Proofs.YtiafhbpklddlnaaGreatDoor

/- A slice of bytes that came in, opened. -/
namespace Go.Proofs.YtiafhbpklddlnaaGreatDoor
open Go.ChangeShapes Go.WideShapes Go.ChangeAt Go.RowKit

theorem bytes_cellR {H : Type} {enc : TypeId × Value → H} {W : World} {fuel : Nat} {v : Value} {x : DataW H × List MemPlace} (hf : DataW.trod enc Tryz.prog W 0 (fun _ => true) true fuel 33 [v] = some x) :
    ∃ a n cap l, v = .slice a n cap ∧ Bytes W a n l ∧ n ≤ cap ∧ (a = none → n = 0 ∧ cap = 0) ∧ n ≤ maxLen := by
  rcases open_ints Tryz.underlying33 Tryz.underlying5 (by kernel_rfl) hf with ⟨hcs, _⟩ | ⟨x, n, cap, zs, hcs, _, hl, hm, hz, hx, hcell, hwz⟩
  · simp only [List.cons.injEq, and_true] at hcs
    subst hcs
    exact ⟨none, 0, 0, [], rfl, ⟨rfl, fun h0 => by omega⟩, Nat.le_refl _, fun _ => ⟨rfl, rfl⟩, Nat.zero_le _⟩
  · simp only [List.cons.injEq, and_true] at hcs
    subst hcs
    simp only [if_true] at hz
    refine ⟨some x, n, cap, (zs.take n).map (fun z => UInt8.ofNat z.toNat), rfl, ⟨by simp; omega, fun h0 => ?_⟩, hl, (fun h => by cases h), by omega⟩
    obtain ⟨b, off, spot⟩ := x
    have hc := hcell 0 (by omega)
    have hspot : spot = none := by simpa [Addr.add] using World.cell?_spot hc
    subst hspot
    refine ⟨b, off, rfl, fun i hi => ?_⟩
    have hci := hcell i (by omega)
    rw [Addr.add_lit] at hci
    rw [hci]
    have hb : 0 ≤ zs.getD i 0 ∧ zs.getD i 0 ≤ 255 := by
      rw [List.getD_eq_getElem?_getD]
      exact range_u8 hwz i
    have e : bt ((zs.take n).map (fun z => UInt8.ofNat z.toNat)) i = zs.getD i 0 := by
      unfold bt
      have e1 : ((zs.take n).map (fun z => UInt8.ofNat z.toNat)).getD i 0 = UInt8.ofNat (zs.getD i 0).toNat := by
        simp [List.getD, hi, show i < zs.length by omega]
      rw [e1, UInt8.toNat_ofNat']
      omega
    rw [e]
theorem bytes_capR {H : Type} {enc : TypeId × Value → H} {W : World} {fuel : Nat} {a : Option Addr} {n cap : Nat} {x : DataW H × List MemPlace} (hf : DataW.trod enc Tryz.prog W 0 (fun _ => true) true fuel 33 [.slice a n cap] = some x) : cap ≤ maxLen := by
  rcases open_ints Tryz.underlying33 Tryz.underlying5 (by kernel_rfl) hf with ⟨hcs, _⟩ | ⟨x, n, cap, zs, hcs, _, hl, hm, _⟩
  · simp only [List.cons.injEq, and_true, Value.slice.injEq] at hcs
    rw [hcs.2.2]; exact Nat.zero_le _
  · simp only [List.cons.injEq, and_true, Value.slice.injEq] at hcs
    rw [hcs.2.2]; exact hm
end Go.Proofs.YtiafhbpklddlnaaGreatDoor
