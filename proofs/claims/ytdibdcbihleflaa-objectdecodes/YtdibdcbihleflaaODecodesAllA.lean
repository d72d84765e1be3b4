import Derived.Test.YtdibdcbihleflaaODec2
import Derived.Test.YtdibdcbihleflaaOCommit4
import Derived.Deep.RegionLaw
import Derived.Test.YtdibdcbihleflaaOOdd
import Derived.Deep.Cut
import Derived.Test.YtdibdcbihleflaaNumBack
import Derived.Test.YtdibdcbihleflaaWordPlain
import Derived.Test.YtdibdcbihleflaaOInj
import Derived.Test.YtdibdcbihleflaaORefTree
import Derived.Test.YtdibdcbihleflaaORefCom
/- A commit, as it is read. -/
namespace Go.Proofs.Ytdibdcbihleflaa
open Go.RowKit

attribute [local go_sem] Oper.semAt_some

theorem step_word {ops : Array Oper} {o : Oper} {a : Act} {K : Act → World → Prop} {Q : Exit → Act → World → Prop} {E : Prop} (w : World) (r g p : Nat) (e : Int) (l : List UInt8) (h : Rd w r g p e l) (hgd : o.guard = none) (x : Nat)
    (ho : o.op = .call { callee := .value (.func 85), args := #[.tmp x], argTypes := #[103] }) (hx : a.tmps[x]?.getD undef = .pointer (some ⟨r, 0, none⟩))
    (hK : ∀ w', Rd w' r g (wordR l p e).2.1 (wordR l p e).2.2 l → w.grownBy w' (some r) → K (a.put o.dst (.int .u64 (wordR l p e).1)) w') :
    if Region.wanted o (yielded ops a.tmps) = true then Oper.wp Try.prog o a w K Q else E := by
  have hw : Region.wanted o (yielded ops a.tmps) = true := by simp [Region.wanted, hgd]
  rw [if_pos hw]
  have hc := word_st w r g p e l h
  generalize wordR l p e = X at hc hK
  unfold Oper.wp execOp
  simp [ho, resolve, invoke, go_sem, hx]
  refine hc.mono ?_
  rintro y w' ⟨rfl, hR, hG⟩
  have := hK w' hR hG
  simpa [go_sem] using this
theorem wp_appI' (w : World) (B : Nat) (hB : B ≤ w.heap.size) {o : Oper} {a : Act} {K : Act → World → Prop} {Q : Exit → Act → World → Prop} (s x : Operand)
    (ho : o.op = .call { callee := .builtin .append, args := #[s, x], argTypes := #[40, 40] })
    (v : Value) (n : Nat) (k : List Int) (hs : a.eval s = v) (hown : w.ownsRow B 39 1 v n (k.map (Value.int .u64))) (q : Addr) (m c : Nat) (l : List Int) (hx : a.eval x = .slice (some q) m c) (hb : Ids w (some q) m l) (hm : n + m ≤ 1099511627776)
    (h : ∀ v' w', w'.ownsRow B 39 1 v' (n + m) ((k ++ l).map (Value.int .u64)) → w.grownBy w' v.ownBlock → K (a.put o.dst v') w') : o.wp Try.prog a w K Q := by
  obtain ⟨i0, hi, hz0, hz1, hz2⟩ := info_parts infoId
  obtain ⟨v', w', hr, h1, h2, _, _⟩ := run_append_own_at (P := Try.prog) w B 40 o.type 39 i0 _ 1 8 Try.underlying40 hi hz0 hz1 hz2 rfl (by decide) v n _ hown q m c (l.map (Value.int .u64)) (by rw [List.length_map, hb.1]; omega) (by
    intro j u hj
    rw [List.getElem?_map] at hj
    have hl := hb.1
    cases hlj : l[j]? with
    | none => rw [hlj] at hj; cases hj
    | some y =>
      rw [hlj] at hj
      have hjl := (List.getElem?_eq_some_iff.1 hlj).1
      obtain ⟨b, off, e, hc⟩ := hb.2 (by omega)
      cases e
      rw [Addr.add_lit, hc j y hlj]
      exact hj) (by intro u hu; obtain ⟨y, _, rfl⟩ := List.mem_map.1 hu; rfl) (by unfold maxLen; omega) (by omega) hB
  unfold Oper.wp execOp
  simp only [ho, resolve, invoke, builtin, Sem.run_bind, Sem.run_pure, Result.andThen_ok, List.map_toArray, List.map_cons, List.map_nil, hs, hx, hr]
  exact h v' w' (by rw [List.map_append]; exact h1) h2
theorem step_appI' (w : World) (B : Nat) (hB : B ≤ w.heap.size) {ops : Array Oper} {o : Oper} {a : Act} {K : Act → World → Prop} {Q : Exit → Act → World → Prop} {E : Prop} (hgd : o.guard = none) (s x : Operand)
    (ho : o.op = .call { callee := .builtin .append, args := #[s, x], argTypes := #[40, 40] })
    (v : Value) (n : Nat) (k : List Int) (hs : a.eval s = v) (hown : w.ownsRow B 39 1 v n (k.map (Value.int .u64))) (q : Addr) (m c : Nat) (l : List Int) (hx : a.eval x = .slice (some q) m c) (hb : Ids w (some q) m l) (hm : n + m ≤ 1099511627776)
    (h : ∀ v' w', w'.ownsRow B 39 1 v' (n + m) ((k ++ l).map (Value.int .u64)) → w.grownBy w' v.ownBlock → K (a.put o.dst v') w') :
    if Region.wanted o (yielded ops a.tmps) = true then Oper.wp Try.prog o a w K Q else E := by
  have hw : Region.wanted o (yielded ops a.tmps) = true := by simp [Region.wanted, hgd]
  rw [if_pos hw]
  exact wp_appI' w B hB s x ho v n k hs hown q m c l hx hb hm h
/-- n parents, as they are read, behind those that are read -/
def parsR : Nat → List UInt8 → Nat → Int → List Int → List Int × Nat × Int
  | 0, _, p, e, acc => (acc, p, e)
  | n + 1, l, p, e, acc => if e ≠ 0 then (acc, p, e) else parsR n l (wordR l p e).2.1 (wordR l p e).2.2 (acc ++ [(wordR l p e).1])
/-- a commit, as it is read -/
def comR (l : List UInt8) (p : Nat) (e : Int) : (Int × List Int × ByteArray × Int × ByteArray) × Nat × Int :=
  let t := wordR l p e
  let u := uintR l t.2.1 t.2.2
  let q := parsR u.1.toNat l u.2.1 u.2.2 []
  let a := textR l q.2.1 q.2.2 64
  let d := wordR l a.2.1 a.2.2
  let x := textR l d.2.1 d.2.2 1024
  ((t.1, q.1, a.1, wrap64 d.1, x.1), x.2.1, x.2.2)
/-- what stands while a commit is read -/
structure CR (w : World) (r g : Nat) (l : List UInt8) (p : Nat) (e : Int) (t : Int) (acc : List Int) (ad : Option Addr) (n cp : Nat) (au : ByteArray) (d : Int) (tx : ByteArray) (W : World) : Prop where
  rd : Rd W r g p e l
  gr : w.grownBy W (some r)
  box : Box5 W w.heap.size (.int .u64 t) (.slice ad n cp) (.string au) (.int .i64 d) (.string tx)
  row : W.ownsRow (w.heap.size + 1) 39 1 (.slice ad n cp) n (acc.map (Value.int .u64))
  low : w.heap.size + 1 ≤ W.heap.size
section
variable {w W W1 : World} {r g : Nat} {l : List UInt8} {p p' : Nat} {e e' t : Int} {acc : List Int} {ad : Option Addr} {n cp : Nat} {au : ByteArray} {d : Int} {tx : ByteArray}
theorem CR.next (h : CR w r g l p e t acc ad n cp au d tx W) (hr : r < w.heap.size) (hR : Rd W1 r g p' e' l) (hg : W.grownBy W1 (some r)) : CR w r g l p' e' t acc ad n cp au d tx W1 :=
  ⟨hR, grownBy_trans h.gr hg, (hg.block _ h.box.lt (fun e => by have : w.heap.size = r := Option.some.inj e; omega)).trans h.box, own_grown h.row hg (by omega), Nat.le_trans h.low hg.size⟩
theorem CR.alloc (h : CR w r g l p e t acc ad n cp au d tx W) (hr : r < w.heap.size) (o : Obj) : CR w r g l p e t acc ad n cp au d tx (W.alloc o) := by
  have hg : W.grownBy (W.alloc o) none := ⟨rfl, rfl, rfl, by simp, fun k hk _ => Below.heap_alloc _ _ _ hk⟩
  exact h.next hr (h.rd.kept hg (by simp) (by simp)) (grownBy_wide hg)
theorem CR.drewN (h : CR w r g l p e t acc ad n cp au d tx W) (hr : r < w.heap.size) (k : Nat) : CR w r g l p e t acc ad n cp au d tx (W.drewN k) := h.next hr (h.rd.drewN k) (grownBy_drewN _ _ _)
theorem CR.drew (h : CR w r g l p e t acc ad n cp au d tx W) (hr : r < w.heap.size) : CR w r g l p e t acc ad n cp au d tx W.drew := h.next hr (h.rd.kept (row := none) ⟨rfl, rfl, rfl, Nat.le_refl _, fun _ _ _ => rfl⟩ (by simp) (by simp)) ⟨rfl, rfl, rfl, Nat.le_refl _, fun _ _ _ => rfl⟩
theorem cr_set (h : CR w r g l p e t acc ad n cp au d tx W) (hr : r < w.heap.size) (hgw : g < w.heap.size) (k : Nat) (v : Value) :
    Rd (W.setCell ⟨w.heap.size, k, none⟩ v) r g p e l ∧ w.grownBy (W.setCell ⟨w.heap.size, k, none⟩ v) (some r) ∧ (W.setCell ⟨w.heap.size, k, none⟩ v).ownsRow (w.heap.size + 1) 39 1 (.slice ad n cp) n (acc.map (Value.int .u64)) ∧ w.heap.size + 1 ≤ (W.setCell ⟨w.heap.size, k, none⟩ v).heap.size := by
  have s1 : W.grownBy (W.setCell ⟨w.heap.size, k, none⟩ v) (some w.heap.size) := grownBy_setCell _ _ _ _
  refine ⟨h.rd.kept s1 (by simp; omega) (by simp; omega), ⟨s1.os.trans h.gr.os, s1.tape.trans h.gr.tape, s1.output.trans h.gr.output, Nat.le_trans h.gr.size s1.size, fun j hj hn => ?_⟩, own_grown h.row s1 (by omega), Nat.le_trans h.low s1.size⟩
  exact (s1.block j (Nat.lt_of_lt_of_le hj h.gr.size) (by simp; omega)).trans (h.gr.block j hj hn)
theorem box_set {a0 a1 a2 a3 a4 : Value} {B : Nat} (h : Box5 W B a0 a1 a2 a3 a4) : (∀ v, Box5 (W.setCell ⟨B, 0, none⟩ v) B v a1 a2 a3 a4) ∧ (∀ v, Box5 (W.setCell ⟨B, 1, none⟩ v) B a0 v a2 a3 a4) ∧ (∀ v, Box5 (W.setCell ⟨B, 2, none⟩ v) B a0 a1 v a3 a4) ∧ (∀ v, Box5 (W.setCell ⟨B, 3, none⟩ v) B a0 a1 a2 v a4) ∧ (∀ v, Box5 (W.setCell ⟨B, 4, none⟩ v) B a0 a1 a2 a3 v) := by
  have h' : W.heap[B]? = _ := h
  have hl := h.lt
  unfold Box5
  simp [World.setCell, Array.getElem?_modify, h']
theorem CR.set0 (h : CR w r g l p e t acc ad n cp au d tx W) (hr : r < w.heap.size) (hgw : g < w.heap.size) (v : Int) : CR w r g l p e v acc ad n cp au d tx (W.setCell ⟨w.heap.size, 0, none⟩ (.int .u64 v)) := by
  obtain ⟨h1, h2, h3, h4⟩ := cr_set h hr hgw 0 (.int .u64 v)
  exact ⟨h1, h2, (box_set h.box).1 _, h3, h4⟩
theorem CR.set2 (h : CR w r g l p e t acc ad n cp au d tx W) (hr : r < w.heap.size) (hgw : g < w.heap.size) (v : ByteArray) : CR w r g l p e t acc ad n cp v d tx (W.setCell ⟨w.heap.size, 2, none⟩ (.string v)) := by
  obtain ⟨h1, h2, h3, h4⟩ := cr_set h hr hgw 2 (.string v)
  exact ⟨h1, h2, (box_set h.box).2.2.1 _, h3, h4⟩
theorem CR.set3 (h : CR w r g l p e t acc ad n cp au d tx W) (hr : r < w.heap.size) (hgw : g < w.heap.size) (v : Int) : CR w r g l p e t acc ad n cp au v tx (W.setCell ⟨w.heap.size, 3, none⟩ (.int .i64 v)) := by
  obtain ⟨h1, h2, h3, h4⟩ := cr_set h hr hgw 3 (.int .i64 v)
  exact ⟨h1, h2, (box_set h.box).2.2.2.1 _, h3, h4⟩
theorem CR.set4 (h : CR w r g l p e t acc ad n cp au d tx W) (hr : r < w.heap.size) (hgw : g < w.heap.size) (v : ByteArray) : CR w r g l p e t acc ad n cp au d v (W.setCell ⟨w.heap.size, 4, none⟩ (.string v)) := by
  obtain ⟨h1, h2, h3, h4⟩ := cr_set h hr hgw 4 (.string v)
  exact ⟨h1, h2, (box_set h.box).2.2.2.2 _, h3, h4⟩
theorem CR.ob (h : CR w r g l p e t acc ad n cp au d tx W) : ∀ k, (Value.slice ad n cp).ownBlock = some k → w.heap.size + 1 ≤ k := fun k hk => by
  rcases h.row.2 with ⟨e, _⟩ | ⟨g', cap, cur, e, hb, _⟩
  · rw [e] at hk; cases hk
  · rw [e] at hk; cases hk; exact hb
theorem CR.boxed (h : CR w r g l p e t acc ad n cp au d tx W) (hg : W.grownBy W1 (Value.slice ad n cp).ownBlock) : Box5 W1 w.heap.size (.int .u64 t) (.slice ad n cp) (.string au) (.int .i64 d) (.string tx) :=
  (hg.block _ h.box.lt (fun e => by have := h.ob _ e.symm; omega)).trans h.box
theorem CR.push {x : Int} {ad' : Option Addr} {cp' : Nat} (h : CR w r g l p e t acc ad n cp au d tx W) (hr : r < w.heap.size) (hgw : g < w.heap.size)
    (ho : W1.ownsRow (w.heap.size + 1) 39 1 (.slice ad' (n + 1) cp') (n + 1) ((acc ++ [x]).map (Value.int .u64))) (hg : W.grownBy W1 (Value.slice ad n cp).ownBlock) :
    CR w r g l p e t (acc ++ [x]) ad' (n + 1) cp' au d tx (W1.setCell ⟨w.heap.size, 1, none⟩ (.slice ad' (n + 1) cp')) := by
  have hob := h.ob
  have hbx := h.boxed hg
  have hR1 : Rd W1 r g p e l := h.rd.kept (row := (Value.slice ad n cp).ownBlock) hg (fun e => by have := hob r e; omega) (fun e => by have := hob g e; omega)
  have hw1 : w.grownBy W1 (some r) := ⟨hg.os.trans h.gr.os, hg.tape.trans h.gr.tape, hg.output.trans h.gr.output, Nat.le_trans h.gr.size hg.size, fun k hk hn => (hg.block k (Nat.lt_of_lt_of_le hk h.gr.size) (fun e => by have := hob k e.symm; omega)).trans (h.gr.block k hk hn)⟩
  have h1 : CR w r g l p e t (acc ++ [x]) ad' (n + 1) cp' au d tx W1 → CR w r g l p e t (acc ++ [x]) ad' (n + 1) cp' au d tx W1 := id
  have s1 : W1.grownBy (W1.setCell ⟨w.heap.size, 1, none⟩ (.slice ad' (n + 1) cp')) (some w.heap.size) := grownBy_setCell _ _ _ _
  refine ⟨hR1.kept s1 (by simp; omega) (by simp; omega), ⟨s1.os.trans hw1.os, s1.tape.trans hw1.tape, s1.output.trans hw1.output, Nat.le_trans hw1.size s1.size, fun j hj hn => ?_⟩, (box_set hbx).2.1 _, own_grown ho s1 (by omega), ?_⟩
  · exact (s1.block j (Nat.lt_of_lt_of_le hj hw1.size) (by simp; omega)).trans (hw1.block j hj hn)
  · have := h.low; have := hg.size; have := s1.size; omega
end
/-- what a call that reads a commit answers -/
def ComOut (w : World) (c : Int × List Int × ByteArray × Int × ByteArray) (x : Ending) (w' : World) : Prop :=
  ∃ ad cp, x = .returned (coV c.1 ad c.2.1.length cp c.2.2.1 c.2.2.2.1 c.2.2.2.2) ∧ w'.ownsRow w.heap.size 39 1 (.slice ad c.2.1.length cp) c.2.1.length (c.2.1.map (Value.int .u64))
theorem com_out {w W : World} {r g : Nat} {l : List UInt8} {p p6 : Nat} {e e6 t : Int} {acc : List Int} {ad : Option Addr} {n cp : Nat} {au : ByteArray} {d : Int} {tx : ByteArray} (hE : comR l p e = ((t, acc, au, d, tx), p6, e6)) (h : CR w r g l p6 e6 t acc ad n cp au d tx W) :
    Rd W r g (comR l p e).2.1 (comR l p e).2.2 l ∧ w.grownBy W (some r) ∧ ComOut w (comR l p e).1 (.returned (coV t ad n cp au d tx)) W := by
  rw [hE]
  have hn : acc.length = n := by have := h.row.1; rw [List.length_map] at this; omega
  subst hn
  refine ⟨h.rd, h.gr, ad, cp, rfl, h.row.1, ?_⟩
  rcases h.row.2 with h2 | ⟨g', cap, cur, e', hb, h3⟩
  · exact .inl h2
  · exact .inr ⟨g', cap, cur, e', by omega, h3⟩

set_option maxRecDepth 20000 in
set_option maxHeartbeats 8000000 in
theorem readCommit_any (w : World) (r g p : Nat) (e : Int) (l : List UInt8) (h : Rd w r g p e l) (hr : r < w.heap.size) (hg : g < w.heap.size) (hl : l.length ≤ 549755813888) :
    Calls Try.prog 71 #[.pointer (some ⟨r, 0, none⟩)] w fun x w' => Rd w' r g (comR l p e).2.1 (comR l p e).2.2 l ∧ w.grownBy w' (some r) ∧ ComOut w (comR l p e).1 x w' := by
  have h0 : Rd (w.alloc (.cells #[.int .u64 0, .slice none 0 0, .string ⟨#[]⟩, .int .i64 0, .string ⟨#[]⟩] 42)) r g p e l := h.kept (row := none) ⟨rfl, rfl, rfl, by simp, fun k hk _ => Below.heap_alloc _ _ _ hk⟩ (by simp) (by simp)
  have C0 : Hid (CR w r g l p e 0 [] none 0 0 ⟨#[]⟩ 0 ⟨#[]⟩ (w.alloc (.cells #[.int .u64 0, .slice none 0 0, .string ⟨#[]⟩, .int .i64 0, .string ⟨#[]⟩] 42))) := ⟨h0, ⟨rfl, rfl, rfl, by simp, fun k hk _ => Below.heap_alloc _ _ _ hk⟩, Box5.new _ _ _ _ _ _, World.ownsRow_nil _ _ _ _, by simp⟩
  have hw0 := word_st _ r g p e l h0
  have HU : Hid (∀ W p' e', Rd W r g p' e' l → Calls Try.prog 83 #[.pointer (some ⟨r, 0, none⟩)] W fun x w' => x = .returned (.int .u64 (uintR l p' e').1) ∧ Rd w' r g (uintR l p' e').2.1 (uintR l p' e').2.2 l ∧ W.grownBy w' (some r)) := fun W p' e' hW => uint_st W r g p' e' l hW
  obtain ⟨RES, hRES⟩ : ∃ RES, RES = parsR (uintR l (wordR l p e).2.1 (wordR l p e).2.2).1.toNat l (uintR l (wordR l p e).2.1 (wordR l p e).2.2).2.1 (uintR l (wordR l p e).2.1 (wordR l p e).2.2).2.2 [] := ⟨_, rfl⟩
  obtain ⟨⟨tv, p1, e1⟩, hW1⟩ : ∃ y, y = wordR l p e := ⟨_, rfl⟩
  have hfin : comR l p e = ((tv, RES.1, (textR l RES.2.1 RES.2.2 64).1, wrap64 (wordR l (textR l RES.2.1 RES.2.2 64).2.1 (textR l RES.2.1 RES.2.2 64).2.2).1, (textR l (wordR l (textR l RES.2.1 RES.2.2 64).2.1 (textR l RES.2.1 RES.2.2 64).2.2).2.1 (wordR l (textR l RES.2.1 RES.2.2 64).2.1 (textR l RES.2.1 RES.2.2 64).2.2).2.2 1024).1), (textR l (wordR l (textR l RES.2.1 RES.2.2 64).2.1 (textR l RES.2.1 RES.2.2 64).2.2).2.1 (wordR l (textR l RES.2.1 RES.2.2 64).2.1 (textR l RES.2.1 RES.2.2 64).2.2).2.2 1024).2.1, (textR l (wordR l (textR l RES.2.1 RES.2.2 64).2.1 (textR l RES.2.1 RES.2.2 64).2.2).2.1 (wordR l (textR l RES.2.1 RES.2.2 64).2.1 (textR l RES.2.1 RES.2.2 64).2.2).2.2 1024).2.2) := by unfold comR; rw [hRES, ← hW1]
  rw [← hW1] at hw0 hRES
  simp only at hw0 hRES
  obtain ⟨⟨uv, p2, e2⟩, hU1⟩ : ∃ y, y = uintR l p1 e1 := ⟨_, rfl⟩
  have huf := uintR_fits l p1 e1
  rw [← hU1] at hRES huf
  simp only at hRES huf
  have HU1 : Hid (∀ W, Rd W r g p1 e1 l → Calls Try.prog 83 #[.pointer (some ⟨r, 0, none⟩)] W fun x w' => x = .returned (.int .u64 uv) ∧ Rd w' r g p2 e2 l ∧ W.grownBy w' (some r)) := fun W hW => by have := HU.out W p1 e1 hW; rw [← hU1] at this; exact this
  obtain ⟨c, rfl⟩ := Int.eq_ofNat_of_zero_le huf.1
  have HR : Hid (RES = parsR c l p2 e2 []) := hRES
  have HF1 : Hid (comR l p e = ((tv, RES.1, (textR l RES.2.1 RES.2.2 64).1, wrap64 (wordR l (textR l RES.2.1 RES.2.2 64).2.1 (textR l RES.2.1 RES.2.2 64).2.2).1, (textR l (wordR l (textR l RES.2.1 RES.2.2 64).2.1 (textR l RES.2.1 RES.2.2 64).2.2).2.1 (wordR l (textR l RES.2.1 RES.2.2 64).2.1 (textR l RES.2.1 RES.2.2 64).2.2).2.2 1024).1), (textR l (wordR l (textR l RES.2.1 RES.2.2 64).2.1 (textR l RES.2.1 RES.2.2 64).2.2).2.1 (wordR l (textR l RES.2.1 RES.2.2 64).2.1 (textR l RES.2.1 RES.2.2 64).2.2).2.2 1024).2.1, (textR l (wordR l (textR l RES.2.1 RES.2.2 64).2.1 (textR l RES.2.1 RES.2.2 64).2.2).2.1 (wordR l (textR l RES.2.1 RES.2.2 64).2.1 (textR l RES.2.1 RES.2.2 64).2.2).2.2 1024).2.2)) := hfin
  have HE : Hid True := trivial
  clear hRES hfin hU1 hW1 h0 h HU
  go_enter Try.func71, Try.ntmps71
  go_wp2_with first
    | (go_at_call 85; refine hw0.mono ?_; clear hw0; rintro y w1 ⟨rfl, hR1, hG1⟩; have C1 : Hid (CR w r g l p1 e1 0 [] none 0 0 ⟨#[]⟩ 0 ⟨#[]⟩ w1) := C0.out.next hr hR1 hG1; have c1 := C1.out.box.cell.1; have f1 := C1.out.box.frozen.1; have C2 : Hid (CR w r g l p1 e1 tv [] none 0 0 ⟨#[]⟩ 0 ⟨#[]⟩ (w1.setCell ⟨w.heap.size, 0, none⟩ (.int .u64 tv))) := C1.out.set0 hr hg tv; clear C0 C1 hR1 hG1)
    | (go_at_call 83; refine (HU1.out _ C2.out.rd).mono ?_; clear HU1; rintro y w2 ⟨rfl, hR2, hG2⟩; have C3 : Hid (CR w r g l p2 e2 tv [] none 0 0 ⟨#[]⟩ 0 ⟨#[]⟩ w2) := C2.out.next hr hR2 hG2; clear C2 hR2 hG2 c1 f1)
  go_loopw [4] (fun i wr => ∃ (k q : Nat) (f : Int) (acc : List Int) (ad : Option Addr) (n cp : Nat), k ≤ 18446744073709551615 ∧ n ≤ q + 1 ∧ (f = 0 → n ≤ q) ∧ i = .int .u64 (k : Int) ∧ Hid (CR w r g l q f tv acc ad n cp ⟨#[]⟩ 0 ⟨#[]⟩ wr ∧ RES = parsR k l q f acc)) (fun i _ => (intOf i).toNat)
  case atStart => exact ⟨c, p2, e2, [], none, 0, 0, by omega, by omega, fun _ => by omega, rfl, C3.out, HR.out⟩
  case round =>
    clear C3 HR huf
    obtain ⟨k, q, f, acc, ad, n, cp, hk, hn1, hn2, rfl, H⟩ := hrel
    have HN2 : Hid (f = 0 → n ≤ q) := hn2
    clear hn2
    cases k with
    | zero =>
      have HRS : Hid (RES = (acc, q, f)) := (by rw [H.out.2]; rfl : RES = (acc, q, f))
      have C1 : Hid (CR w r g l q f tv acc ad n cp ⟨#[]⟩ 0 ⟨#[]⟩ wr) := H.out.1
      have hA := text_st wr r g q f 64 l C1.out.rd (by omega)
      have HX : Hid (∀ W p' e', Rd W r g p' e' l → Calls Try.prog 87 #[.pointer (some ⟨r, 0, none⟩), .int .i64 1024] W fun x w' => x = .returned (.string (textR l p' e' 1024).1) ∧ Rd w' r g (textR l p' e' 1024).2.1 (textR l p' e' 1024).2.2 l ∧ W.grownBy w' (some r)) := fun W p' e' hW => text_st W r g p' e' 1024 l hW (by omega)
      have HD : Hid (∀ W p' e', Rd W r g p' e' l → Calls Try.prog 85 #[.pointer (some ⟨r, 0, none⟩)] W fun x w' => x = .returned (.int .u64 (wordR l p' e').1) ∧ Rd w' r g (wordR l p' e').2.1 (wordR l p' e').2.2 l ∧ W.grownBy w' (some r)) := fun W p' e' hW => word_st W r g p' e' l hW
      have HFIN : Hid (comR l p e = ((tv, RES.1, (textR l RES.2.1 RES.2.2 64).1, wrap64 (wordR l (textR l RES.2.1 RES.2.2 64).2.1 (textR l RES.2.1 RES.2.2 64).2.2).1, (textR l (wordR l (textR l RES.2.1 RES.2.2 64).2.1 (textR l RES.2.1 RES.2.2 64).2.2).2.1 (wordR l (textR l RES.2.1 RES.2.2 64).2.1 (textR l RES.2.1 RES.2.2 64).2.2).2.2 1024).1), (textR l (wordR l (textR l RES.2.1 RES.2.2 64).2.1 (textR l RES.2.1 RES.2.2 64).2.2).2.1 (wordR l (textR l RES.2.1 RES.2.2 64).2.1 (textR l RES.2.1 RES.2.2 64).2.2).2.2 1024).2.1, (textR l (wordR l (textR l RES.2.1 RES.2.2 64).2.1 (textR l RES.2.1 RES.2.2 64).2.2).2.1 (wordR l (textR l RES.2.1 RES.2.2 64).2.1 (textR l RES.2.1 RES.2.2 64).2.2).2.2 1024).2.2)) := HF1.out
      clear H HF1 HE
      generalize hAA : textR l q f 64 = TA at hA
      obtain ⟨av, p4, e4⟩ := TA
      simp only at hA
      have HAA : Hid (textR l q f 64 = (av, p4, e4)) := hAA
      have hDD : ∃ y, y = wordR l p4 e4 := ⟨_, rfl⟩
      obtain ⟨⟨dv, p5, e5⟩, hDD⟩ := hDD
      have HD4 : Hid (∀ W, Rd W r g p4 e4 l → Calls Try.prog 85 #[.pointer (some ⟨r, 0, none⟩)] W fun x w' => x = .returned (.int .u64 dv) ∧ Rd w' r g p5 e5 l ∧ W.grownBy w' (some r)) := fun W hW => by have := HD.out W p4 e4 hW; rw [← hDD] at this; exact this
      have hXX : ∃ y, y = textR l p5 e5 1024 := ⟨_, rfl⟩
      obtain ⟨⟨xv, p6, e6⟩, hXX⟩ := hXX
      have HX5 : Hid (∀ W, Rd W r g p5 e5 l → Calls Try.prog 87 #[.pointer (some ⟨r, 0, none⟩), .int .i64 1024] W fun x w' => x = .returned (.string xv) ∧ Rd w' r g p6 e6 l ∧ W.grownBy w' (some r)) := fun W hW => by have := HX.out W p5 e5 hW; rw [← hXX] at this; exact this
      have HEND : Hid (comR l p e = ((tv, acc, av, wrap64 dv, xv), p6, e6)) := (by rw [HFIN.out, HRS.out]; simp only; rw [hAA]; simp only; rw [← hDD]; simp only; rw [← hXX] : comR l p e = ((tv, acc, av, wrap64 dv, xv), p6, e6))
      clear hAA hDD hXX HX HD HRS HAA HFIN
      go_wp2_with first
        | (go_at_call 87; refine hA.mono ?_; clear hA; rintro y w4 ⟨rfl, hR4, hG4⟩; have C4 : Hid (CR w r g l p4 e4 tv acc ad n cp ⟨#[]⟩ 0 ⟨#[]⟩ w4) := C1.out.next hr hR4 hG4; have c4 := C4.out.box.cell.2.2.1; have f4 := C4.out.box.frozen.2.2.1; have C5 : Hid (CR w r g l p4 e4 tv acc ad n cp av 0 ⟨#[]⟩ (w4.setCell ⟨w.heap.size, 2, none⟩ (.string av))) := C4.out.set2 hr hg av; clear C1 hR4 hG4 C4)
        | (go_at_call 85; refine (HD4.out _ C5.out.rd).mono ?_; clear HD4; rintro y w5 ⟨rfl, hR5, hG5⟩; have C6 : Hid (CR w r g l p5 e5 tv acc ad n cp av 0 ⟨#[]⟩ w5) := C5.out.next hr hR5 hG5; have c6 := C6.out.box.cell.2.2.2.1; have f6 := C6.out.box.frozen.2.2.2.1; have C7 : Hid (CR w r g l p5 e5 tv acc ad n cp av (wrap64 dv) ⟨#[]⟩ (w5.setCell ⟨w.heap.size, 3, none⟩ (.int .i64 (wrap64 dv)))) := C6.out.set3 hr hg (wrap64 dv); clear C5 hR5 hG5 C6 c4 f4)
        | (go_at_call 87; refine (HX5.out _ C7.out.rd).mono ?_; clear HX5; rintro y w6 ⟨rfl, hR6, hG6⟩; have C8 : Hid (CR w r g l p6 e6 tv acc ad n cp av (wrap64 dv) ⟨#[]⟩ w6) := C7.out.next hr hR6 hG6; have c8 := C8.out.box.cell.2.2.2.2; have f8 := C8.out.box.frozen.2.2.2.2; have C9 : Hid (CR w r g l p6 e6 tv acc ad n cp av (wrap64 dv) xv (w6.setCell ⟨w.heap.size, 4, none⟩ (.string xv))) := C8.out.set4 hr hg xv; obtain ⟨z0, z1, z2, z3, z4⟩ := C9.out.box.cell; clear C7 hR6 hG6 C8 c6 f6)
      go_ret
      exact com_out HEND.out C9.out
    | succ k =>
      have i1 : (0 : Int) < ((k + 1 : Nat) : Int) := by omega
      have i2 : ((k + 1 : Nat) : Int) - 1 = (k : Int) := by omega
      have re := H.out.1.rd.c1
      by_cases hf : f = 0
      · have hnq := HN2.out hf
        subst hf
        have HF := H.out.2
        unfold parsR at HF
        rw [if_neg (by simp)] at HF
        obtain ⟨⟨xv, q', f'⟩, hx⟩ : ∃ y, y = wordR l q 0 := ⟨_, rfl⟩
        have hxp : q ≤ q' ∧ (f' = 0 → q + 8 ≤ q') := by
          have h1 := fun hh => wordR_ok (l := l) (p := q) (e := 0) hh
          rw [← hx] at h1
          simp only at h1
          unfold wordR at hx
          rw [if_neg (by simp)] at hx
          split at hx <;> cases hx
          · exact ⟨Nat.le_refl _, fun h => by cases h⟩
          · exact ⟨by omega, fun _ => by omega⟩
        rw [← hx] at HF
        simp only at HF
        have HFF : Hid (RES = parsR k l q' f' (acc ++ [xv])) := HF
        have hqL := H.out.1.rd.hp
        have C4 : Hid (CR w r g l q 0 tv acc ad n cp ⟨#[]⟩ 0 ⟨#[]⟩ wr) := H.out.1
        obtain ⟨z0, z1, z2, z3, z4⟩ := C4.out.box.cell
        have HSW : Hid (∀ {ops : Array Oper} {o : Oper} {a : Act} {K : Act → World → Prop} {Q : Exit → Act → World → Prop} {E : Prop} (W : World) (_ : Rd W r g q 0 l) (_ : o.guard = none) (x : Nat) (_ : o.op = .call { callee := .value (.func 85), args := #[.tmp x], argTypes := #[103] }) (_ : a.tmps[x]?.getD undef = .pointer (some ⟨r, 0, none⟩)) (_ : ∀ w', Rd w' r g q' f' l → W.grownBy w' (some r) → K (a.put o.dst (.int .u64 xv)) w'), if Region.wanted o (yielded ops a.tmps) = true then Oper.wp Try.prog o a W K Q else E) := fun W hR hgd x ho hx' hK => step_word W r g q 0 l hR hgd x ho hx' (by rw [← hx]; exact hK)
        clear hx H HF
        go_wp2_with (go_at_call 86; refine (err_any _ r 0 re).mono ?_; rintro y w3 ⟨rfl, hw3⟩; subst hw3)
        go_region_law (first
          | (refine HSW.out _ (C4.out.drew hr).rd (by rfl) _ (by rfl) (by rfl) ?_; intro w4 hR4 hG4; have C5 : Hid (CR w r g l q' f' tv acc ad n cp ⟨#[]⟩ 0 ⟨#[]⟩ w4) := (C4.out.drew hr).next hr hR4 hG4; have y1 := C5.out.box.cell.2.1; have C6 : Hid (CR w r g l q' f' tv acc ad n cp ⟨#[]⟩ 0 ⟨#[]⟩ (w4.alloc (.cells #[.int .u64 xv] 39))) := C5.out.alloc hr _; have y2 := C6.out.box.cell.2.1; clear hR4 hG4)
          | (refine step_appI' _ (w.heap.size + 1) C6.out.low (by rfl) _ _ (by rfl) (.slice ad n cp) n acc (by rfl) C6.out.row ⟨w4.heap.size, 0, none⟩ 1 1 [xv] (by rfl) (ids_lit w4 xv) (by omega) ?_; intro v5 w5 ho5 hg5; obtain ⟨ad5, c5, hv5, _⟩ := row_shape ho5; subst hv5; have bx5 := C6.out.boxed hg5; have cb5 := bx5.cell.2.1; have fb5 := bx5.frozen.2.1; have C7 : Hid (CR w r g l q' f' tv (acc ++ [xv]) ad5 (n + 1) c5 ⟨#[]⟩ 0 ⟨#[]⟩ (w5.setCell ⟨w.heap.size, 1, none⟩ (.slice ad5 (n + 1) c5))) := C6.out.push hr hg ho5 hg5; clear ho5 hg5 bx5))
        all_goals
          go_wp2_with fail
          go_roundw
          case rel => exact ⟨k, q', f', acc ++ [xv], ad5, n + 1, c5, by omega, by omega, fun h => by have := hxp.2 h; omega, by simp, C7.out, HFF.out⟩
          case measure => simp [intOf]
      · have f1 : (f == 0) = false := by simp [hf]
        have f2 : (f != 0) = true := by simp [hf]
        have HRS : Hid (RES = (acc, q, f)) := (by rw [H.out.2]; unfold parsR; rw [if_pos hf] : RES = (acc, q, f))
        have C1 : Hid (CR w r g l q f tv acc ad n cp ⟨#[]⟩ 0 ⟨#[]⟩ wr) := H.out.1
        have hA := text_st wr r g q f 64 l C1.out.rd (by omega)
        have HX : Hid (∀ W p' e', Rd W r g p' e' l → Calls Try.prog 87 #[.pointer (some ⟨r, 0, none⟩), .int .i64 1024] W fun x w' => x = .returned (.string (textR l p' e' 1024).1) ∧ Rd w' r g (textR l p' e' 1024).2.1 (textR l p' e' 1024).2.2 l ∧ W.grownBy w' (some r)) := fun W p' e' hW => text_st W r g p' e' 1024 l hW (by omega)
        have HD : Hid (∀ W p' e', Rd W r g p' e' l → Calls Try.prog 85 #[.pointer (some ⟨r, 0, none⟩)] W fun x w' => x = .returned (.int .u64 (wordR l p' e').1) ∧ Rd w' r g (wordR l p' e').2.1 (wordR l p' e').2.2 l ∧ W.grownBy w' (some r)) := fun W p' e' hW => word_st W r g p' e' l hW
        have HFIN : Hid (comR l p e = ((tv, RES.1, (textR l RES.2.1 RES.2.2 64).1, wrap64 (wordR l (textR l RES.2.1 RES.2.2 64).2.1 (textR l RES.2.1 RES.2.2 64).2.2).1, (textR l (wordR l (textR l RES.2.1 RES.2.2 64).2.1 (textR l RES.2.1 RES.2.2 64).2.2).2.1 (wordR l (textR l RES.2.1 RES.2.2 64).2.1 (textR l RES.2.1 RES.2.2 64).2.2).2.2 1024).1), (textR l (wordR l (textR l RES.2.1 RES.2.2 64).2.1 (textR l RES.2.1 RES.2.2 64).2.2).2.1 (wordR l (textR l RES.2.1 RES.2.2 64).2.1 (textR l RES.2.1 RES.2.2 64).2.2).2.2 1024).2.1, (textR l (wordR l (textR l RES.2.1 RES.2.2 64).2.1 (textR l RES.2.1 RES.2.2 64).2.2).2.1 (wordR l (textR l RES.2.1 RES.2.2 64).2.1 (textR l RES.2.1 RES.2.2 64).2.2).2.2 1024).2.2)) := HF1.out
        clear H HF1 HE
        generalize hAA : textR l q f 64 = TA at hA
        obtain ⟨av, p4, e4⟩ := TA
        simp only at hA
        have HAA : Hid (textR l q f 64 = (av, p4, e4)) := hAA
        have hDD : ∃ y, y = wordR l p4 e4 := ⟨_, rfl⟩
        obtain ⟨⟨dv, p5, e5⟩, hDD⟩ := hDD
        have HD4 : Hid (∀ W, Rd W r g p4 e4 l → Calls Try.prog 85 #[.pointer (some ⟨r, 0, none⟩)] W fun x w' => x = .returned (.int .u64 dv) ∧ Rd w' r g p5 e5 l ∧ W.grownBy w' (some r)) := fun W hW => by have := HD.out W p4 e4 hW; rw [← hDD] at this; exact this
        have hXX : ∃ y, y = textR l p5 e5 1024 := ⟨_, rfl⟩
        obtain ⟨⟨xv, p6, e6⟩, hXX⟩ := hXX
        have HX5 : Hid (∀ W, Rd W r g p5 e5 l → Calls Try.prog 87 #[.pointer (some ⟨r, 0, none⟩), .int .i64 1024] W fun x w' => x = .returned (.string xv) ∧ Rd w' r g p6 e6 l ∧ W.grownBy w' (some r)) := fun W hW => by have := HX.out W p5 e5 hW; rw [← hXX] at this; exact this
        have HEND : Hid (comR l p e = ((tv, acc, av, wrap64 dv, xv), p6, e6)) := (by rw [HFIN.out, HRS.out]; simp only; rw [hAA]; simp only; rw [← hDD]; simp only; rw [← hXX] : comR l p e = ((tv, acc, av, wrap64 dv, xv), p6, e6))
        clear hAA hDD hXX HX HD HRS HAA HFIN
        go_wp2_with first
          | (go_at_call 86; refine (err_any _ r f re).mono ?_; rintro y w3 ⟨rfl, hw3⟩; subst hw3)
          | (go_at_call 87; refine hA.mono ?_; clear hA; rintro y w4 ⟨rfl, hR4, hG4⟩; have C4 : Hid (CR w r g l p4 e4 tv acc ad n cp ⟨#[]⟩ 0 ⟨#[]⟩ w4) := C1.out.next hr hR4 hG4; have c4 := C4.out.box.cell.2.2.1; have f4 := C4.out.box.frozen.2.2.1; have C5 : Hid (CR w r g l p4 e4 tv acc ad n cp av 0 ⟨#[]⟩ (w4.setCell ⟨w.heap.size, 2, none⟩ (.string av))) := C4.out.set2 hr hg av; clear C1 hR4 hG4 C4)
          | (go_at_call 85; refine (HD4.out _ C5.out.rd).mono ?_; clear HD4; rintro y w5 ⟨rfl, hR5, hG5⟩; have C6 : Hid (CR w r g l p5 e5 tv acc ad n cp av 0 ⟨#[]⟩ w5) := C5.out.next hr hR5 hG5; have c6 := C6.out.box.cell.2.2.2.1; have f6 := C6.out.box.frozen.2.2.2.1; have C7 : Hid (CR w r g l p5 e5 tv acc ad n cp av (wrap64 dv) ⟨#[]⟩ (w5.setCell ⟨w.heap.size, 3, none⟩ (.int .i64 (wrap64 dv)))) := C6.out.set3 hr hg (wrap64 dv); clear C5 hR5 hG5 C6 c4 f4)
          | (go_at_call 87; refine (HX5.out _ C7.out.rd).mono ?_; clear HX5; rintro y w6 ⟨rfl, hR6, hG6⟩; have C8 : Hid (CR w r g l p6 e6 tv acc ad n cp av (wrap64 dv) ⟨#[]⟩ w6) := C7.out.next hr hR6 hG6; have c8 := C8.out.box.cell.2.2.2.2; have f8 := C8.out.box.frozen.2.2.2.2; have C9 : Hid (CR w r g l p6 e6 tv acc ad n cp av (wrap64 dv) xv (w6.setCell ⟨w.heap.size, 4, none⟩ (.string xv))) := C8.out.set4 hr hg xv; obtain ⟨z0, z1, z2, z3, z4⟩ := C9.out.box.cell; clear C7 hR6 hG6 C8 c6 f6)
        go_ret
        exact com_out HEND.out C9.out
end Go.Proofs.Ytdibdcbihleflaa

/- Bytes, read as an object. -/
namespace Go.Proofs.Ytdibdcbihleflaa
open Go.RowKit

attribute [local go_sem] Oper.semAt_some

theorem end_st (w : World) (r g p : Nat) (e : Int) (l : List UInt8) (h : Rd w r g p e l) :
    Calls Try.prog 72 #[.pointer (some ⟨r, 0, none⟩)] w fun x w' => ∃ z : Int, x = .returned (.int .i64 z) ∧ (z = 0 ↔ e = 0 ∧ p = l.length) ∧ Below w.heap.size w w' := by
  have hp := h.hp
  by_cases he : e = 0
  · subst he
    refine (end_ok w r g p (l.length - p) l h (by omega)).mono fun x w' hx => ?_
    obtain ⟨hx, k, rfl⟩ := hx
    refine ⟨_, hx, ?_, below_drewN (Below.refl _ _) k⟩
    split
    · constructor
      · intro h; omega
      · intro h; omega
    · constructor
      · intro _; omega
      · intro _; rfl
  · refine (end_err w r e h.c1 (by simp [he])).mono fun x w' hx => ⟨e, hx.1, ?_, by rw [hx.2]; exact Below.refl _ _⟩
    constructor
    · intro h; exact absurd h he
    · intro h; exact h.1
theorem raw_st (w : World) (r g p m n : Nat) (l : List UInt8) (h : Rd w r g p 0 l) (hm : l.length = p + m) (hn : n ≤ m) (hlim : m ≤ 281474976710656) :
    Calls Try.prog 68 #[.pointer (some ⟨r, 0, none⟩), .int .i64 n] w fun e w' => ∃ ad c, e = .returned (.slice (some ad) n c) ∧ Bytes w' (some ad) n ((l.drop p).take n) ∧ Rd w' r g (p + n) 0 l ∧ w.grownBy w' (some r) := by
  have Hm : Hid (l.length = p + m) := hm
  clear hm
  go_enter Try.func68, Try.ntmps68
  go_wp2_with fail
  refine (take_yes _ r g p m n l h Hm.out hn).mono ?_
  rintro e w1 ⟨a, c, rfl, hb, hr, hg⟩
  go_wp2_with fail
  refine (withRoom_any a n c 0 _ _ hb (by omega)).mono ?_
  rintro e w2 ⟨rfl, hown, hg2⟩
  go_wp2
  go_ret
  refine ⟨_, _, rfl, (ownsRow_bytes hown).1, hr.kept hg2 (by simp) (by simp), grownBy_trans hg (grownBy_wide hg2)⟩
/-- an object, as plain data -/
inductive Ob where
  | blob (b : List UInt8)
  | tree (l : List Ent)
  | com (c : Int × List Int × ByteArray × Int × ByteArray)
/-- the object that bytes have the form of -/
def decR (l : List UInt8) : Option Ob :=
  if (byteR l 0 0).1 = 98 then some (.blob (l.drop 1))
  else if (byteR l 0 0).1 = 116 then
    (match (treeR l 1 0).1 with
    | none => none
    | some ents => if (treeR l 1 0).2.2 = 0 ∧ (treeR l 1 0).2.1 = l.length then some (.tree ents) else none)
  else if (byteR l 0 0).1 = 99 then (if (comR l 1 0).2.2 = 0 ∧ (comR l 1 0).2.1 = l.length then some (.com (comR l 1 0).1) else none)
  else none
/-- how an object that is read lies in memory -/
def DecOut (w : World) : Option Ob → Ending → World → Prop
  | none, x, _ => x = .returned .nilIface
  | some (.blob b), x, w' => ∃ ad cp, x = .returned (.iface 25 (.agg #[.slice (some ad) b.length cp])) ∧ Bytes w' (some ad) b.length b
  | some (.tree l), x, w' => ∃ ad cp, x = .returned (trV ad l.length cp) ∧ w'.ownsRow w.heap.size 50 3 (.slice ad l.length cp) l.length (entCells l)
  | some (.com c), x, w' => ComOut w c x w'
theorem byte_head {l : List UInt8} (h : (byteR l 0 0).1 ≠ 0) : byteR l 0 0 = ((byteR l 0 0).1, 1, 0) ∧ 1 ≤ l.length := by
  unfold byteR at h ⊢
  rw [if_neg (by simp)] at h ⊢
  by_cases hp : 0 < l.length
  · rw [if_pos hp]; exact ⟨rfl, hp⟩
  · rw [if_neg hp] at h; exact absurd rfl h
theorem below_of_gr {w W W' : World} {r : Nat} (h : Below w.heap.size w W) (hg : W.grownBy W' (some r)) (hr : w.heap.size ≤ r) : Below w.heap.size w W' := h.grown hg h.size (fun k hk => by cases hk; exact hr)
theorem row_lower' {w w1 W : World} {t : TypeId} {z n : Nat} {v : Value} {xs : List Value} (h : W.ownsRow w1.heap.size t z v n xs) (hl : w.heap.size ≤ w1.heap.size) : W.ownsRow w.heap.size t z v n xs := by
  refine ⟨h.1, ?_⟩
  rcases h.2 with h2 | ⟨g', cap, cur, e', hb, h3⟩
  · exact .inl h2
  · exact .inr ⟨g', cap, cur, e', by omega, h3⟩
theorem row_keep {W W' : World} {B n : Nat} {t : TypeId} {z : Nat} {v : Value} {xs : List Value} (h : W.ownsRow B t z v n xs) (hB : Below W.heap.size W W') : W'.ownsRow B t z v n xs :=
  h.kept (row := none) ⟨hB.os, hB.tape, hB.output, hB.size, fun k hk _ => hB.block k hk⟩ (by cases v.ownBlock <;> simp)

set_option maxRecDepth 20000 in
set_option maxHeartbeats 4000000 in
theorem decode_any (a : Option Addr) (n cap : Nat) (l : List UInt8) (w : World) (hb : Bytes w a n l) (hn : n ≤ 549755813888) :
    Calls Try.prog 49 #[.slice a n cap] w fun x w' => DecOut w (decR l) x w' ∧ Below w.heap.size w w' := by
  have hrd := oread_any a n cap l w hb (by omega)
  have hll := hb.1
  by_cases h98 : (byteR l 0 0).1 = 98
  · obtain ⟨hb1, hb2⟩ := byte_head (l := l) (by rw [h98]; decide)
    have hdec : decR l = some (.blob (l.drop 1)) := by unfold decR; rw [if_pos h98]
    rw [h98] at hb1
    rw [hdec]
    have HB : Hid (byteR l 0 0 = (98, 1, 0)) := hb1
    obtain ⟨m, hm⟩ : ∃ m, l.length = 1 + m := ⟨l.length - 1, by omega⟩
    have Hm : Hid (l.length = 1 + m) := hm
    have hm2 : m ≤ 549755813888 := by omega
    clear hb1 hb2 hdec hm hll hb h98
    go_enter Try.func49, Try.ntmps49
    go_wp2_with first
      | (go_at_call 66; refine hrd.mono ?_; clear hrd; rintro y w1 ⟨r, g, rfl, hr, hg, hR1, hG1⟩; have B1 : Hid (Below w.heap.size w w1) := ⟨hG1.os, hG1.tape, hG1.output, hG1.size, fun k hk => hG1.block k hk (by simp)⟩; have hby := byte_st w1 r g 0 0 l hR1; rw [HB.out] at hby; have hrl : r < w1.heap.size := World.block_lt_of_cell? w1 _ hR1.c0; clear hR1 hG1)
      | (go_at_call 67; refine hby.mono ?_; clear hby; rintro y w2 ⟨rfl, hR2, hG2⟩; have R2 : Hid (Rd w2 r g 1 0 l ∧ Below w.heap.size w w2) := ⟨hR2, below_of_gr B1.out hG2 hr⟩; have hr2 : r < w2.heap.size := Nat.lt_of_lt_of_le hrl hG2.size; clear hR2 hG2 B1)
      | (go_at_call 69; refine (left_any _ r g 1 m 0 l R2.out.1 Hm.out).mono ?_; rintro y w3 ⟨rfl, kk, hw3⟩; have R3 : Hid (Rd w3 r g 1 0 l ∧ Below w.heap.size w w3) := ⟨by rw [hw3]; exact R2.out.1.drewN kk, by rw [hw3]; exact below_drewN R2.out.2 kk⟩; clear hw3 R2)
      | (go_at_call 68; refine (raw_st _ r g 1 m m l R3.out.1 Hm.out (Nat.le_refl _) (by omega)).mono ?_; rintro y w4 ⟨ad, cp, rfl, hy4, hR4, hG4⟩; have R4 : Hid (Rd w4 r g (1 + m) 0 l ∧ Below w.heap.size w w4 ∧ Bytes w4 (some ad) m ((l.drop 1).take m)) := ⟨hR4, below_of_gr R3.out.2 hG4 hr, hy4⟩; clear hR4 hG4 hy4 R3)
      | (go_at_call 72; refine (end_st _ r g _ _ l R4.out.1).mono ?_; rintro y w5 ⟨z, rfl, hz, hB5⟩; obtain rfl : z = 0 := hz.2 ⟨rfl, Hm.out.symm⟩; have R5 : Hid (Below w.heap.size w w5 ∧ Bytes w5 (some ad) m ((l.drop 1).take m)) := ⟨R4.out.2.1.trans (hB5.mono R4.out.2.1.size), bytes_below R4.out.2.2 hB5⟩; clear hz hB5 R4)
    go_ret
    have h1 : (l.drop 1).length = m := by rw [List.length_drop, Hm.out]; omega
    refine ⟨⟨ad, cp, by rw [h1]; rfl, ?_⟩, R5.out.1⟩
    have h2 := R5.out.2
    rw [List.take_of_length_le (by omega)] at h2
    rw [h1]
    exact h2
  · have i98 : ((byteR l 0 0).1 == 98) = false := beq_eq_false_iff_ne.2 h98
    by_cases h116 : (byteR l 0 0).1 = 116
    · obtain ⟨hb1, hb2⟩ := byte_head (l := l) (by rw [h116]; decide)
      rw [h116] at hb1
      have HB : Hid (byteR l 0 0 = (116, 1, 0)) := hb1
      obtain ⟨D, hD⟩ : ∃ D, D = decR l := ⟨_, rfl⟩
      have hD' := hD
      unfold decR at hD'
      rw [if_neg h98, if_pos h116] at hD'
      have HD : Hid (D = match (treeR l 1 0).1 with
        | none => none
        | some ents => if (treeR l 1 0).2.2 = 0 ∧ (treeR l 1 0).2.1 = l.length then some (.tree ents) else none) := hD'
      rw [← hD]
      have HL : Hid (1 ≤ l.length ∧ l.length ≤ 549755813888) := ⟨hb2, by omega⟩
      obtain ⟨⟨to, tp, te⟩, hT⟩ : ∃ y, y = treeR l 1 0 := ⟨_, rfl⟩
      rw [← hT] at HD
      have HTR : Hid (∀ W r g, Rd W r g 1 0 l → r < W.heap.size → g < W.heap.size → Calls Try.prog 70 #[.pointer (some ⟨r, 0, none⟩)] W fun x w' => Rd w' r g tp te l ∧ W.grownBy w' (some r) ∧ TreeOut W to x w') := fun W r g hW h1 h2 => by
        have := readTree_any W r g 1 0 l hW h1 h2 HL.out.2
        rw [← hT] at this
        exact this
      clear hb1 hb2 hll hb h98 h116 hD hD' hT i98
      simp only at HD
      cases to with
      | none =>
        obtain rfl : D = none := HD.out
        clear HD
        go_enter Try.func49, Try.ntmps49
        go_upto_if 27 with (first
          | (go_at_call 66; refine hrd.mono ?_; clear hrd; rintro y w1 ⟨r, g, rfl, hr, hg, hR1, hG1⟩; have B1 : Hid (Below w.heap.size w w1) := ⟨hG1.os, hG1.tape, hG1.output, hG1.size, fun k hk => hG1.block k hk (by simp)⟩; have hby := byte_st w1 r g 0 0 l hR1; rw [HB.out] at hby; have hrl : r < w1.heap.size := World.block_lt_of_cell? w1 _ hR1.c0; clear hR1 hG1)
          | (go_at_call 67; refine hby.mono ?_; clear hby; rintro y w2 ⟨rfl, hR2, hG2⟩; have R2 : Hid (Rd w2 r g 1 0 l ∧ Below w.heap.size w w2) := ⟨hR2, below_of_gr B1.out hG2 hr⟩; have hr2 : r < w2.heap.size := Nat.lt_of_lt_of_le hrl hG2.size; clear hR2 hG2 B1)
          | (go_at_call 70; have hg2 : g < w2.heap.size := World.block_lt_of_cell? w2 _ (R2.out.1.row 0 HL.out.1); refine (HTR.out _ r g R2.out.1 hr2 hg2).mono ?_; rintro y w3 ⟨hR3, hG3, hO3⟩; have hO3' : y = .returned .nilIface := hO3; subst hO3'; have R3 : Hid (Rd w3 r g tp te l ∧ Below w.heap.size w w3) := ⟨hR3, below_of_gr R2.out.2 hG3 hr⟩; clear hR3 hG3 hO3 R2)
          | (go_at_call 72; refine (end_st _ r g _ _ l R3.out.1).mono ?_; rintro y w5 ⟨z, rfl, hz, hB5⟩; have R5 : Hid (Below w.heap.size w w5) := R3.out.2.trans (hB5.mono R3.out.2.size); clear hz hB5 R3))
        by_cases hz0 : z = 0
        · subst hz0
          go_wp2
          go_ret
          exact ⟨rfl, R5.out⟩
        · have z1 : (z != 0) = true := by simp [hz0]
          have z2 : (z == 0) = false := by simp [hz0]
          go_wp2
          go_ret
          exact ⟨rfl, R5.out⟩
      | some ents =>
        simp only at HD
        go_enter Try.func49, Try.ntmps49
        go_upto_if 27 with (first
          | (go_at_call 66; refine hrd.mono ?_; clear hrd; rintro y w1 ⟨r, g, rfl, hr, hg, hR1, hG1⟩; have B1 : Hid (Below w.heap.size w w1) := ⟨hG1.os, hG1.tape, hG1.output, hG1.size, fun k hk => hG1.block k hk (by simp)⟩; have hby := byte_st w1 r g 0 0 l hR1; rw [HB.out] at hby; have hrl : r < w1.heap.size := World.block_lt_of_cell? w1 _ hR1.c0; clear hR1 hG1)
          | (go_at_call 67; refine hby.mono ?_; clear hby; rintro y w2 ⟨rfl, hR2, hG2⟩; have R2 : Hid (Rd w2 r g 1 0 l ∧ Below w.heap.size w w2) := ⟨hR2, below_of_gr B1.out hG2 hr⟩; have hr2 : r < w2.heap.size := Nat.lt_of_lt_of_le hrl hG2.size; clear hR2 hG2 B1)
          | (go_at_call 70; have hg2 : g < w2.heap.size := World.block_lt_of_cell? w2 _ (R2.out.1.row 0 HL.out.1); refine (HTR.out _ r g R2.out.1 hr2 hg2).mono ?_; rintro y w3 ⟨hR3, hG3, hO3⟩; obtain ⟨ad, cp, hy, hO3'⟩ := hO3; subst hy; have R3 : Hid (Rd w3 r g tp te l ∧ Below w.heap.size w w3 ∧ w3.ownsRow w.heap.size 50 3 (.slice ad ents.length cp) ents.length (entCells ents)) := ⟨hR3, below_of_gr R2.out.2 hG3 hr, row_lower' hO3' R2.out.2.size⟩; clear hR3 hG3 hO3' R2)
          | (go_at_call 72; refine (end_st _ r g _ _ l R3.out.1).mono ?_; rintro y w5 ⟨z, rfl, hz, hB5⟩; have HZ : Hid (z = 0 ↔ te = 0 ∧ tp = l.length) := hz; have R5 : Hid (Below w.heap.size w w5 ∧ w5.ownsRow w.heap.size 50 3 (.slice ad ents.length cp) ents.length (entCells ents)) := ⟨R3.out.2.1.trans (hB5.mono R3.out.2.1.size), row_keep R3.out.2.2 hB5⟩; clear hz hB5 R3))
        by_cases hz0 : z = 0
        · have hD := HD.out
          rw [if_pos (HZ.out.1 hz0)] at hD
          subst hz0 hD
          clear HD HZ
          go_wp2
          go_ret
          exact ⟨⟨ad, cp, rfl, R5.out.2⟩, R5.out.1⟩
        · have hD := HD.out
          rw [if_neg (fun h => hz0 (HZ.out.2 h))] at hD
          subst hD
          have z1 : (z != 0) = true := by simp [hz0]
          have z2 : (z == 0) = false := by simp [hz0]
          clear HD HZ
          go_wp2
          go_ret
          exact ⟨rfl, R5.out.1⟩
    · have i116 : ((byteR l 0 0).1 == 116) = false := beq_eq_false_iff_ne.2 h116
      by_cases h99 : (byteR l 0 0).1 = 99
      · obtain ⟨hb1, hb2⟩ := byte_head (l := l) (by rw [h99]; decide)
        rw [h99] at hb1
        have HB : Hid (byteR l 0 0 = (99, 1, 0)) := hb1
        obtain ⟨D, hD⟩ : ∃ D, D = decR l := ⟨_, rfl⟩
        have hD' := hD
        unfold decR at hD'
        rw [if_neg h98, if_neg h116, if_pos h99] at hD'
        have HD : Hid (D = if (comR l 1 0).2.2 = 0 ∧ (comR l 1 0).2.1 = l.length then some (.com (comR l 1 0).1) else none) := hD'
        rw [← hD]
        have HL : Hid (1 ≤ l.length ∧ l.length ≤ 549755813888) := ⟨hb2, by omega⟩
        obtain ⟨⟨co, tp, te⟩, hT⟩ : ∃ y, y = comR l 1 0 := ⟨_, rfl⟩
        rw [← hT] at HD
        have HTR : Hid (∀ W r g, Rd W r g 1 0 l → r < W.heap.size → g < W.heap.size → Calls Try.prog 71 #[.pointer (some ⟨r, 0, none⟩)] W fun x w' => Rd w' r g tp te l ∧ W.grownBy w' (some r) ∧ ComOut W co x w') := fun W r g hW h1 h2 => by
          have := readCommit_any W r g 1 0 l hW h1 h2 HL.out.2
          rw [← hT] at this
          exact this
        clear hb1 hb2 hll hb h98 h116 h99 hD hD' hT i98 i116
        simp only at HD
        obtain ⟨c1, c2, c3, c4, c5⟩ := co
        go_enter Try.func49, Try.ntmps49
        go_upto_if 27 with (first
          | (go_at_call 66; refine hrd.mono ?_; clear hrd; rintro y w1 ⟨r, g, rfl, hr, hg, hR1, hG1⟩; have B1 : Hid (Below w.heap.size w w1) := ⟨hG1.os, hG1.tape, hG1.output, hG1.size, fun k hk => hG1.block k hk (by simp)⟩; have hby := byte_st w1 r g 0 0 l hR1; rw [HB.out] at hby; have hrl : r < w1.heap.size := World.block_lt_of_cell? w1 _ hR1.c0; clear hR1 hG1)
          | (go_at_call 67; refine hby.mono ?_; clear hby; rintro y w2 ⟨rfl, hR2, hG2⟩; have R2 : Hid (Rd w2 r g 1 0 l ∧ Below w.heap.size w w2) := ⟨hR2, below_of_gr B1.out hG2 hr⟩; have hr2 : r < w2.heap.size := Nat.lt_of_lt_of_le hrl hG2.size; clear hR2 hG2 B1)
          | (go_at_call 71; have hg2 : g < w2.heap.size := World.block_lt_of_cell? w2 _ (R2.out.1.row 0 HL.out.1); refine (HTR.out _ r g R2.out.1 hr2 hg2).mono ?_; rintro y w3 ⟨hR3, hG3, hO3⟩; obtain ⟨ad, cp, hy, hO3'⟩ := hO3; subst hy; have R3 : Hid (Rd w3 r g tp te l ∧ Below w.heap.size w w3 ∧ w3.ownsRow w.heap.size 39 1 (.slice ad c2.length cp) c2.length (c2.map (Value.int .u64))) := ⟨hR3, below_of_gr R2.out.2 hG3 hr, row_lower' hO3' R2.out.2.size⟩; clear hR3 hG3 hO3' R2)
          | (go_at_call 72; refine (end_st _ r g _ _ l R3.out.1).mono ?_; rintro y w5 ⟨z, rfl, hz, hB5⟩; have HZ : Hid (z = 0 ↔ te = 0 ∧ tp = l.length) := hz; have R5 : Hid (Below w.heap.size w w5 ∧ w5.ownsRow w.heap.size 39 1 (.slice ad c2.length cp) c2.length (c2.map (Value.int .u64))) := ⟨R3.out.2.1.trans (hB5.mono R3.out.2.1.size), row_keep R3.out.2.2 hB5⟩; clear hz hB5 R3))
        by_cases hz0 : z = 0
        · have hD := HD.out
          rw [if_pos (HZ.out.1 hz0)] at hD
          subst hz0 hD
          clear HD HZ
          go_wp2
          go_ret
          exact ⟨⟨ad, cp, rfl, R5.out.2⟩, R5.out.1⟩
        · have hD := HD.out
          rw [if_neg (fun h => hz0 (HZ.out.2 h))] at hD
          subst hD
          have z1 : (z != 0) = true := by simp [hz0]
          have z2 : (z == 0) = false := by simp [hz0]
          clear HD HZ
          go_wp2
          go_ret
          exact ⟨rfl, R5.out.1⟩
      · have i99 : ((byteR l 0 0).1 == 99) = false := beq_eq_false_iff_ne.2 h99
        have hdec : decR l = none := by unfold decR; rw [if_neg h98, if_neg h116, if_neg h99]
        rw [hdec]
        obtain ⟨⟨bv, bp, be⟩, hB⟩ : ∃ y, y = byteR l 0 0 := ⟨_, rfl⟩
        have HB : Hid (byteR l 0 0 = (bv, bp, be)) := hB.symm
        rw [← hB] at i98 i116 i99
        simp only at i98 i116 i99
        clear hll hb h98 h116 h99 hB hdec
        go_enter Try.func49, Try.ntmps49
        go_upto_if 27 with (first
          | (go_at_call 66; refine hrd.mono ?_; clear hrd; rintro y w1 ⟨r, g, rfl, hr, hg, hR1, hG1⟩; have B1 : Hid (Below w.heap.size w w1) := ⟨hG1.os, hG1.tape, hG1.output, hG1.size, fun k hk => hG1.block k hk (by simp)⟩; have hby := byte_st w1 r g 0 0 l hR1; rw [HB.out] at hby; have hrl : r < w1.heap.size := World.block_lt_of_cell? w1 _ hR1.c0; clear hR1 hG1)
          | (go_at_call 67; refine hby.mono ?_; clear hby; rintro y w2 ⟨rfl, hR2, hG2⟩; have R2 : Hid (Rd w2 r g bp be l ∧ Below w.heap.size w w2) := ⟨hR2, below_of_gr B1.out hG2 hr⟩; have hr2 : r < w2.heap.size := Nat.lt_of_lt_of_le hrl hG2.size; clear hR2 hG2 B1)
          | (go_at_call 72; refine (end_st _ r g _ _ l R2.out.1).mono ?_; rintro y w5 ⟨z, rfl, hz, hB5⟩; have R5 : Hid (Below w.heap.size w w5) := R2.out.2.trans (hB5.mono R2.out.2.size); clear hz hB5 R2))
        by_cases hz0 : z = 0
        · subst hz0
          go_wp2
          go_ret
          exact ⟨rfl, R5.out⟩
        · have z1 : (z != 0) = true := by simp [hz0]
          have z2 : (z == 0) = false := by simp [hz0]
          go_wp2
          go_ret
          exact ⟨rfl, R5.out⟩
end Go.Proofs.Ytdibdcbihleflaa

/- Plain: short and wide forms are read back. -/
namespace Go.Proofs.Ytdibdcbihleflaa
open Go.RowKit

theorem shortF_canon : ∀ (f x : Nat), x < 128 ^ (f + 1) → Canon (shortF f x) ∧ val (shortF f x) = x := by
  intro f
  induction f with
  | zero =>
    intro x hx
    have hx' : x < 128 := by simpa using hx
    have e : (UInt8.ofNat x).toNat = x := by rw [UInt8.toNat_ofNat']; omega
    simp only [shortF, Canon, val, e]
    omega
  | succ f ih =>
    intro x hx
    by_cases h : x < 128
    · have e : (UInt8.ofNat x).toNat = x := by rw [UInt8.toNat_ofNat']; omega
      rw [shortF_low _ _ h]
      simp only [Canon, val, e]
      omega
    · rw [shortF_high f x h]
      obtain ⟨h1, h2⟩ := ih (x / 128) (by rw [Nat.pow_succ] at hx; exact Nat.div_lt_of_lt_mul (by rw [Nat.mul_comm]; exact hx))
      have e : (UInt8.ofNat (x % 128 + 128)).toNat = x % 128 + 128 := by rw [UInt8.toNat_ofNat']; omega
      constructor
      · cases hs : shortF f (x / 128) with
        | nil => rw [hs] at h1; exact absurd h1 (by simp [Canon])
        | cons d t => rw [hs] at h1 h2; exact ⟨by rw [e]; omega, h1, by rw [h2]; omega⟩
      · simp only [val, e, h2]; omega
theorem short_canon (x : Nat) (hx : x < 18446744073709551616) : Canon (short x) ∧ val (short x) = x :=
  shortF_canon 9 x (by have : (18446744073709551616 : Nat) ≤ 128 ^ (9 + 1) := by decide
                       omega)

theorem drop_cons {l : List UInt8} {i : Nat} {c : UInt8} {t : List UInt8} (h : l.drop i = c :: t) : bt l i = (c.toNat : Int) ∧ l.drop (i + 1) = t := by
  have hi : i < l.length := by
    by_cases hi : i < l.length
    · exact hi
    · rw [List.drop_eq_nil_of_le (by omega)] at h; cases h
  obtain ⟨c', h1, h2⟩ := drop_bt l i hi
  rw [h1] at h
  simp only [List.cons.injEq] at h
  rw [h.1] at h2
  exact ⟨h2, h.2⟩

theorem canon_num : ∀ (p : List UInt8), Canon p → ∀ (i f : Nat) (l rest : List UInt8), l.drop i = p ++ rest → p.length ≤ f → i ≤ 9 → (0 < i → 0 < val p) → val p * 128 ^ i < 18446744073709551616 →
    numFrom l f i = (accTo l i + 128 ^ i * (val p : Int), i + p.length, 0) := by
  intro p
  induction p with
  | nil => intro h; exact absurd h (by simp [Canon])
  | cons c t ih =>
    intro hp i f l rest hd hf hi hv hlim
    obtain ⟨f', rfl⟩ : ∃ f', f = f' + 1 := ⟨f - 1, by simp at hf; omega⟩
    obtain ⟨hbt, hd'⟩ := drop_cons hd
    have hcl := c.toNat_lt
    cases t with
    | nil =>
      simp only [Canon] at hp
      have hval : val [c] = c.toNat := by simp only [val]; omega
      rw [hval] at hlim hv
      have hb : brokenB i (bt l i) = false := by
        rw [hbt]
        simp only [brokenB]
        have h9 : i = 9 → c.toNat ≤ 1 := by
          intro h9; subst h9
          have : (128 : Nat) ^ 9 = 9223372036854775808 := by decide
          rw [this] at hlim
          omega
        have h0 : 0 < i → ¬ c.toNat = 0 := fun h => by have := hv h; omega
        by_cases h1 : i = 9
        · have := h9 h1
          have := h0 (by omega)
          simp [h1]
          omega
        · by_cases h2 : 0 < i
          · have := h0 h2
            simp [h1]
            omega
          · simp [h1]
            omega
      rw [numFrom, if_neg (by simp [hb]), if_pos (by rw [hbt]; omega), accTo_succ, hbt, hval]
      simp only [List.length_singleton, Prod.mk.injEq, and_true]
      have : (c.toNat : Int) % 128 = (c.toNat : Int) := by omega
      rw [this, Int.mul_comm]
    | cons d t =>
      obtain ⟨h1, h2, h3⟩ := hp
      have hval : val (c :: d :: t) = c.toNat % 128 + 128 * val (d :: t) := rfl
      have hi8 : i ≤ 8 := by
        by_cases h9 : i = 9
        · subst h9
          have h128 : (128 : Nat) ^ 9 = 9223372036854775808 := by decide
          rw [h128, hval] at hlim
          omega
        · omega
      have hb : brokenB i (bt l i) = false := by
        rw [hbt]
        simp only [brokenB]
        have : ¬ i = 9 := by omega
        simp [this]
        omega
      have hlim' : val (d :: t) * 128 ^ (i + 1) < 18446744073709551616 := by
        have hle : val (d :: t) * 128 ^ (i + 1) ≤ val (c :: d :: t) * 128 ^ i := by
          rw [Nat.pow_succ, Nat.mul_comm (128 ^ i) 128, ← Nat.mul_assoc]
          exact Nat.mul_le_mul_right _ (by rw [hval]; omega)
        omega
      rw [numFrom, if_neg (by simp [hb]), if_neg (by rw [hbt]; omega), ih h2 (i + 1) f' l rest hd' (by simp at hf ⊢; omega) (by omega) (fun _ => h3) hlim', accTo_succ, hbt, hval, Int.pow_succ]
      simp only [List.length_cons, Prod.mk.injEq, and_true]
      refine ⟨?_, by omega⟩
      have e1 : ((c.toNat % 128 + 128 * val (d :: t) : Nat) : Int) = (c.toNat : Int) % 128 + 128 * (val (d :: t) : Int) := by omega
      rw [e1, Int.mul_add, Int.mul_comm ((c.toNat : Int) % 128), Int.mul_assoc]
      omega

theorem num_short_app (x : Nat) (hx : x < 18446744073709551616) (rest : List UInt8) : num (short x ++ rest) = ((x : Int), (short x).length, 0) := by
  obtain ⟨h1, h2⟩ := short_canon x hx
  unfold num
  rw [canon_num (short x) h1 0 _ (short x ++ rest) rest rfl (by simp) (by omega) (fun h => by omega) (by rw [h2]; omega), h2]
  simp [accTo]

theorem canon_prefix : ∀ (p : List UInt8), Canon p → ∀ (j i : Nat) (l : List UInt8), j < p.length → l.drop i = p.take j → i + p.length ≤ 10 → numFrom l j i = (0, 0, 110) := by
  intro p
  induction p with
  | nil => intro h; exact absurd h (by simp [Canon])
  | cons c t ih =>
    intro hp j i l hj hd hi
    cases j with
    | zero => rfl
    | succ j =>
      cases t with
      | nil => simp at hj
      | cons d t =>
        obtain ⟨h1, h2, _⟩ := hp
        rw [List.take_succ_cons] at hd
        obtain ⟨hbt, hd'⟩ := drop_cons hd
        simp only [List.length_cons] at hi hj
        have hb : brokenB i (bt l i) = false := by
          rw [hbt]
          simp only [brokenB]
          have : ¬ i = 9 := by omega
          simp [this]
          omega
        rw [numFrom, if_neg (by simp [hb]), if_neg (by rw [hbt]; omega)]
        exact ih h2 j (i + 1) l (by simp only [List.length_cons]; omega) hd' (by simp only [List.length_cons]; omega)

theorem num_short_cut (x j : Nat) (hx : x < 18446744073709551616) (hj : j < (short x).length) : num ((short x).take j) = (0, 0, 110) := by
  obtain ⟨h1, _⟩ := short_canon x hx
  have hl := short_len x
  unfold num
  rw [List.length_take, Nat.min_eq_left (by omega)]
  exact canon_prefix (short x) h1 j 0 _ hj rfl (by omega)

theorem wideVal_wide (x : Nat) (rest : List UInt8) : ∀ k, k ≤ 8 → x < 256 ^ 8 → wideVal (wide x ++ rest) k = ((x / 256 ^ (8 - k) : Nat) : Int) := by
  intro k
  induction k with
  | zero => intro _ hx; rw [Nat.sub_zero, Nat.div_eq_of_lt hx]; rfl
  | succ k ih =>
    intro hk hx
    have hb : bt (wide x ++ rest) k = ((x / 256 ^ (7 - k) % 256 : Nat) : Int) := by
      have h1 : bt (wide x ++ rest) k = bt (wide x) k := by
        unfold bt
        rw [List.getD_eq_getElem?_getD, List.getD_eq_getElem?_getD, List.getElem?_append_left (by unfold wide; rw [wideTo_len]; omega)]
      rw [h1]
      exact wideTo_bt x k 8 (by omega)
    rw [wideVal_succ, ih (by omega) hx, hb, show 8 - k = (7 - k) + 1 from by omega, show 8 - (k + 1) = 7 - k from by omega, Nat.pow_succ, ← Nat.div_div_eq_div_mul]
    omega
theorem txt_zero (l : List UInt8) (m : Int) (h : (txt l m).2.2 = 0) : ¬ m < 0 ∧ (num l).2.2 = 0 ∧ ¬ m < (num l).1 ∧ ¬ ((l.length - (num l).2.1 : Nat) : Int) < (num l).1 ∧ txt l m = ((num l).2.1, (num l).2.1 + (num l).1.toNat, 0) := by
  by_cases h0 : m < 0
  · rw [txt_arg l m h0] at h; simp at h
  · by_cases h1 : (num l).2.2 ≠ 0
    · rw [txt_num l m h0 h1] at h; simp at h; exact absurd h h1
    · have h1' : (num l).2.2 = 0 := by simpa using h1
      by_cases h2 : m < (num l).1
      · rw [txt_long l m h0 h1' h2] at h; simp at h
      · by_cases h3 : ((l.length - (num l).2.1 : Nat) : Int) < (num l).1
        · rw [txt_short l m h0 h1' h2 h3] at h; simp at h
        · exact ⟨h0, h1', h2, h3, txt_ok l m h0 h1' h2 h3⟩
end Go.Proofs.Ytdibdcbihleflaa

/- Plain: what is read is what was written, and the other way round. -/
namespace Go.Proofs.Ytdibdcbihleflaa
open Go.RowKit

theorem wideVal_inj (t u : List UInt8) : ∀ k, wideVal t k = wideVal u k → ∀ i, i < k → bt t i = bt u i := by
  intro k
  induction k with
  | zero => intro _ i hi; omega
  | succ k ih =>
    intro h i hi
    rw [wideVal_succ, wideVal_succ] at h
    have a0 := bt_lo t k
    have a1 := bt_hi t k
    have b0 := bt_lo u k
    have b1 := bt_hi u k
    by_cases e : i = k
    · subst e; omega
    · exact ih (by omega) i (by omega)
theorem bt_ext {t u : List UInt8} (hl : t.length = u.length) (h : ∀ i, i < t.length → bt t i = bt u i) : t = u := by
  refine List.ext_getElem hl fun i h1 h2 => ?_
  have := h i h1
  simp only [bt, List.getD, List.getElem?_eq_getElem h1, List.getElem?_eq_getElem h2, Option.getD_some] at this
  exact UInt8.toNat_inj.1 (by omega)
theorem wide_back (t : List UInt8) (ht : t.length = 8) (X : Nat) (hX : X < 18446744073709551616) (h : wideVal t 8 = (X : Int)) : t = wide X := by
  have hw := wideVal_wide X [] 8 (by omega) (by omega)
  rw [List.append_nil] at hw
  have e : wideVal t 8 = wideVal (wide X) 8 := by rw [h, hw]; simp
  exact bt_ext (by rw [ht, wide_len]) (fun i hi => wideVal_inj t (wide X) 8 e i (by omega))
/-- from p to q lie the bytes A -/
structure At (l : List UInt8) (p : Nat) (A : List UInt8) (q : Nat) : Prop where
  eq : l.drop p = A ++ l.drop q
  len : q = p + A.length
  le : q ≤ l.length
theorem At.trans {l : List UInt8} {p q r : Nat} {A B : List UInt8} (h : At l p A q) (k : At l q B r) : At l p (A ++ B) r :=
  ⟨by rw [h.eq, k.eq, List.append_assoc], by rw [k.len, h.len, List.length_append]; omega, k.le⟩
theorem At.nil {l : List UInt8} {p : Nat} (h : p ≤ l.length) : At l p [] p := ⟨rfl, by simp, h⟩
theorem At.of {l : List UInt8} {p : Nat} {A r : List UInt8} (h : l.drop p = A ++ r) (hp : p ≤ l.length) : At l p A (p + A.length) ∧ l.drop (p + A.length) = r := by
  have e : l.drop (p + A.length) = r := by rw [← List.drop_drop, h]; simp
  refine ⟨⟨by rw [e, h], rfl, ?_⟩, e⟩
  have := congrArg List.length h
  rw [List.length_drop, List.length_append] at this
  omega
/-- forth -/
theorem byte_at {l : List UInt8} {p q : Nat} {e v : Int} (h : byteR l p e = (v, q, 0)) : e = 0 ∧ ∃ c : UInt8, v = (c.toNat : Int) ∧ At l p [c] q := by
  obtain ⟨he, _, hp⟩ := byteR_ok (l := l) (p := p) (e := e) (by rw [h])
  subst he
  unfold byteR at h
  rw [if_neg (by simp), if_pos hp] at h
  simp only [Prod.mk.injEq, and_true] at h
  refine ⟨rfl, l[p], ?_, ?_⟩
  · rw [← h.1]; simp [bt, hp]
  · exact ⟨by rw [List.drop_eq_getElem_cons hp, ← h.2]; rfl, by rw [← h.2]; rfl, by omega⟩
theorem uint_at {l : List UInt8} {p q : Nat} {e v : Int} (h : uintR l p e = (v, q, 0)) (hp : p ≤ l.length) : e = 0 ∧ ∃ X : Nat, v = (X : Int) ∧ X < 18446744073709551616 ∧ At l p (short X) q := by
  unfold uintR at h
  by_cases he : e ≠ 0
  · rw [if_pos he] at h; simp only [Prod.mk.injEq] at h; exact absurd h.2.2 he
  · rw [if_neg he] at h
    by_cases hn : (num (l.drop p)).2.2 = 0
    · rw [if_pos hn] at h
      simp only [Prod.mk.injEq, and_true] at h
      obtain ⟨X, h1, h2, h3, h4, h5, h6⟩ := num_back (l.drop p) (num (l.drop p)).1 (num (l.drop p)).2.1 (by rw [← hn])
      rw [List.length_drop] at h5
      refine ⟨by omega, X, by rw [← h.1]; exact h1, h6, ?_, ?_, by omega⟩
      · rw [h2, ← h.2, ← List.drop_drop, List.take_append_drop]
      · rw [h2, ← h.2, List.length_take, List.length_drop]; omega
    · rw [if_neg hn] at h; simp only [Prod.mk.injEq] at h; exact absurd h.2.2 hn
theorem word_at {l : List UInt8} {p q : Nat} {e v : Int} (h : wordR l p e = (v, q, 0)) : e = 0 ∧ ∃ X : Nat, v = (X : Int) ∧ X < 18446744073709551616 ∧ At l p (wide X) q := by
  obtain ⟨he, _, hp⟩ := wordR_ok (l := l) (p := p) (e := e) (by rw [h])
  subst he
  unfold wordR at h
  rw [if_neg (by simp), if_neg (by omega)] at h
  simp only [Prod.mk.injEq, and_true] at h
  have hlo := wideVal_lo ((l.drop p).take 8) 8
  have hfi := wideVal_fits ((l.drop p).take 8) 8 (by omega)
  obtain ⟨X, hX⟩ := Int.eq_ofNat_of_zero_le hlo
  have ht : ((l.drop p).take 8).length = 8 := by rw [List.length_take, List.length_drop]; omega
  have hb := wide_back _ ht X (by omega) hX
  refine ⟨rfl, X, by rw [← h.1]; exact hX, by omega, ?_, by rw [wide_len]; exact h.2.symm, by omega⟩
  rw [← hb, ← h.2, ← List.drop_drop, List.take_append_drop]
theorem text_at {l : List UInt8} {p q : Nat} {e m : Int} {s : ByteArray} (h : textR l p e m = (s, q, 0)) (hp : p ≤ l.length) : e = 0 ∧ At l p (short s.size ++ s.data.toList) q ∧ (s.size : Int) ≤ m := by
  unfold textR at h
  by_cases he : e ≠ 0
  · rw [if_pos he] at h; simp only [Prod.mk.injEq] at h; exact absurd h.2.2 he
  · rw [if_neg he] at h
    by_cases hn : (txt (l.drop p) m).2.2 = 0
    · rw [if_pos hn] at h
      simp only [Prod.mk.injEq, and_true] at h
      obtain ⟨z1, z2, z3, z4, z5⟩ := txt_zero (l.drop p) m hn
      obtain ⟨X, h1, h2, h3, h4, h5, h6⟩ := num_back (l.drop p) (num (l.drop p)).1 (num (l.drop p)).2.1 (by rw [← z2])
      unfold cutT at h
      rw [z5] at h
      simp only at h
      rw [h1] at h z3 z4
      generalize (num (l.drop p)).2.1 = k at *
      rw [List.length_drop] at h5
      simp only [List.length_drop] at z4
      simp only [Int.toNat_natCast] at h
      have hd : ((l.drop p).take (k + X)).drop k = ((l.drop p).drop k).take X := by rw [List.drop_take]; congr 1; omega
      have hs : s.data.toList = ((l.drop p).drop k).take X := by rw [← h.1, ← hd]
      have hsz : s.size = X := by
        have : s.data.toList.length = s.size := Array.length_toList
        rw [← this, hs, List.length_take, List.length_drop, List.length_drop]; omega
      refine ⟨by omega, ⟨?_, ?_, by omega⟩, by omega⟩
      · rw [hs, hsz, h2, ← h.2, ← List.drop_drop, ← List.drop_drop, List.append_assoc, List.take_append_drop, List.take_append_drop]
      · have l1 : (short s.size).length = k := by rw [hsz, h2, List.length_take, List.length_drop]; omega
        have l2 : s.data.toList.length = s.size := Array.length_toList
        rw [List.length_append, l1, l2, hsz]; omega
    · rw [if_neg hn] at h; simp only [Prod.mk.injEq] at h; exact absurd h.2.2 hn
/-- an entry as it may be read -/
def EntOk (x : Ent) : Prop := x.1.size ≤ 32 ∧ 0 ≤ x.2.2 ∧ x.2.2 < 18446744073709551616
theorem ent_at {l : List UInt8} {p : Nat} {e : Int} {x : Ent} (h : (entR l p e).1 = some x) (hp : p ≤ l.length) : e = 0 ∧ (entR l p e).2.2 = 0 ∧ At l p (entB x) (entR l p e).2.1 ∧ EntOk x := by
  have h2 := (entR_some h).2.2
  unfold entR at h h2 ⊢
  simp only at h h2 ⊢
  obtain ⟨⟨t1, tp, te⟩, ht⟩ : ∃ y, y = textR l p e 32 := ⟨_, rfl⟩
  rw [← ht] at h h2 ⊢
  simp only at h h2 ⊢
  obtain ⟨⟨bv, bp, be⟩, hb⟩ : ∃ y, y = byteR l tp te := ⟨_, rfl⟩
  rw [← hb] at h h2 ⊢
  simp only at h h2 ⊢
  obtain ⟨⟨xv, xp, xe⟩, hx⟩ : ∃ y, y = wordR l bp be := ⟨_, rfl⟩
  rw [← hx] at h h2 ⊢
  simp only at h h2 ⊢
  subst h2
  obtain ⟨rfl, X, rfl, hX, a3⟩ := word_at hx.symm
  obtain ⟨rfl, c, rfl, a2⟩ := byte_at hb.symm
  obtain ⟨rfl, a1, hs⟩ := text_at ht.symm hp
  by_cases hq : (0 : Int) ≠ 0 ∨ 1 < (c.toNat : Int)
  · rw [if_pos hq] at h; cases h
  · rw [if_neg hq] at h
    cases h
    refine ⟨rfl, rfl, ?_, by show t1.size ≤ 32; omega, by show (0 : Int) ≤ (X : Int); omega, by show (X : Int) < _; omega⟩
    have hc : c = if ((c.toNat : Int) == 1) = true then 1 else 0 := by
      have : c.toNat = 0 ∨ c.toNat = 1 := by omega
      rcases this with h0 | h0
      · rw [h0]; exact UInt8.toNat_inj.1 (by rw [h0]; rfl)
      · rw [h0]; exact UInt8.toNat_inj.1 (by rw [h0]; rfl)
    have := (a1.trans a2).trans a3
    unfold entB
    rw [← hc]
    simpa using this
theorem ents_at : ∀ (n : Nat) (l : List UInt8) (p : Nat) (e : Int) (acc R : List Ent), (entsR n l p e acc).1 = some R → (entsR n l p e acc).2.2 = 0 → p ≤ l.length → ∃ M, R = acc ++ M ∧ M.length = n ∧ e = 0 ∧ At l p (entsB M) (entsR n l p e acc).2.1 ∧ ∀ x ∈ M, EntOk x
  | 0, l, p, e, acc, R, h, h0, hp => by
    unfold entsR at h h0 ⊢
    simp only [Option.some.injEq] at h h0 ⊢
    exact ⟨[], by rw [h]; simp, rfl, h0, At.nil hp, fun x hx => by simp at hx⟩
  | n + 1, l, p, e, acc, R, h, h0, hp => by
    unfold entsR at h h0 ⊢
    cases hx : (entR l p e).1 with
    | none => rw [hx] at h; simp at h
    | some x =>
      rw [hx] at h h0
      simp only at h h0 ⊢
      obtain ⟨he, he', a1, ok⟩ := ent_at hx hp
      obtain ⟨M, h1, h2, _, a2, h4⟩ := ents_at n l _ _ _ R h h0 a1.le
      refine ⟨x :: M, by rw [h1]; simp, by simp [h2], he, ?_, fun y hy => ?_⟩
      · have := a1.trans a2
        simpa [entsB] using this
      · rcases List.mem_cons.1 hy with rfl | hy
        · exact ok
        · exact h4 y hy
theorem tree_rd {l : List UInt8} {p : Nat} {R : List Ent} (h : (treeR l p 0).1 = some R) (h0 : (treeR l p 0).2.2 = 0) (hp : p ≤ l.length) : At l p (short R.length ++ entsB R) (treeR l p 0).2.1 ∧ ∀ x ∈ R, EntOk x := by
  unfold treeR at h h0 ⊢
  obtain ⟨⟨u, up, ue⟩, hu⟩ : ∃ y, y = uintR l p 0 := ⟨_, rfl⟩
  rw [← hu] at h h0 ⊢
  simp only at h h0 ⊢
  have hup : up ≤ l.length := by
    by_cases h1 : ue = 0
    · subst h1
      obtain ⟨_, X, _, _, a⟩ := uint_at hu.symm hp
      exact a.le
    · unfold uintR at hu
      rw [if_neg (by simp)] at hu
      split at hu
      · cases hu; exact absurd rfl h1
      · cases hu; exact hp
  obtain ⟨M, h1, h2, h3, a2, h4⟩ := ents_at _ l _ _ _ R h h0 hup
  subst h3
  obtain ⟨_, X, rfl, hX, a1⟩ := uint_at hu.symm hp
  simp only [List.nil_append, Int.toNat_natCast] at h1 h2
  subst h1
  rw [h2]
  exact ⟨a1.trans a2, h4⟩
theorem pars_at : ∀ (n : Nat) (l : List UInt8) (p : Nat) (e : Int) (acc : List Int), (parsR n l p e acc).2.2 = 0 → p ≤ l.length → ∃ M, (parsR n l p e acc).1 = acc ++ M ∧ M.length = n ∧ e = 0 ∧ At l p (parsB M) (parsR n l p e acc).2.1 ∧ ∀ x ∈ M, 0 ≤ x ∧ x < 18446744073709551616
  | 0, l, p, e, acc, h0, hp => by
    unfold parsR at h0 ⊢
    exact ⟨[], by simp, rfl, h0, At.nil hp, fun x hx => by simp at hx⟩
  | n + 1, l, p, e, acc, h0, hp => by
    unfold parsR at h0 ⊢
    by_cases he : e ≠ 0
    · rw [if_pos he] at h0; exact absurd h0 he
    · rw [if_neg he] at h0 ⊢
      obtain ⟨⟨v, q, f⟩, hw⟩ : ∃ y, y = wordR l p e := ⟨_, rfl⟩
      rw [← hw] at h0 ⊢
      simp only at h0 ⊢
      have hq : q ≤ l.length := by
        by_cases hf : f = 0
        · subst hf
          exact (word_at hw.symm).2.elim fun X h => h.2.2.le
        · unfold wordR at hw
          rw [if_neg he] at hw
          split at hw
          · cases hw; exact hp
          · cases hw; exact absurd rfl hf
      obtain ⟨M, h1, h2, h3, a2, h4⟩ := pars_at n l q f _ h0 hq
      subst h3
      obtain ⟨he', X, rfl, hX, a1⟩ := word_at hw.symm
      refine ⟨(X : Int) :: M, by rw [h1]; simp, by simp [h2], he', ?_, fun y hy => ?_⟩
      · have := a1.trans a2
        simpa [parsB] using this
      · rcases List.mem_cons.1 hy with rfl | hy
        · omega
        · exact h4 y hy
end Go.Proofs.Ytdibdcbihleflaa

/- Plain: an object's bytes are read as the object, and what is read has just these bytes. -/
namespace Go.Proofs.Ytdibdcbihleflaa
open Go.RowKit

theorem du_wrap (D : Nat) (h : D < 18446744073709551616) : du (wrap64 (D : Int)) = D ∧ -9223372036854775808 ≤ wrap64 (D : Int) ∧ wrap64 (D : Int) < 9223372036854775808 := by
  have h1 := (du_eq (wrap64 (D : Int))).1
  simp [IntKind.wrap, IntKind.bits, IntKind.signed] at h1
  unfold wrap64 at *
  omega
theorem wrap_du (d : Int) (h : -9223372036854775808 ≤ d ∧ d < 9223372036854775808) : wrap64 (du d : Int) = d := by
  have h1 := (du_eq d).1
  simp [IntKind.wrap, IntKind.bits, IntKind.signed] at h1
  unfold wrap64
  omega
abbrev ComD := Int × List Int × ByteArray × Int × ByteArray
/-- a commit as it may be read -/
structure ComOk (c : ComD) : Prop where
  tree : 0 ≤ c.1 ∧ c.1 < 18446744073709551616
  pars : ∀ x ∈ c.2.1, 0 ≤ x ∧ x < 18446744073709551616
  num : c.2.1.length < 18446744073709551616
  au : c.2.2.1.size ≤ 64
  date : -9223372036854775808 ≤ c.2.2.2.1 ∧ c.2.2.2.1 < 9223372036854775808
  tx : c.2.2.2.2.size ≤ 1024
abbrev comBB (c : ComD) : List UInt8 := comB c.1 c.2.1 c.2.2.1 c.2.2.2.1 c.2.2.2.2
theorem com_rd {l : List UInt8} (h0 : (comR l 1 0).2.2 = 0) (hp : 1 ≤ l.length) (h1 : l.head? = some 99) : At l 0 (comBB (comR l 1 0).1) (comR l 1 0).2.1 ∧ ComOk (comR l 1 0).1 := by
  unfold comR at h0 ⊢
  simp only at h0 ⊢
  obtain ⟨⟨tv, tp, te⟩, ht⟩ : ∃ y, y = wordR l 1 0 := ⟨_, rfl⟩
  rw [← ht] at h0 ⊢
  simp only at h0 ⊢
  obtain ⟨⟨uv, up, ue⟩, hu⟩ : ∃ y, y = uintR l tp te := ⟨_, rfl⟩
  rw [← hu] at h0 ⊢
  simp only at h0 ⊢
  obtain ⟨⟨qs, qp, qe⟩, hq⟩ : ∃ y, y = parsR uv.toNat l up ue [] := ⟨_, rfl⟩
  rw [← hq] at h0 ⊢
  simp only at h0 ⊢
  obtain ⟨⟨av, ap, ae⟩, ha⟩ : ∃ y, y = textR l qp qe 64 := ⟨_, rfl⟩
  rw [← ha] at h0 ⊢
  simp only at h0 ⊢
  obtain ⟨⟨dv, dp, de⟩, hd⟩ : ∃ y, y = wordR l ap ae := ⟨_, rfl⟩
  rw [← hd] at h0 ⊢
  simp only at h0 ⊢
  obtain ⟨⟨xv, xp, xe⟩, hx⟩ : ∃ y, y = textR l dp de 1024 := ⟨_, rfl⟩
  rw [← hx] at h0 ⊢
  simp only at h0 ⊢
  subst h0
  have posW : ∀ {l : List UInt8} {p q : Nat} {e f v : Int}, wordR l p e = (v, q, f) → p ≤ l.length → q ≤ l.length := fun {l p q e f v} h hp => by
    unfold wordR at h
    split at h
    · cases h; exact hp
    · split at h
      · cases h; exact hp
      · cases h; omega
  have posU : ∀ {l : List UInt8} {p q : Nat} {e f v : Int}, uintR l p e = (v, q, f) → p ≤ l.length → q ≤ l.length := fun {l p q e f v} h hp => by
    unfold uintR at h
    have := num_le (l.drop p)
    rw [List.length_drop] at this
    split at h
    · cases h; exact hp
    · split at h
      · cases h; omega
      · cases h; exact hp
  have posT : ∀ {l : List UInt8} {p q : Nat} {e f m : Int} {v : ByteArray}, textR l p e m = (v, q, f) → p ≤ l.length → q ≤ l.length := fun {l p q e f m v} h hp => by
    unfold textR at h
    have := (txt_bounds (l.drop p) m).2
    rw [List.length_drop] at this
    split at h
    · cases h; exact hp
    · split at h
      · cases h; omega
      · cases h; exact hp
  have posP : ∀ (n : Nat) (l : List UInt8) (p : Nat) (e : Int) (acc : List Int), p ≤ l.length → (parsR n l p e acc).2.1 ≤ l.length := by
    intro n
    induction n with
    | zero => intro l p e acc hp; exact hp
    | succ n ih =>
      intro l p e acc hp
      unfold parsR
      split
      · exact hp
      · exact ih _ _ _ _ (posW rfl hp)
  have l1 := posW ht.symm hp
  have l2 := posU hu.symm l1
  have l3 : qp ≤ l.length := by have := posP uv.toNat l up ue [] l2; rw [← hq] at this; exact this
  have l4 := posT ha.symm l3
  have l5 := posW hd.symm l4
  obtain ⟨rfl, a6, s6⟩ := text_at hx.symm l5
  obtain ⟨rfl, D, rfl, hD, a5⟩ := word_at hd.symm
  obtain ⟨rfl, a4, s4⟩ := text_at ha.symm l3
  have hq2 := pars_at uv.toNat l up ue [] (by rw [← hq]) l2
  rw [← hq] at hq2
  simp only at hq2
  obtain ⟨M, m1, m2, m3, a3, m4⟩ := hq2
  subst m3
  obtain ⟨rfl, X, rfl, hX, a2⟩ := uint_at hu.symm l1
  obtain ⟨_, Y, rfl, hY, a1⟩ := word_at ht.symm
  simp only [List.nil_append, Int.toNat_natCast] at m1 m2
  subst m1
  obtain ⟨w1, w2, w3⟩ := du_wrap D hD
  refine ⟨?_, ⟨by show (0 : Int) ≤ (Y : Int) ∧ (Y : Int) < _; omega, m4, by show qs.length < _; omega, by show av.size ≤ 64; omega, ⟨w2, w3⟩, by show xv.size ≤ 1024; omega⟩⟩
  have a0 : At l 0 [99] 1 := by
    cases l with
    | nil => simp at h1
    | cons c t => simp at h1; subst h1; exact ⟨by simp, rfl, by simp⟩
  have := (((((a0.trans a1).trans a2).trans a3).trans a4).trans a5).trans a6
  unfold comBB comB
  simp only
  rw [w1, m2]
  simpa using this
/-- back -/
theorem word_of {l r : List UInt8} {p X : Nat} (h : l.drop p = wide X ++ r) (hX : X < 18446744073709551616) (hp : p ≤ l.length) : wordR l p 0 = ((X : Int), p + 8, 0) := by
  have hl := congrArg List.length h
  rw [List.length_drop, List.length_append, wide_len] at hl
  unfold wordR
  rw [if_neg (by simp), if_neg (by omega), h, List.take_append_of_le_length (by rw [wide_len]; omega), List.take_of_length_le (by rw [wide_len]; omega)]
  have := wideVal_wide X [] 8 (by omega) (by omega)
  rw [List.append_nil] at this
  rw [this]
  simp
theorem uint_of {l r : List UInt8} {p X : Nat} (h : l.drop p = short X ++ r) (hX : X < 18446744073709551616) : uintR l p 0 = ((X : Int), p + (short X).length, 0) := by
  unfold uintR
  rw [if_neg (by simp), h, num_short_app X hX r, if_pos rfl]
theorem byte_of {l r : List UInt8} {p : Nat} {c : UInt8} (h : l.drop p = c :: r) : byteR l p 0 = ((c.toNat : Int), p + 1, 0) := by
  have hp : p < l.length := by
    have := congrArg List.length h
    rw [List.length_drop] at this
    simp at this
    omega
  unfold byteR
  rw [if_neg (by simp), if_pos hp]
  rw [List.drop_eq_getElem_cons hp] at h
  have h1 : l[p] = c := by cases h; rfl
  simp [bt, hp, h1]
theorem text_of {l r : List UInt8} {p : Nat} {m : Int} {s : ByteArray} (h : l.drop p = (short s.size ++ s.data.toList) ++ r) (hm : (s.size : Int) ≤ m) (hs : s.size < 18446744073709551616) : textR l p 0 m = (s, p + (short s.size ++ s.data.toList).length, 0) := by
  have hsl : s.data.toList.length = s.size := Array.length_toList
  rw [List.append_assoc] at h
  have hn := num_short_app s.size hs (s.data.toList ++ r)
  have ht := txt_ok (short s.size ++ (s.data.toList ++ r)) m (by omega) (by rw [hn]) (by rw [hn]; simp only; omega) (by rw [hn]; simp only [List.length_append]; omega)
  rw [hn] at ht
  simp only [Int.toNat_natCast] at ht
  unfold textR cutT
  rw [if_neg (by simp), h, ht, if_pos rfl]
  simp only
  have e : ((short s.size ++ (s.data.toList ++ r)).take ((short s.size).length + s.size)).drop (short s.size).length = s.data.toList := by
    rw [← List.append_assoc, List.take_append_of_le_length (by simp [hsl]), List.take_of_length_le (by simp [hsl]), List.drop_append]
    simp
  rw [e, List.length_append, hsl]
theorem ent_of {l r : List UInt8} {p : Nat} {x : Ent} (h : l.drop p = entB x ++ r) (ok : EntOk x) (hp : p ≤ l.length) : entR l p 0 = (some x, p + (entB x).length, 0) := by
  obtain ⟨nm, fo, id⟩ := x
  obtain ⟨o1, o2, o3⟩ := ok
  simp only at o1 o2 o3
  obtain ⟨X, rfl⟩ := Int.eq_ofNat_of_zero_le o2
  unfold entB at h ⊢
  simp only [Int.toNat_natCast] at h ⊢
  rw [List.append_assoc, List.append_assoc] at h
  have ht := text_of (m := 32) h (by omega) (by omega)
  obtain ⟨a1, h2⟩ := At.of h hp
  have hb := byte_of (c := if fo = true then 1 else 0) (by rw [h2]; rfl)
  have h3 : l.drop (p + (short nm.size ++ nm.data.toList).length + 1) = wide X ++ r := by rw [← List.drop_drop, h2]; rfl
  have hle : p + (short nm.size ++ nm.data.toList).length + 1 ≤ l.length := by
    have := congrArg List.length h2
    rw [List.length_drop] at this
    simp only [List.length_append, List.length_cons, List.length_nil] at this
    have := a1.le
    simp only [List.length_append] at this ⊢
    omega
  have hw := word_of h3 (by omega) hle
  unfold entR
  rw [ht]
  simp only
  rw [hb]
  simp only
  rw [hw]
  simp only
  rw [if_neg (by cases fo <;> simp)]
  have e1 : (((if fo = true then (1 : UInt8) else 0).toNat : Int) == 1) = fo := by cases fo <;> rfl
  rw [e1]
  simp only [List.length_append, List.length_cons, List.length_nil, wide_len, Prod.mk.injEq, and_true, true_and]
  omega
theorem ents_of : ∀ (M : List Ent) (l r : List UInt8) (p : Nat) (acc : List Ent), l.drop p = entsB M ++ r → (∀ x ∈ M, EntOk x) → p ≤ l.length → entsR M.length l p 0 acc = (some (acc ++ M), p + (entsB M).length, 0)
  | [], l, r, p, acc, h, _, hp => by simp [entsR, entsB]
  | x :: M, l, r, p, acc, h, ok, hp => by
    have h' : l.drop p = entB x ++ (entsB M ++ r) := by rw [h]; simp [entsB]
    have he := ent_of h' (ok x (by simp)) hp
    obtain ⟨a1, h2⟩ := At.of h' hp
    have ih := ents_of M l r (p + (entB x).length) (acc ++ [x]) h2 (fun y hy => ok y (by simp [hy])) a1.le
    rw [List.length_cons, entsR, he]
    simp only
    rw [ih]
    simp [entsB]
    omega
theorem tree_of {l r : List UInt8} {p : Nat} {R : List Ent} (h : l.drop p = (short R.length ++ entsB R) ++ r) (ok : ∀ x ∈ R, EntOk x) (hp : p ≤ l.length) (hR : R.length < 18446744073709551616) : treeR l p 0 = (some R, p + (short R.length ++ entsB R).length, 0) := by
  rw [List.append_assoc] at h
  have hu := uint_of h hR
  obtain ⟨a1, h2⟩ := At.of h hp
  have he := ents_of R l r _ [] h2 ok a1.le
  unfold treeR
  rw [hu]
  simp only [Int.toNat_natCast]
  rw [he]
  simp
  omega
theorem pars_of : ∀ (M : List Int) (l r : List UInt8) (p : Nat) (acc : List Int), l.drop p = parsB M ++ r → (∀ x ∈ M, 0 ≤ x ∧ x < 18446744073709551616) → p ≤ l.length → parsR M.length l p 0 acc = (acc ++ M, p + (parsB M).length, 0)
  | [], l, r, p, acc, h, _, hp => by simp [parsR, parsB]
  | x :: M, l, r, p, acc, h, ok, hp => by
    obtain ⟨o1, o2⟩ := ok x (by simp)
    obtain ⟨X, rfl⟩ := Int.eq_ofNat_of_zero_le o1
    have h' : l.drop p = wide X ++ (parsB M ++ r) := by rw [h]; simp [parsB]
    have he := word_of h' (by omega) hp
    obtain ⟨a1, h2⟩ := At.of h' hp
    rw [wide_len] at a1 h2
    have ih := pars_of M l r (p + 8) (acc ++ [(X : Int)]) h2 (fun y hy => ok y (by simp [hy])) a1.le
    rw [List.length_cons, parsR, if_neg (by simp), he]
    simp only
    rw [ih]
    simp [parsB, wide_len]
    omega
theorem com_of {l r : List UInt8} {c : ComD} (h : l = comBB c ++ r) (ok : ComOk c) : comR l 1 0 = (c, (comBB c).length, 0) := by
  obtain ⟨t, ps, au, d, tx⟩ := c
  obtain ⟨o1, o2, o3, o4, o5, o6⟩ := ok
  simp only at o1 o2 o3 o4 o5 o6
  obtain ⟨X, rfl⟩ := Int.eq_ofNat_of_zero_le o1.1
  have h1 : l.drop 1 = wide X ++ (short ps.length ++ (parsB ps ++ ((short au.size ++ au.data.toList) ++ (wide (du d) ++ ((short tx.size ++ tx.data.toList) ++ r))))) := by
    rw [h]; unfold comBB comB; simp
  have hp1 : 1 ≤ l.length := by rw [h]; unfold comBB comB; simp
  have e1 := word_of h1 (by omega) hp1
  obtain ⟨a1, h2⟩ := At.of h1 hp1
  rw [wide_len] at a1 h2
  have e2 := uint_of h2 o3
  obtain ⟨a2, h3⟩ := At.of h2 a1.le
  have e3 := pars_of ps l _ _ [] h3 o2 a2.le
  obtain ⟨a3, h4⟩ := At.of h3 a2.le
  have e4 := text_of (m := 64) h4 (by omega) (by omega)
  obtain ⟨a4, h5⟩ := At.of h4 a3.le
  have e5 := word_of h5 (du_eq d).2 a4.le
  obtain ⟨a5, h6⟩ := At.of h5 a4.le
  rw [wide_len] at a5 h6
  have e6 := text_of (m := 1024) h6 (by omega) (by omega)
  unfold comR
  simp only
  rw [e1]
  simp only
  rw [e2]
  simp only [Int.toNat_natCast]
  rw [e3]
  simp only
  rw [e4]
  simp only
  rw [e5]
  simp only
  rw [e6, wrap_du d o5]
  simp only [List.nil_append, Prod.mk.injEq, and_true, true_and]
  unfold comBB comB
  simp only [List.length_append, List.length_cons, List.length_nil, wide_len]
/-- an object's bytes, and what holds of what is read -/
def obB : Ob → List UInt8
  | .blob b => 98 :: b
  | .tree l => treeB l
  | .com c => comBB c
def ObOk : Ob → Prop
  | .blob _ => True
  | .tree l => (∀ x ∈ l, EntOk x) ∧ l.length < 18446744073709551616
  | .com c => ComOk c
theorem head_byte (l : List UInt8) (c : UInt8) (h : (byteR l 0 0).1 = (c.toNat : Int)) (hc : c ≠ 0) : l.head? = some c := by
  have hne : (byteR l 0 0).1 ≠ 0 := by rw [h]; intro e; exact hc (UInt8.toNat_inj.1 (by simp; omega))
  obtain ⟨_, hl⟩ := byte_head hne
  cases l with
  | nil => simp at hl
  | cons x t =>
    unfold byteR at h
    rw [if_neg (by simp), if_pos (by simp)] at h
    simp [bt] at h
    simp
    exact UInt8.toNat_inj.1 (by omega)
theorem decR_bytes {l : List UInt8} {o : Ob} (h : decR l = some o) (hl : l.length ≤ 549755813888) : obB o = l ∧ ObOk o := by
  unfold decR at h
  by_cases h1 : (byteR l 0 0).1 = 98
  · rw [if_pos h1] at h
    cases h
    have hh := head_byte l 98 h1 (by decide)
    cases l with
    | nil => simp at hh
    | cons x t => simp at hh; subst hh; exact ⟨rfl, trivial⟩
  · rw [if_neg h1] at h
    by_cases h2 : (byteR l 0 0).1 = 116
    · rw [if_pos h2] at h
      have hh := head_byte l 116 h2 (by decide)
      have hl1 : 1 ≤ l.length := by cases l with | nil => simp at hh | cons x t => simp
      cases ht : (treeR l 1 0).1 with
      | none => rw [ht] at h; simp at h
      | some R =>
        rw [ht] at h
        simp only at h
        by_cases hq : (treeR l 1 0).2.2 = 0 ∧ (treeR l 1 0).2.1 = l.length
        · rw [if_pos hq] at h
          cases h
          obtain ⟨a, ok⟩ := tree_rd ht hq.1 hl1
          have a0 : At l 0 [116] 1 := by
            cases l with
            | nil => simp at hh
            | cons c t => simp at hh; subst hh; exact ⟨by simp, rfl, by simp⟩
          have a2 := a0.trans a
          have e := a2.eq
          rw [hq.2, List.drop_length, List.append_nil, List.drop_zero] at e
          refine ⟨by rw [e]; rfl, ok, ?_⟩
          have hlen := congrArg List.length e
          have : R.length ≤ (entsB R).length := by
            clear e hlen a2 a0 a ht hq
            induction R with
            | nil => simp
            | cons x R ih =>
              have := ih (fun y hy => ok y (by simp [hy]))
              simp only [entsB, List.map_cons, List.flatten_cons, List.length_append, List.length_cons] at this ⊢
              have : 8 ≤ (entB x).length := by simp [entB, wide_len]; omega
              omega
          simp only [List.length_append, List.length_cons] at hlen
          omega
        · rw [if_neg hq] at h; cases h
    · rw [if_neg h2] at h
      by_cases h3 : (byteR l 0 0).1 = 99
      · rw [if_pos h3] at h
        have hh := head_byte l 99 h3 (by decide)
        have hl1 : 1 ≤ l.length := by cases l with | nil => simp at hh | cons x t => simp
        by_cases hq : (comR l 1 0).2.2 = 0 ∧ (comR l 1 0).2.1 = l.length
        · rw [if_pos hq] at h
          cases h
          obtain ⟨a, ok⟩ := com_rd hq.1 hl1 hh
          have e := a.eq
          rw [hq.2, List.drop_length, List.append_nil, List.drop_zero] at e
          exact ⟨e.symm, ok⟩
        · rw [if_neg hq] at h; cases h
      · rw [if_neg h3] at h; cases h
theorem byte_cons (c : UInt8) (t : List UInt8) : (byteR (c :: t) 0 0).1 = (c.toNat : Int) := by
  have := byte_of (l := c :: t) (p := 0) (c := c) (r := t) rfl
  rw [this]
theorem decR_obB (o : Ob) (ok : ObOk o) (r : List UInt8) : decR (obB o ++ r) = match o with
    | .blob b => some (.blob (b ++ r))
    | .tree l => if r = [] then some (.tree l) else none
    | .com c => if r = [] then some (.com c) else none := by
  cases o with
  | blob b =>
    show decR (98 :: (b ++ r)) = _
    unfold decR
    rw [byte_cons, if_pos (by decide)]
    rfl
  | tree l =>
    have hd : (obB (.tree l) ++ r).drop 1 = (short l.length ++ entsB l) ++ r := rfl
    have ht := tree_of hd ok.1 (by simp [obB, treeB]) ok.2
    have hb : (byteR (obB (.tree l) ++ r) 0 0).1 = 116 := byte_cons 116 _
    unfold decR
    rw [hb, if_neg (by decide), if_pos rfl, ht]
    simp only
    by_cases hr : r = []
    · subst hr
      rw [if_pos rfl, if_pos ⟨trivial, by simp [obB, treeB]; omega⟩]
    · rw [if_neg hr, if_neg]
      rintro ⟨_, hx⟩
      apply hr
      apply List.eq_nil_of_length_eq_zero
      simp [obB, treeB] at hx
      omega
  | com c =>
    have ht := com_of (l := obB (.com c) ++ r) rfl ok
    have hb : (byteR (obB (.com c) ++ r) 0 0).1 = 99 := by
      have : obB (.com c) ++ r = 99 :: (obB (.com c) ++ r).drop 1 := by simp [obB, comBB, comB]
      rw [this]
      exact byte_cons 99 _
    unfold decR
    rw [hb, if_neg (by decide), if_neg (by decide), if_pos rfl, ht]
    simp only
    by_cases hr : r = []
    · subst hr
      rw [if_pos rfl, if_pos ⟨trivial, by simp [obB]⟩]
    · rw [if_neg hr, if_neg]
      rintro ⟨_, hx⟩
      apply hr
      apply List.eq_nil_of_length_eq_zero
      simp [obB] at hx
      exact List.length_eq_zero_iff.2 hx
end Go.Proofs.Ytdibdcbihleflaa

/- What Decode answers, for all bytes; what the layer answers of what it read. -/
namespace Go.Proofs.Ytdibdcbihleflaa
open Go.RowKit

attribute [local go_sem] Oper.semAt_some

def obErr : Ob → Int
  | .blob b => blobErr b.length
  | .tree l => treeErrs l
  | .com c => comErr c.1 c.2.1 c.2.2.1 c.2.2.2.2
/-- how an object lies in memory -/
def ObAt : Ob → Value → World → Prop
  | .blob b, v, W => ∃ ad cp, v = .iface 25 (.agg #[.slice ad b.length cp]) ∧ Bytes W ad b.length b ∧ (ad = none → b.length = 0 ∧ cp = 0) ∧ b.length ≤ 9223372036854775807
  | .tree l, v, W => ∃ ad cp, v = trV ad l.length cp ∧ Ents W ad l.length l ∧ Fields l ∧ l.length ≤ 9223372036854775807
  | .com c, v, W => ∃ ad cp, v = coV c.1 ad c.2.1.length cp c.2.2.1 c.2.2.2.1 c.2.2.2.2 ∧ Com W c.1 ad c.2.1.length cp c.2.1 c.2.2.1 c.2.2.2.1 c.2.2.2.2
theorem ObAt.below {o : Ob} {v : Value} {W W' : World} (h : ObAt o v W) (hB : Below W.heap.size W W') : ObAt o v W' := by
  cases o with
  | blob b => obtain ⟨ad, cp, h1, h2, h3⟩ := h; exact ⟨ad, cp, h1, bytes_below h2 hB, h3⟩
  | tree l => obtain ⟨ad, cp, h1, h2, h3⟩ := h; exact ⟨ad, cp, h1, h2.below hB, h3⟩
  | com c => obtain ⟨ad, cp, h1, h2⟩ := h; exact ⟨ad, cp, h1, h2.below hB⟩
theorem fields_ok {l : List Ent} (h : ∀ x ∈ l, EntOk x) : Fields l := by
  refine ⟨fun j x hx => ?_, fun j x hx => ?_⟩
  · have := (h x (List.mem_of_getElem? hx)).1
    unfold maxLen
    omega
  · exact (h x (List.mem_of_getElem? hx)).2
theorem dec_at {w w' : World} {o : Ob} {x : Ending} (h : DecOut w (some o) x w') (ok : ObOk o) (hs : (obB o).length ≤ 549755813888) : ∃ v, x = .returned v ∧ ObAt o v w' := by
  cases o with
  | blob b =>
    obtain ⟨ad, cp, rfl, hb⟩ := h
    simp only [obB, List.length_cons] at hs
    exact ⟨_, rfl, some ad, cp, rfl, hb, (fun e => by cases e), by omega⟩
  | tree l =>
    obtain ⟨ad, cp, rfl, hb⟩ := h
    refine ⟨_, rfl, ad, cp, rfl, own_ents hb rfl, fields_ok ok.1, ?_⟩
    have : l.length ≤ (entsB l).length := by
      clear hb hs
      have ok1 := ok.1
      clear ok
      induction l with
      | nil => simp
      | cons x R ih =>
        have := ih (fun y hy => ok1 y (by simp [hy]))
        simp only [entsB, List.map_cons, List.flatten_cons, List.length_append, List.length_cons] at this ⊢
        have : 8 ≤ (entB x).length := by simp [entB, wide_len]; omega
        omega
    simp only [obB, treeB, List.length_cons, List.length_append] at hs
    omega
  | com c =>
    obtain ⟨ad, cp, rfl, hb⟩ := h
    obtain ⟨ad', c', e, hc1, hc2⟩ := row_shape hb
    cases e
    obtain ⟨ad', c', e, hI⟩ := own_ids hb
    cases e
    have h1 := ok.au
    have h2 := ok.tx
    refine ⟨_, rfl, ad, cp, rfl, ⟨ok.tree, hI, ok.pars, ⟨hc1, ?_, hc2⟩, by unfold maxLen; omega, ok.date, by unfold maxLen; omega⟩⟩
    have := parsB_len c.2.1 c.2.1.length (Nat.le_refl _)
    rw [List.take_length] at this
    simp only [obB, comBB, comB, List.length_append] at hs
    omega
theorem check_ob {o : Ob} {v : Value} (W : World) (h : ObAt o v W) : Calls Try.prog 50 #[v] W fun e w' => e = .returned (.int .i64 (obErr o)) ∧ Below W.heap.size W w' := by
  cases o with
  | blob b => obtain ⟨ad, cp, rfl, h2, h3⟩ := h; exact check_blob _ _ _ W
  | tree l => obtain ⟨ad, cp, rfl, h2, h3, h4⟩ := h; exact check_tree _ _ _ l W h2 h3.name h4
  | com c => obtain ⟨ad, cp, rfl, h2⟩ := h; exact check_com _ _ _ _ _ _ _ _ W h2
theorem Encode_ob {o : Ob} {v : Value} (W : World) (h : ObAt o v W) (h0 : obErr o = 0) : Calls Try.prog 29 #[v] W fun e w' => ∃ ad cp, e = .returned (.tuple #[.slice ad (obB o).length cp, .int .i64 0]) ∧ Bytes w' ad (obB o).length (obB o) ∧ Below W.heap.size W w' := by
  cases o with
  | blob b =>
    obtain ⟨ad, cp, rfl, h2, h3, h4⟩ := h
    have hb : b.length ≤ 4096 := by
      have h0' : blobErr b.length = 0 := h0
      unfold blobErr at h0'
      split at h0'
      · omega
      · omega
    refine (Encode_blob ad _ cp b W h2 h3 hb).mono fun e w' hx => ?_
    obtain ⟨v, rfl, ho, hB⟩ := hx
    have ho' : OwnB W.heap.size (98 :: b) v w' := ⟨ho⟩
    obtain ⟨a', c', rfl, _⟩ := ho'.shape rfl
    exact ⟨a', c', rfl, ho'.bytes rfl, hB⟩
  | tree l =>
    obtain ⟨ad, cp, rfl, h2, h3, h4⟩ := h
    refine (Encode_tree ad _ cp l W h2 h3 h4 h0).mono fun e w' hx => ?_
    obtain ⟨v, rfl, ho', hB⟩ := hx
    obtain ⟨a', c', rfl, _⟩ := ho'.shape rfl
    exact ⟨a', c', rfl, ho'.bytes rfl, hB⟩
  | com c =>
    obtain ⟨ad, cp, rfl, h2⟩ := h
    refine (Encode_com _ _ _ _ _ _ _ _ W h2 h0).mono fun e w' hx => ?_
    obtain ⟨v, rfl, ho', hB⟩ := hx
    obtain ⟨a', c', rfl, _⟩ := ho'.shape rfl
    exact ⟨a', c', rfl, ho'.bytes rfl, hB⟩
def obK : Ob → Int
  | .blob _ => 1
  | .tree _ => 2
  | .com _ => 3
theorem Kind_ob {o : Ob} {v : Value} (W : World) (h : ObAt o v W) : Calls Try.prog 32 #[v] W fun e w' => e = .returned (.int .i64 (obK o)) ∧ w' = W := by
  cases o with
  | blob b => obtain ⟨ad, cp, rfl, _⟩ := h; exact Kind_blob _ W
  | tree l => obtain ⟨ad, cp, rfl, _⟩ := h; exact kind_tree _ W
  | com c => obtain ⟨ad, cp, rfl, _⟩ := h; exact Kind_com _ W
theorem encode_ob {o : Ob} {v : Value} (W : World) (h : ObAt o v W) (h0 : obErr o = 0) : Calls Try.prog 57 #[v] W fun e w' => ∃ ad cp, e = .returned (.slice ad (obB o).length cp) ∧ Bytes w' ad (obB o).length (obB o) ∧ Below W.heap.size W w' := by
  cases o with
  | blob b =>
    obtain ⟨ad, cp, rfl, h2, h3, h4⟩ := h
    have hb : b.length ≤ 4096 := by
      have h0' : blobErr b.length = 0 := h0
      unfold blobErr at h0'
      split at h0'
      · omega
      · omega
    refine (encode_blob ad _ cp b W h2 h3 (by omega)).mono fun e w' hx => ?_
    obtain ⟨v, rfl, ho, hB⟩ := hx
    have ho' : OwnB W.heap.size (98 :: b) v w' := ⟨ho⟩
    obtain ⟨a', c', rfl, _⟩ := ho'.shape rfl
    exact ⟨a', c', rfl, ho'.bytes rfl, hB⟩
  | tree l =>
    obtain ⟨ad, cp, rfl, h2, h3, h4⟩ := h
    obtain ⟨f1, f2⟩ := fits_of h3 h0
    refine (encode_tree ad _ cp l W h2 f2 f1).mono fun e w' hx => ?_
    obtain ⟨a', m, c', rfl, hm, ho', hB⟩ := hx
    subst hm
    exact ⟨a', c', rfl, ho'.bytes rfl, hB⟩
  | com c =>
    obtain ⟨ad, cp, rfl, h2⟩ := h
    refine (encode_com _ _ _ _ _ _ _ _ W h2 h0).mono fun e w' hx => ?_
    obtain ⟨a', m, c', rfl, hm, ho', hB⟩ := hx
    subst hm
    exact ⟨a', c', rfl, ho'.bytes rfl, hB⟩
theorem Same_ob {o o' : Ob} {v v' : Value} (W : World) (h : ObAt o v W) (h' : ObAt o' v' W) (h0 : obErr o = 0) (h0' : obErr o' = 0) :
    Calls Try.prog 34 #[v, v'] W fun e w' => e = .returned (.bool (decide (obB o = obB o'))) ∧ Below W.heap.size W w' := by
  have c1 := check_ob W h
  rw [h0] at c1
  have c2 := fun X hB => check_ob X (h'.below (W' := X) hB)
  rw [h0'] at c2
  have e1 := fun X hB => encode_ob X (h.below (W' := X) hB) h0
  have e2 := fun X hB => encode_ob X (h'.below (W' := X) hB) h0'
  generalize obB o = TA at *
  generalize obB o' = TB at *
  go_enter Try.func34, Try.ntmps34
  go_wp2_with first
    | (go_at_call 50; refine c1.mono ?_; clear c1; rintro e w1 ⟨rfl, hB1⟩)
    | (go_at_call 50; refine (c2 _ hB1).mono ?_; clear c2; rintro e w2 ⟨rfl, hB2⟩; have hB : Below W.heap.size W w2 := hB1.trans (hB2.mono hB1.size); clear hB1 hB2)
    | (go_at_call 57; refine (e1 _ hB).mono ?_; clear e1; rintro e w3 ⟨ad, cp, rfl, hy3, hB3⟩; have hBB : Below W.heap.size W w3 := hB.trans (hB3.mono hB.size); clear hB hB3)
    | (go_at_call 57; refine (e2 _ hBB).mono ?_; clear e2; rintro e w4 ⟨ad4, cp4, rfl, hy4, hB4⟩; have hy3' := bytes_below hy3 hB4; clear hy3)
    | (go_at_call 12; refine (equal_any _ ad ad4 _ _ cp cp4 TA TB hy3' hy4).mono ?_; rintro e w5 ⟨rfl, h5⟩; subst h5)
  go_ret
  exact ⟨rfl, hBB.trans (hB4.mono hBB.size)⟩
/-- what Decode answers -/
def decG (l : List UInt8) : Option Ob := (decR l).bind fun o => if obErr o = 0 then some o else none
def GotO : Option Ob → Ending → World → Prop
  | none, x, _ => x = .returned (.tuple #[.nilIface, .int .i64 8])
  | some o, x, W => ∃ v, x = .returned (.tuple #[v, .int .i64 0]) ∧ ObAt o v W
theorem Decode_any (a : Option Addr) (n cap : Nat) (l : List UInt8) (w : World) (hb : Bytes w a n l) (hn : n ≤ 549755813888) :
    Calls Try.prog 23 #[.slice a n cap] w fun x w' => GotO (decG l) x w' ∧ Below w.heap.size w w' := by
  have hd := decode_any a n cap l w hb hn
  have hll := hb.1
  unfold decG
  cases hr : decR l with
  | none =>
    rw [hr] at hd
    have hd' : Calls Try.prog 49 #[.slice a n cap] w fun x w' => x = .returned .nilIface ∧ Below w.heap.size w w' := hd
    simp only [Option.bind_none]
    clear hd hr
    go_enter Try.func23, Try.ntmps23
    go_wp2_with first
      | (go_at_call 49; refine hd'.mono ?_; clear hd'; rintro y w1 ⟨rfl, hB1⟩)
      | (go_at_call 50; refine (ocheck_odd _ odd_nil _).mono ?_; rintro y w2 ⟨rfl, hw2⟩; subst hw2)
    go_ret2
    exact ⟨rfl, hB1⟩
  | some o =>
    rw [hr] at hd
    obtain ⟨hob, ok⟩ := decR_bytes hr (by omega)
    have hd' : Calls Try.prog 49 #[.slice a n cap] w fun x w' => ∃ v, x = .returned v ∧ ObAt o v w' ∧ Below w.heap.size w w' := hd.mono fun x w' hx => by
      obtain ⟨v, h1, h2⟩ := dec_at hx.1 ok (by rw [hob]; omega)
      exact ⟨v, h1, h2, hx.2⟩
    simp only [Option.bind_some]
    have HK : Hid (∀ W v, ObAt o v W → Calls Try.prog 50 #[v] W fun e w' => e = .returned (.int .i64 (obErr o)) ∧ Below W.heap.size W w') := fun W v h => check_ob W h
    generalize obErr o = E at HK ⊢
    clear hd hr hob ok
    by_cases hE : E = 0
    · subst hE
      rw [if_pos rfl]
      go_enter Try.func23, Try.ntmps23
      go_wp2_with first
        | (go_at_call 49; refine hd'.mono ?_; clear hd'; rintro y w1 ⟨v, rfl, hO1, hB1⟩)
        | (go_at_call 50; refine (HK.out _ _ hO1).mono ?_; rintro y w2 ⟨rfl, hB2⟩)
      go_ret2
      exact ⟨⟨v, rfl, hO1.below hB2⟩, hB1.trans (hB2.mono hB1.size)⟩
    · rw [if_neg hE]
      have e1 : (E == 0) = false := by simp [hE]
      have e2 : (E != 0) = true := by simp [hE]
      go_enter Try.func23, Try.ntmps23
      go_wp2_with first
        | (go_at_call 49; refine hd'.mono ?_; clear hd'; rintro y w1 ⟨v, rfl, hO1, hB1⟩)
        | (go_at_call 50; refine (HK.out _ _ hO1).mono ?_; rintro y w2 ⟨rfl, hB2⟩)
      go_ret2
      exact ⟨rfl, hB1.trans (hB2.mono hB1.size)⟩
theorem decG_some {l : List UInt8} {o : Ob} (h : decG l = some o) (hl : l.length ≤ 549755813888) : decR l = some o ∧ obErr o = 0 ∧ obB o = l ∧ ObOk o := by
  unfold decG at h
  cases hr : decR l with
  | none => rw [hr] at h; cases h
  | some p =>
    rw [hr, Option.bind_some] at h
    by_cases h0 : obErr p = 0
    · rw [if_pos h0] at h
      cases h
      obtain ⟨h1, h2⟩ := decR_bytes hr hl
      exact ⟨rfl, h0, h1, h2⟩
    · rw [if_neg h0] at h; cases h
def isBlob : Ob → Bool
  | .blob _ => true
  | _ => false
theorem longer_none {l : List UInt8} {o : Ob} (h : decR l = some o) (hl : l.length ≤ 549755813888) (hb : isBlob o = false) (x : UInt8) : decR (l ++ [x]) = none := by
  obtain ⟨h1, h2⟩ := decR_bytes h hl
  rw [← h1, decR_obB o h2 [x]]
  cases o with
  | blob b => cases hb
  | tree l => simp
  | com c => simp
theorem decG_none {l : List UInt8} (h : decR l = none) : decG l = none := by unfold decG; rw [h]; rfl
theorem obB_head (o : Ob) : (obB o).head? = some (match o with | .blob _ => 98 | .tree _ => 116 | .com _ => 99) := by
  cases o with
  | blob b => rfl
  | tree l => rfl
  | com c => simp [obB, comBB, comB]
theorem obB_two {o : Ob} (h : isBlob o = false) : 2 ≤ (obB o).length := by
  cases o with
  | blob b => cases h
  | tree l => have := shortF_pos 9 l.length; simp only [obB, treeB, List.length_cons, List.length_append, short]; omega
  | com c => simp only [obB, comBB, comB, List.length_append, wide_len, List.length_cons]; omega
theorem shorter_none {l : List UInt8} {o : Ob} (h : decR l = some o) (hl : l.length ≤ 549755813888) (hb : isBlob o = false) : decR (l.take (l.length - 1)) = none := by
  cases hr : decR (l.take (l.length - 1)) with
  | none => rfl
  | some o' =>
    exfalso
    obtain ⟨h1, h2⟩ := decR_bytes h hl
    obtain ⟨g1, g2⟩ := decR_bytes hr (by rw [List.length_take]; omega)
    have h3 := obB_two hb
    rw [h1] at h3
    have hh : (l.take (l.length - 1)).head? = l.head? := by
      cases l with
      | nil => simp at h3
      | cons c t =>
        cases t with
        | nil => simp at h3
        | cons d t => simp
    have k1 := obB_head o
    have k2 := obB_head o'
    rw [h1] at k1
    rw [g1, hh, k1] at k2
    have hb' : isBlob o' = false := by
      cases o' with
      | blob b => cases o <;> simp at k2; cases hb
      | tree _ => rfl
      | com _ => rfl
    have hx := longer_none hr (by rw [List.length_take]; omega) hb' (l[l.length - 1]'(by omega))
    have e : l.take (l.length - 1) ++ [l[l.length - 1]'(by omega)] = l := by
      have := List.take_append_getElem (l := l) (i := l.length - 1) (by omega)
      rw [show l.length - 1 + 1 = l.length by omega, List.take_length] at this
      exact this
    rw [e, h] at hx
    cases hx
end Go.Proofs.Ytdibdcbihleflaa

/- The document's cursor: what its calls answer. -/
namespace Go.Proofs.Ytdibdcbihleflaa
open Go.RowKit

attribute [local go_sem] Oper.semAt_some

/-- a cursor: the bytes that are left, and whether it is wrong -/
structure Cu (W : World) (q bk off cp : Nat) (s : List UInt8) (wr : Bool) : Prop where
  box : W.heap[q]? = some (.cells #[.slice (some ⟨bk, off, none⟩) s.length cp, .bool wr] 89 (0, 0))
  by_ : Bytes W (some ⟨bk, off, none⟩) s.length s
  le : s.length ≤ cp
  ne : bk ≠ q
  lt : bk < W.heap.size
theorem Cu.cell {W : World} {q bk off cp : Nat} {s : List UInt8} {wr : Bool} (h : Cu W q bk off cp s wr) : W.cell? ⟨q, 0, none⟩ = some (.slice (some ⟨bk, off, none⟩) s.length cp) ∧ W.cell? ⟨q, 1, none⟩ = some (.bool wr) ∧ W.frozen? ⟨q, 0, none⟩ = false ∧ W.frozen? ⟨q, 1, none⟩ = false := by
  have := h.box
  simp [World.cell?, World.frozen?, this]
theorem Cu.setW {W : World} {q bk off cp : Nat} {s : List UInt8} {wr : Bool} (h : Cu W q bk off cp s wr) (v : Bool) : Cu (W.setCell ⟨q, 1, none⟩ (.bool v)) q bk off cp s v := by
  have hl : q < W.heap.size := (Array.getElem?_eq_some_iff.1 h.box).1
  refine ⟨?_, Bytes.kept h.by_ (grownBy_setCell _ _ _ _) (fun x hx => by cases hx; simp; exact fun e => h.ne e.symm), h.le, h.ne, by simpa using h.lt⟩
  have h' := h.box
  simp [World.setCell, Array.getElem?_modify, h']
theorem Cu.setS {W : World} {q bk off cp off' cp' : Nat} {s t : List UInt8} {wr : Bool} (h : Cu W q bk off cp s wr) (hb : Bytes W (some ⟨bk, off', none⟩) t.length t) (hl : t.length ≤ cp') : Cu (W.setCell ⟨q, 0, none⟩ (.slice (some ⟨bk, off', none⟩) t.length cp')) q bk off' cp' t wr := by
  have hq : q < W.heap.size := (Array.getElem?_eq_some_iff.1 h.box).1
  refine ⟨?_, Bytes.kept hb (grownBy_setCell _ _ _ _) (fun x hx => by cases hx; simp; exact fun e => h.ne e.symm), hl, h.ne, by simpa using h.lt⟩
  have h' := h.box
  simp [World.setCell, Array.getElem?_modify, h']
theorem Cu.kept {W W' : World} {q bk off cp : Nat} {s : List UInt8} {wr : Bool} (h : Cu W q bk off cp s wr) (hB : Below W.heap.size W W') : Cu W' q bk off cp s wr :=
  ⟨(hB.block q (Array.getElem?_eq_some_iff.1 h.box).1).trans h.box, bytes_below h.by_ hB, h.le, h.ne, Nat.lt_of_lt_of_le h.lt hB.size⟩
theorem take_bad (W : World) (q bk off cp : Nat) (s : List UInt8) (wr : Bool) (n : Nat) (h : Cu W q bk off cp s wr) (hn : wr = true ∨ s.length < n) :
    Calls Try.prog 55 #[.pointer (some ⟨q, 0, none⟩), .int .i64 n] W fun e w' => e = .returned (.slice none 0 0) ∧ Cu w' q bk off cp s true ∧ W.grownBy w' (some q) := by
  obtain ⟨c0, c1, f0, f1⟩ := h.cell
  have H : Hid (Cu W q bk off cp s wr) := h
  cases wr with
  | true =>
    clear h hn
    go_enter Try.func55, Try.ntmps55
    go_wp2
    go_ret
    exact ⟨rfl, H.out.setW true, grownBy_setCell _ _ _ _⟩
  | false =>
    have hn' : s.length < n := hn.elim (fun h => by cases h) id
    have i1 : (s.length : Int) < (n : Int) := by omega
    clear h hn
    go_enter Try.func55, Try.ntmps55
    go_wp2
    go_ret
    exact ⟨rfl, H.out.setW true, grownBy_setCell _ _ _ _⟩
theorem take_ok (W : World) (q bk off cp : Nat) (s : List UInt8) (n : Nat) (h : Cu W q bk off cp s false) (hn : n ≤ s.length) :
    Calls Try.prog 55 #[.pointer (some ⟨q, 0, none⟩), .int .i64 n] W fun e w' => e = .returned (.slice (some ⟨bk, off, none⟩) n cp) ∧ (∃ off', Cu w' q bk off' (cp - n) (s.drop n) false) ∧ W.grownBy w' (some q) := by
  obtain ⟨c0, c1, f0, f1⟩ := h.cell
  have H : Hid (Cu W q bk off cp s false) := h
  have hle := h.le
  obtain ⟨k, hk⟩ : ∃ k, k = s.length := ⟨_, rfl⟩
  rw [← hk] at c0 hn hle
  have HK : Hid (k = s.length) := hk
  have i1 : ¬ (k : Int) < (n : Int) := by omega
  have i2 : (n : Int) ≤ (cp : Int) := by omega
  have i3 : (n : Int) ≤ (k : Int) := by omega
  have i4 : (0 : Int) ≤ (n : Int) := by omega
  have HS : Hid (∀ off' cp', Bytes W (some ⟨bk, off', none⟩) (k - n) (s.drop n) → k - n ≤ cp' → Cu (W.setCell ⟨q, 0, none⟩ (.slice (some ⟨bk, off', none⟩) (k - n) cp')) q bk off' cp' (s.drop n) false) := fun off' cp' hb hl => by
    have e1 : (s.drop n).length = k - n := by rw [List.length_drop, hk]
    have := h.setS (off' := off') (cp' := cp') (t := s.drop n) (by rw [e1]; exact hb) (by rw [e1]; exact hl)
    rw [e1] at this
    exact this
  have HBy : Hid (k - n = 0 ∨ Bytes W (some ⟨bk, off + n, none⟩) (k - n) (s.drop n)) := by
    by_cases h0 : k - n = 0
    · exact .inl h0
    · refine .inr ⟨by rw [List.length_drop, hk], fun _ => ?_⟩
      obtain ⟨b, o, e, hc⟩ := h.by_.2 (by omega)
      cases e
      refine ⟨bk, off + n, rfl, fun i hi => ?_⟩
      rw [bt_drop]
      have := hc (n + i) (by omega)
      rw [Nat.add_assoc]
      exact this
  clear h hk
  by_cases hcn : cp = n
  · subst hcn
    have e0 : k - cp = 0 := by omega
    go_enter Try.func55, Try.ntmps55
    go_wp2
    go_ret
    refine ⟨rfl, ⟨off, ?_⟩, grownBy_setCell _ _ _ _⟩
    have h1 := HS.out off (cp - cp) ⟨by rw [List.length_drop, ← HK.out], fun h => by omega⟩ (by omega)
    rw [Nat.sub_self, e0] at h1
    exact h1
  · go_enter Try.func55, Try.ntmps55
    go_wp2
    go_ret
    refine ⟨rfl, ⟨off + n, HS.out _ _ ?_ (by omega)⟩, grownBy_setCell _ _ _ _⟩
    rcases HBy.out with h0 | h0
    · exact ⟨by rw [List.length_drop, ← HK.out], fun h => by omega⟩
    · exact h0
end Go.Proofs.Ytdibdcbihleflaa

/- The document's cursor: numbers, words, texts. -/
namespace Go.Proofs.Ytdibdcbihleflaa
open Go.RowKit

attribute [local go_sem] Oper.semAt_some

theorem and127 (c : Int) (h0 : 0 ≤ c) (h1 : c ≤ 255) : bits .and .u8 c 127 = c % 128 := by
  have key : ∀ n : Fin 256, bits .and .u8 ((n.val : Nat) : Int) 127 = ((n.val : Nat) : Int) % 128 := by decide +kernel
  obtain ⟨n, rfl⟩ := Int.eq_ofNat_of_zero_le h0
  exact key ⟨n, by omega⟩
/-- what is left to be read of a number -/
def contN : Nat → Int → List UInt8 → Int × List UInt8 × Bool
  | 0, _, s => (0, s, true)
  | k + 1, n, s => match s with
    | [] => (0, [], true)
    | x :: r => if x.toNat < 128 then (n + (x.toNat : Int) % 128 * (if k = 0 then 128 else 1), r, decide (x.toNat = 0) && decide (k = 0)) else contN k (n + (x.toNat : Int) % 128 * (if k = 0 then 128 else 1)) r
def numC (s : List UInt8) (wr : Bool) : Int × List UInt8 × Bool := if wr then (0, s, true) else contN 2 0 s
theorem Cu.bytes1 {W : World} {q bk off cp : Nat} {x : UInt8} {r : List UInt8} {wr : Bool} (h : Cu W q bk off cp (x :: r) wr) : W.cell? ⟨bk, off, none⟩ = some (.int .u8 (x.toNat : Int)) := by
  obtain ⟨b, o, e, hc⟩ := h.by_.2 (by simp)
  cases e
  have := hc 0 (by simp)
  simpa [bt] using this
theorem cell_grown {W W' : World} {q bk off : Nat} {v : Value} (h : W.cell? ⟨bk, off, none⟩ = some v) (hg : W.grownBy W' (some q)) (hn : bk ≠ q) : W'.cell? ⟨bk, off, none⟩ = some v := hg.cell h (by simp; exact fun e => hn e)

set_option maxRecDepth 20000 in
set_option maxHeartbeats 4000000 in
theorem number_c (W : World) (q bk off cp : Nat) (s : List UInt8) (wr : Bool) (h : Cu W q bk off cp s wr) :
    Calls Try.prog 53 #[.pointer (some ⟨q, 0, none⟩)] W fun e w' => e = .returned (.int .i64 (numC s wr).1) ∧ (∃ off' cp', Cu w' q bk off' cp' (numC s wr).2.1 (numC s wr).2.2) ∧ W.grownBy w' (some q) := by
  cases wr with
  | true =>
    have hb := take_bad W q bk off cp s true 1 h (.inl rfl)
    have e : numC s true = (0, s, true) := rfl
    rw [e]
    clear e h
    go_enter Try.func53, Try.ntmps53
    go_wp2_with fail
    go_loopw [3, 4] (fun a b wx => a = .int .i64 0 ∧ b = .int .i64 0 ∧ wx = W) (fun _ b _ => 14 - (intOf b).toNat)
    case atStart => exact ⟨rfl, rfl, rfl⟩
    case round =>
      obtain ⟨rfl, rfl, rfl⟩ := hrel
      go_wp2_with (go_at_call 55; refine hb.mono ?_; clear hb; rintro e w1 ⟨rfl, hC, hG⟩; have c1 := hC.cell.2.1)
      go_ret
      exact ⟨rfl, ⟨off, cp, hC⟩, hG⟩
  | false =>
    obtain ⟨RES, hRES⟩ : ∃ RES, RES = numC s false := ⟨_, rfl⟩
    rw [← hRES]
    have hR : RES = contN 2 0 s := hRES
    have F0 : Hid (Cu W q bk off cp s false ∧ W.grownBy W (some q)) := ⟨h, ⟨rfl, rfl, rfl, Nat.le_refl _, fun _ _ _ => rfl⟩⟩
    have HR : Hid (RES = contN 2 0 s) := hR
    clear hRES hR h
    go_enter Try.func53, Try.ntmps53
    go_wp2_with fail
    go_loopw [3, 4] (fun a b wx => ∃ (k : Nat) (nn : Int) (t : List UInt8) (o p : Nat), k ≤ 2 ∧ 0 ≤ nn ∧ nn ≤ 127 * (2 - (k : Int)) * 128 ∧ a = .int .i64 nn ∧ b = .int .i64 (14 - 7 * (k : Int)) ∧ Hid (Cu wx q bk o p t false ∧ W.grownBy wx (some q) ∧ RES = contN k nn t)) (fun _ b _ => 14 - (intOf b).toNat)
    case atStart => exact ⟨2, 0, s, off, cp, by omega, by omega, by omega, rfl, rfl, F0.out.1, F0.out.2, HR.out⟩
    case round =>
      clear F0 HR
      obtain ⟨k, nn, t, o, p, hk, hn0, hn1, rfl, rfl, H⟩ := hrel
      match k, hk with
      | 0, _ =>
        have hC := H.out.1
        obtain ⟨c0, c1, f0, f1⟩ := hC.cell
        have HF : Hid (Cu (wr.setCell ⟨q, 1, none⟩ (.bool true)) q bk o p t true ∧ W.grownBy (wr.setCell ⟨q, 1, none⟩ (.bool true)) (some q)) := ⟨hC.setW true, grownBy_trans H.out.2.1 (grownBy_setCell _ _ _ _)⟩
        have e := H.out.2.2
        clear hC
        go_wp2
        go_ret
        rw [e]
        exact ⟨rfl, ⟨o, p, HF.out.1⟩, HF.out.2⟩
      | 1, _ =>
        cases t with
        | nil =>
          have hb := take_bad wr q bk o p [] false 1 H.out.1 (.inr (by simp))
          have e : RES = (0, [], true) := H.out.2.2
          have HG : Hid (W.grownBy wr (some q)) := H.out.2.1
          subst e
          clear H
          go_wp2_with (go_at_call 55; refine hb.mono ?_; clear hb; rintro e w1 ⟨rfl, hC, hG⟩; have c1 := hC.cell.2.1)
          go_ret
          exact ⟨rfl, ⟨o, p, hC⟩, grownBy_trans HG.out hG⟩
        | cons x r =>
          have hb := take_ok wr q bk o p (x :: r) 1 H.out.1 (by simp)
          have cx := H.out.1.bytes1
          have hne := H.out.1.ne
          have hxl := x.toNat_lt
          have hand : bits .and .u8 (x.toNat : Int) 127 = (x.toNat : Int) % 128 := and127 _ (by omega) (by omega)
          have HE0 : RES = if x.toNat < 128 then (nn + (x.toNat : Int) % 128 * 128, r, decide (x.toNat = 0) && true) else contN 0 (nn + (x.toNat : Int) % 128 * 128) r := by have := H.out.2.2; simpa [contN] using this
          have HE : Hid (RES = if x.toNat < 128 then (nn + (x.toNat : Int) % 128 * 128, r, decide (x.toNat = 0) && true) else contN 0 (nn + (x.toNat : Int) % 128 * 128) r) := HE0
          clear HE0
          have HG : Hid (W.grownBy wr (some q)) := H.out.2.1
          have hxm : (x.toNat : Int) % 128 ≤ 127 := by omega
          have hxn : 0 ≤ (x.toNat : Int) % 128 := by omega
          by_cases h8 : x.toNat < 128
          · have i1 : (x.toNat : Int) < 128 := by omega
            have d1 : decide ((x.toNat : Int) < 128) = true := decide_eq_true i1
            by_cases hx0 : x.toNat = 0
            · have z1 : ((x.toNat : Int) == 0) = true := by simp [hx0]
              clear H
              go_wp2_with (go_at_call 55; refine hb.mono ?_; clear hb; rintro e w1 ⟨rfl, ⟨o', hC⟩, hG⟩; obtain ⟨c0, c1, f0, f1⟩ := hC.cell; have cx1 := cell_grown cx hG hne; have H1 : Hid (Cu w1 q bk o' (p - 1) r false ∧ W.grownBy w1 (some q)) := ⟨hC, grownBy_trans HG.out hG⟩; clear hC hG cx)
              go_ret
              rw [HE.out, if_pos h8]
              refine ⟨?_, ⟨o', p - 1, ?_⟩, grownBy_trans H1.out.2 (grownBy_setCell _ _ _ _)⟩
              · have a0 : bits BinOp.and IntKind.u8 0 127 = 0 := and127 0 (by omega) (by omega)
                simp [hx0, a0]
                unfold wrap64
                omega
              · have := H1.out.1.setW true
                simpa [hx0] using this
            · have z1 : ((x.toNat : Int) == 0) = false := by simp [hx0]
              have z2 : ¬ (x.toNat : Int) = 0 := by omega
              clear H
              go_wp2_with (go_at_call 55; refine hb.mono ?_; clear hb; rintro e w1 ⟨rfl, ⟨o', hC⟩, hG⟩; obtain ⟨c0, c1, f0, f1⟩ := hC.cell; have cx1 := cell_grown cx hG hne; have H1 : Hid (Cu w1 q bk o' (p - 1) r false ∧ W.grownBy w1 (some q)) := ⟨hC, grownBy_trans HG.out hG⟩; clear hC hG cx)
              go_ret
              rw [HE.out, if_pos h8]
              refine ⟨?_, ⟨o', p - 1, ?_⟩, grownBy_trans H1.out.2 (grownBy_setCell _ _ _ _)⟩
              · skip
                simp


              · have := H1.out.1.setW false
                simpa [hx0] using this
          · have i1 : ¬ (x.toNat : Int) < 128 := by omega
            have d1 : decide ((x.toNat : Int) < 128) = false := decide_eq_false i1
            have he := HE.out
            rw [if_neg h8] at he
            have HE2 : Hid (RES = contN 0 (nn + (x.toNat : Int) % 128 * 128) r) := he
            clear he H
            go_wp2_with (go_at_call 55; refine hb.mono ?_; clear hb; rintro e w1 ⟨rfl, ⟨o', hC⟩, hG⟩; obtain ⟨c0, c1, f0, f1⟩ := hC.cell; have cx1 := cell_grown cx hG hne; have H1 : Hid (Cu w1 q bk o' (p - 1) r false ∧ W.grownBy w1 (some q)) := ⟨hC, grownBy_trans HG.out hG⟩; clear hC hG cx)
            go_roundw
            case rel => exact ⟨0, nn + (x.toNat : Int) % 128 * 128, r, o', p - 1, by omega, by omega, by omega, by simp, by simp, H1.out.1, H1.out.2, HE2.out⟩
            case measure => simp [intOf]
      | 2, _ =>
        cases t with
        | nil =>
          have hb := take_bad wr q bk o p [] false 1 H.out.1 (.inr (by simp))
          have e : RES = (0, [], true) := H.out.2.2
          have HG : Hid (W.grownBy wr (some q)) := H.out.2.1
          subst e
          clear H
          go_wp2_with (go_at_call 55; refine hb.mono ?_; clear hb; rintro e w1 ⟨rfl, hC, hG⟩; have c1 := hC.cell.2.1)
          go_ret
          exact ⟨rfl, ⟨o, p, hC⟩, grownBy_trans HG.out hG⟩
        | cons x r =>
          have hb := take_ok wr q bk o p (x :: r) 1 H.out.1 (by simp)
          have cx := H.out.1.bytes1
          have hne := H.out.1.ne
          have hxl := x.toNat_lt
          have hand : bits .and .u8 (x.toNat : Int) 127 = (x.toNat : Int) % 128 := and127 _ (by omega) (by omega)
          have HE0 : RES = if x.toNat < 128 then (nn + (x.toNat : Int) % 128 * 1, r, decide (x.toNat = 0) && false) else contN 1 (nn + (x.toNat : Int) % 128 * 1) r := by have := H.out.2.2; simpa [contN] using this
          have HE : Hid (RES = if x.toNat < 128 then (nn + (x.toNat : Int) % 128 * 1, r, decide (x.toNat = 0) && false) else contN 1 (nn + (x.toNat : Int) % 128 * 1) r) := HE0
          clear HE0
          have HG : Hid (W.grownBy wr (some q)) := H.out.2.1
          have hxm : (x.toNat : Int) % 128 ≤ 127 := by omega
          have hxn : 0 ≤ (x.toNat : Int) % 128 := by omega
          by_cases h8 : x.toNat < 128
          · have i1 : (x.toNat : Int) < 128 := by omega
            have d1 : decide ((x.toNat : Int) < 128) = true := decide_eq_true i1
            by_cases hx0 : x.toNat = 0
            · have z1 : ((x.toNat : Int) == 0) = true := by simp [hx0]
              clear H
              go_wp2_with (go_at_call 55; refine hb.mono ?_; clear hb; rintro e w1 ⟨rfl, ⟨o', hC⟩, hG⟩; obtain ⟨c0, c1, f0, f1⟩ := hC.cell; have cx1 := cell_grown cx hG hne; have H1 : Hid (Cu w1 q bk o' (p - 1) r false ∧ W.grownBy w1 (some q)) := ⟨hC, grownBy_trans HG.out hG⟩; clear hC hG cx)
              go_ret
              rw [HE.out, if_pos h8]
              refine ⟨?_, ⟨o', p - 1, ?_⟩, grownBy_trans H1.out.2 (grownBy_setCell _ _ _ _)⟩
              · have a0 : bits BinOp.and IntKind.u8 0 127 = 0 := and127 0 (by omega) (by omega)
                simp [hx0, a0]
                unfold wrap64
                omega
              · have := H1.out.1.setW false
                simpa [hx0] using this
            · have z1 : ((x.toNat : Int) == 0) = false := by simp [hx0]
              have z2 : ¬ (x.toNat : Int) = 0 := by omega
              clear H
              go_wp2_with (go_at_call 55; refine hb.mono ?_; clear hb; rintro e w1 ⟨rfl, ⟨o', hC⟩, hG⟩; obtain ⟨c0, c1, f0, f1⟩ := hC.cell; have cx1 := cell_grown cx hG hne; have H1 : Hid (Cu w1 q bk o' (p - 1) r false ∧ W.grownBy w1 (some q)) := ⟨hC, grownBy_trans HG.out hG⟩; clear hC hG cx)
              go_ret
              rw [HE.out, if_pos h8]
              refine ⟨?_, ⟨o', p - 1, ?_⟩, grownBy_trans H1.out.2 (grownBy_setCell _ _ _ _)⟩
              · skip
                simp


              · have := H1.out.1.setW false
                simpa [hx0] using this
          · have i1 : ¬ (x.toNat : Int) < 128 := by omega
            have d1 : decide ((x.toNat : Int) < 128) = false := decide_eq_false i1
            have he := HE.out
            rw [if_neg h8] at he
            have HE2 : Hid (RES = contN 1 (nn + (x.toNat : Int) % 128 * 1) r) := he
            clear he H
            go_wp2_with (go_at_call 55; refine hb.mono ?_; clear hb; rintro e w1 ⟨rfl, ⟨o', hC⟩, hG⟩; obtain ⟨c0, c1, f0, f1⟩ := hC.cell; have cx1 := cell_grown cx hG hne; have H1 : Hid (Cu w1 q bk o' (p - 1) r false ∧ W.grownBy w1 (some q)) := ⟨hC, grownBy_trans HG.out hG⟩; clear hC hG cx)
            go_roundw
            case rel => exact ⟨1, nn + (x.toNat : Int) % 128 * 1, r, o', p - 1, by omega, by omega, by omega, by simp, by simp, H1.out.1, H1.out.2, HE2.out⟩
            case measure => simp [intOf]
end Go.Proofs.Ytdibdcbihleflaa

/- The document's cursor: words and texts. -/
namespace Go.Proofs.Ytdibdcbihleflaa
open Go.RowKit

attribute [local go_sem] Oper.semAt_some

def wordC (s : List UInt8) (wr : Bool) : Int × List UInt8 × Bool := if wr = true ∨ s.length < 8 then (0, s, true) else (wideVal s 8, s.drop 8, false)
theorem Cu.drewN' {W : World} {q bk off cp : Nat} {s : List UInt8} {wr : Bool} (h : Cu W q bk off cp s wr) (k : Nat) : Cu (W.drewN k) q bk off cp s wr := ⟨h.box, h.by_.drewN k, h.le, h.ne, h.lt⟩
theorem wv_take (l : List UInt8) (j : Nat) : ∀ k, k ≤ j → wideVal (l.take j) k = wideVal l k := by
  intro k
  induction k with
  | zero => intro _; rfl
  | succ k ih => intro h; rw [wideVal_succ, wideVal_succ, ih (by omega), bt_take _ _ _ (by omega)]
theorem Bytes.takeC {w : World} {a : Option Addr} {n : Nat} {l : List UInt8} (h : Bytes w a n l) (m : Nat) (hm : m ≤ n) : Bytes w a m (l.take m) := by
  refine ⟨by simp [h.1]; omega, fun h0 => ?_⟩
  obtain ⟨b, off, e, hc⟩ := h.2 (by omega)
  exact ⟨b, off, e, fun i hi => by rw [bt_take _ _ _ hi]; exact hc i (by omega)⟩
set_option maxHeartbeats 2000000 in
theorem word_c (W : World) (q bk off cp : Nat) (s : List UInt8) (wr : Bool) (h : Cu W q bk off cp s wr) :
    Calls Try.prog 56 #[.pointer (some ⟨q, 0, none⟩)] W fun e w' => e = .returned (.int .u64 (wordC s wr).1) ∧ (∃ off' cp', Cu w' q bk off' cp' (wordC s wr).2.1 (wordC s wr).2.2) ∧ W.grownBy w' (some q) := by
  unfold wordC
  by_cases hb : wr = true ∨ s.length < 8
  · rw [if_pos hb]
    have ht := take_bad W q bk off cp s wr 8 h hb
    clear h hb
    go_enter Try.func56, Try.ntmps56
    go_wp2_with (go_at_call 55; refine ht.mono ?_; clear ht; rintro e w1 ⟨rfl, hC, hG⟩)
    go_loopw [3, 9] (fun a b wx => a = .int .u64 0 ∧ b = .int .i64 0 ∧ wx = w1) (fun _ _ _ => 0)
    case atStart => exact ⟨rfl, rfl, rfl⟩
    case round =>
      obtain ⟨rfl, rfl, rfl⟩ := hrel
      go_wp2
      go_ret
      exact ⟨rfl, ⟨off, cp, hC⟩, hG⟩
  · rw [if_neg hb]
    have hw : wr = false := by cases wr with | true => exact absurd (.inl rfl) hb | false => rfl
    subst hw
    have h8 : 8 ≤ s.length := by
      by_cases h8 : s.length < 8
      · exact absurd (.inr h8) hb
      · omega
    have ht := take_ok W q bk off cp s 8 h h8
    have HBy : Hid (Bytes W (some ⟨bk, off, none⟩) 8 (s.take 8)) := by
      refine ⟨by simp; omega, fun _ => ?_⟩
      obtain ⟨b, o, e, hc⟩ := h.by_.2 (by omega)
      exact ⟨b, o, e, fun i hi => by rw [bt_take _ _ _ hi]; exact hc i (by omega)⟩
    have hne := h.ne
    have HV : Hid (wideVal (s.take 8) 8 = wideVal s 8) := (wv_take s 8 8 (Nat.le_refl _) : wideVal (s.take 8) 8 = wideVal s 8)
    clear h hb
    go_enter Try.func56, Try.ntmps56
    go_wp2_with (go_at_call 55; refine ht.mono ?_; clear ht; rintro e w1 ⟨rfl, ⟨o', hC⟩, hG⟩; have H1 : Hid ((∃ off' cp', Cu w1 q bk off' cp' (s.drop 8) false) ∧ W.grownBy w1 (some q) ∧ Bytes w1 (some ⟨bk, off, none⟩) 8 (s.take 8)) := ⟨⟨o', _, hC⟩, hG, HBy.out.kept hG (fun x hx => by cases hx; simp; exact fun e => hne e.symm)⟩; clear hC hG HBy)
    generalize s.take 8 = l at H1 HV
    go_loopw [3, 9] (fun a b wx => ∃ k : Nat, k ≤ 8 ∧ a = .int .u64 (wideVal l k) ∧ b = .int .i64 (k : Int) ∧ wx = w1) (fun _ b _ => 8 - (intOf b).toNat)
    case atStart => exact ⟨0, Nat.zero_le _, rfl, rfl, rfl⟩
    case round =>
      obtain ⟨k, hk, rfl, rfl, rfl⟩ := hrel
      by_cases hlt : k < 8
      · obtain ⟨b, o, e, hcell⟩ := H1.out.2.2.2 (by omega)
        cases e
        have hck := hcell k hlt
        have b0 := bt_lo l k
        have b1 := bt_hi l k
        have h0 := wideVal_lo l k
        have h1 := wideVal_7 l k (by omega)
        have HS : Hid (bits BinOp.or IntKind.u64 (wideVal l k * 256) (bt l k) = wideVal l (k + 1)) := by rw [shl8 _ _ h0 h1 b0 b1]; rfl
        have i1 : (k : Int) < 8 := by omega
        clear hcell
        go_wp2
        go_roundw
        case rel => exact ⟨k + 1, by omega, by rw [HS.out], by simp, trivial⟩
        case measure => simp [intOf]; omega
      · obtain rfl : k = 8 := by omega
        go_wp2
        go_ret
        exact ⟨by rw [HV.out]; rfl, H1.out.1, H1.out.2.1⟩
theorem contN_fits : ∀ (k : Nat) (n : Int) (s : List UInt8), k ≤ 2 → 0 ≤ n → n ≤ 127 * (2 - (k : Int)) * 128 → 0 ≤ (contN k n s).1 ∧ (contN k n s).1 ≤ 40000
  | 0, n, s, _, _, _ => by simp [contN]
  | k + 1, n, [], _, _, _ => by simp [contN]
  | k + 1, n, x :: r, hk, h0, h1 => by
    have hx := x.toNat_lt
    unfold contN
    simp only
    by_cases hz : k = 0
    · subst hz
      split
      · simp only [if_true]; omega
      · exact contN_fits 0 _ r (by omega) (by simp only [if_true]; omega) (by simp only [if_true]; omega)
    · have hk1 : k = 1 := by omega
      subst hk1
      split
      · simp; omega
      · exact contN_fits 1 _ r (by omega) (by simp; omega) (by simp; omega)
theorem numC_fits (s : List UInt8) (wr : Bool) : 0 ≤ (numC s wr).1 ∧ (numC s wr).1 ≤ 40000 := by
  unfold numC
  split
  · simp
  · exact contN_fits 2 0 s (by omega) (by omega) (by omega)
def textC (s : List UInt8) (wr : Bool) : ByteArray × List UInt8 × Bool :=
  if (numC s wr).2.2 = true ∨ (numC s wr).2.1.length < (numC s wr).1.toNat then (⟨#[]⟩, (numC s wr).2.1, true) else (⟨((numC s wr).2.1.take (numC s wr).1.toNat).toArray⟩, (numC s wr).2.1.drop (numC s wr).1.toNat, false)
set_option maxHeartbeats 2000000 in
theorem text_c (W : World) (q bk off cp : Nat) (s : List UInt8) (wr : Bool) (h : Cu W q bk off cp s wr) :
    Calls Try.prog 54 #[.pointer (some ⟨q, 0, none⟩)] W fun e w' => e = .returned (.string (textC s wr).1) ∧ (∃ off' cp', Cu w' q bk off' cp' (textC s wr).2.1 (textC s wr).2.2) ∧ W.grownBy w' (some q) := by
  have hn := number_c W q bk off cp s wr h
  have hf := numC_fits s wr
  unfold textC
  generalize numC s wr = R at hn hf
  obtain ⟨v, t, f⟩ := R
  simp only at hn hf ⊢
  obtain ⟨N, rfl⟩ := Int.eq_ofNat_of_zero_le hf.1
  simp only [Int.toNat_natCast]
  clear h hf
  by_cases hb : f = true ∨ t.length < N
  · rw [if_pos hb]
    have HB : Hid (f = true ∨ t.length < N) := hb
    have hs0 : ∀ W', (convert 22 9 (.slice none 0 0)).run Try.prog W' = .ok (.string ⟨#[]⟩) W' := fun W' => run_string W' none 0 0 [] ⟨rfl, fun h => by omega⟩
    clear hb
    go_enter Try.func54, Try.ntmps54
    go_wp2_with first
      | (go_at_call 53; refine hn.mono ?_; clear hn; rintro e w1 ⟨rfl, ⟨o1, p1, hC⟩, hG⟩; have ht := take_bad w1 q bk o1 p1 t f N hC HB.out; clear hC)
      | (go_at_call 55; refine ht.mono ?_; clear ht; rintro e w2 ⟨rfl, hC2, hG2⟩)
    go_ret
    exact ⟨rfl, ⟨o1, p1, hC2⟩, grownBy_trans hG hG2⟩
  · rw [if_neg hb]
    have hf : f = false := by cases f with | true => exact absurd (.inl rfl) hb | false => rfl
    subst hf
    have h8 : N ≤ t.length := by
      by_cases h8 : t.length < N
      · exact absurd (.inr h8) hb
      · omega
    have HL : Hid (N ≤ t.length) := h8
    clear hb h8
    go_enter Try.func54, Try.ntmps54
    go_wp2_with first
      | (go_at_call 53; refine hn.mono ?_; clear hn; rintro e w1 ⟨rfl, ⟨o1, p1, hC⟩, hG⟩; have ht := take_ok w1 q bk o1 p1 t N hC HL.out; have H1 : Hid (Cu w1 q bk o1 p1 t false) := hC; clear hC)
      | (go_at_call 55; refine ht.mono ?_; clear ht; rintro e w2 ⟨rfl, hC2, hG2⟩; have hby : Bytes w2 (some ⟨bk, o1, none⟩) N (t.take N) := ((Bytes.takeC H1.out.by_ N HL.out).kept hG2 (fun x hx => by cases hx; simp; exact fun e => H1.out.ne e.symm)); have hst := run_string w2 (some ⟨bk, o1, none⟩) N p1 (t.take N) hby; clear hby)
    go_ret
    obtain ⟨o2, hC2⟩ := hC2
    exact ⟨rfl, ⟨o2, _, hC2⟩, grownBy_trans hG hG2⟩
end Go.Proofs.Ytdibdcbihleflaa

/- The document's reading of a tree. -/
namespace Go.Proofs.Ytdibdcbihleflaa
open Go.RowKit

attribute [local go_sem] Oper.semAt_some

/-- one entry, as the document reads it -/
def entC (s : List UInt8) : Ent × List UInt8 × Bool :=
  match (textC s false).2.2, (textC s false).2.1 with
  | false, c :: r => (((textC s false).1, decide (c.toNat = 1), (wordC r (decide (1 < c.toNat))).1), (wordC r (decide (1 < c.toNat))).2.1, (wordC r (decide (1 < c.toNat))).2.2)
  | _, t => (((textC s false).1, false, 0), t, true)
def entsC : Nat → List UInt8 → Bool → List Ent → List Ent × List UInt8 × Bool
  | 0, s, wr, acc => (acc, s, wr)
  | k + 1, s, wr, acc => if wr = true then (acc, s, wr) else entsC k (entC s).2.1 (entC s).2.2 (acc ++ [(entC s).1])
def treeC (l : List UInt8) : Option (List Ent) :=
  if l.head? = some 116 then
    (if (entsC (numC (l.drop 1) false).1.toNat (numC (l.drop 1) false).2.1 (numC (l.drop 1) false).2.2 []).2.2 = true ∨ (entsC (numC (l.drop 1) false).1.toNat (numC (l.drop 1) false).2.1 (numC (l.drop 1) false).2.2 []).2.1 ≠ [] ∨ treeErrs (entsC (numC (l.drop 1) false).1.toNat (numC (l.drop 1) false).2.1 (numC (l.drop 1) false).2.2 []).1 ≠ 0 then none
    else some (entsC (numC (l.drop 1) false).1.toNat (numC (l.drop 1) false).2.1 (numC (l.drop 1) false).2.2 []).1)
  else none
def TreeO : Option (List Ent) → Ending → World → Prop
  | none, x, _ => x = .returned (.tuple #[.slice none 0 0, .bool false])
  | some R, x, W => ∃ ad cp, x = .returned (.tuple #[.slice ad R.length cp, .bool true]) ∧ Ents W ad R.length R
theorem textC_size (s : List UInt8) (wr : Bool) : (textC s wr).1.size ≤ 40000 := by
  have := numC_fits s wr
  unfold textC
  split
  · show (0 : Nat) ≤ 40000; omega
  · show (((numC s wr).2.1.take (numC s wr).1.toNat).toArray).size ≤ 40000
    simp
    omega
theorem Cu.low {W W' : World} {q bk off cp : Nat} {s : List UInt8} {wr : Bool} (h : Cu W q bk off cp s wr) (hB : Below (q + 1) W W') (hk : bk < q) : Cu W' q bk off cp s wr :=
  ⟨(hB.block q (by omega)).trans h.box, by
    refine ⟨rfl, fun h0 => ?_⟩
    obtain ⟨b, o, e, hc⟩ := h.by_.2 h0
    cases e
    exact ⟨bk, off, rfl, fun i hi => by
      have := hc i hi
      rw [← this]
      exact World.cell?_of_block (hB.block bk (by omega))⟩, h.le, h.ne, Nat.lt_of_lt_of_le h.lt hB.size⟩
theorem Box3.set1 {W : World} {g : Nat} {a b c : Value} (h : Box3 W g a b c) (v : Value) : Box3 (W.setCell ⟨g, 1, none⟩ v) g a v c := by
  have h' : W.heap[g]? = _ := h
  have hl := h.lt
  unfold Box3
  simp [World.setCell, Array.getElem?_modify, h']
theorem Box3.set2 {W : World} {g : Nat} {a b c : Value} (h : Box3 W g a b c) (v : Value) : Box3 (W.setCell ⟨g, 2, none⟩ v) g a b v := by
  have h' : W.heap[g]? = _ := h
  have hl := h.lt
  unfold Box3
  simp [World.setCell, Array.getElem?_modify, h']
/-- what stands while the document reads a tree -/
structure TK (w : World) (q bk : Nat) (s : List UInt8) (wr : Bool) (acc : List Ent) (ad : Option Addr) (m cp : Nat) (W : World) : Prop where
  cu : ∃ o p, Cu W q bk o p s wr
  bel : Below w.heap.size w W
  row : W.ownsRow (q + 1) 50 3 (.slice ad m cp) m (entCells acc)
  low : q + 1 ≤ W.heap.size
  sh : ∀ x ∈ acc, x.1.size ≤ 40000
  hq : w.heap.size ≤ q
  hk : bk < q
theorem TK.grown {w W W' : World} {q bk : Nat} {s t : List UInt8} {wr wr' : Bool} {acc : List Ent} {ad : Option Addr} {m cp : Nat} (h : TK w q bk s wr acc ad m cp W) (hg : W.grownBy W' (some q)) (hc : ∃ o p, Cu W' q bk o p t wr') : TK w q bk t wr' acc ad m cp W' :=
  ⟨hc, below_of_gr h.bel hg h.hq, own_grown h.row hg (by omega), Nat.le_trans h.low hg.size, h.sh, h.hq, h.hk⟩
theorem TK.above {w W W' : World} {q bk : Nat} {s : List UInt8} {wr : Bool} {acc acc' : List Ent} {ad ad' : Option Addr} {m cp m' cp' : Nat} (h : TK w q bk s wr acc ad m cp W) (hB : Below (q + 1) W W') (hr : W'.ownsRow (q + 1) 50 3 (.slice ad' m' cp') m' (entCells acc')) (hs : ∀ x ∈ acc', x.1.size ≤ 40000) : TK w q bk s wr acc' ad' m' cp' W' := by
  obtain ⟨o, p, hc⟩ := h.cu
  exact ⟨⟨o, p, hc.low hB h.hk⟩, h.bel.trans (hB.mono (by have := h.hq; omega)), hr, Nat.le_trans h.low hB.size, hs, h.hq, h.hk⟩
theorem TK.alloc {w W : World} {q bk : Nat} {s : List UInt8} {wr : Bool} {acc : List Ent} {ad : Option Addr} {m cp : Nat} (h : TK w q bk s wr acc ad m cp W) (o : Obj) : TK w q bk s wr acc ad m cp (W.alloc o) :=
  h.above ((Below.refl _ _).alloc h.low _) (h.row.alloc _) h.sh
theorem TK.setX {w W : World} {q bk : Nat} {s : List UInt8} {wr : Bool} {acc : List Ent} {ad : Option Addr} {m cp : Nat} (h : TK w q bk s wr acc ad m cp W) (xb i : Nat) (v : Value) (hx : q + 1 ≤ xb) (hn : (Value.slice ad m cp).ownBlock ≠ some xb) : TK w q bk s wr acc ad m cp (W.setCell ⟨xb, i, none⟩ v) :=
  h.above ((Below.refl _ _).setCell (p := ⟨xb, i, none⟩) hx _) (h.row.kept (grownBy_setCell _ _ _ _) (.inr hn)) h.sh
theorem TK.nox {w W : World} {q bk : Nat} {s : List UInt8} {wr : Bool} {acc : List Ent} {ad : Option Addr} {m cp : Nat} (h : TK w q bk s wr acc ad m cp W) : (Value.slice ad m cp).ownBlock ≠ some W.heap.size := fun e => by
  have := (row_block3 h.row W.heap.size e).2.1
  omega
theorem TK.push {w W W' : World} {q bk : Nat} {s : List UInt8} {wr : Bool} {acc : List Ent} {ad ad' : Option Addr} {m cp cp' : Nat} {x : Ent} (h : TK w q bk s wr acc ad m cp W) (hr : W'.ownsRow (q + 1) 50 3 (.slice ad' (m + 1) cp') (m + 1) (entCells (acc ++ [x]))) (hg : W.grownBy W' (Value.slice ad m cp).ownBlock) (hs : x.1.size ≤ 40000) : TK w q bk s wr (acc ++ [x]) ad' (m + 1) cp' W' :=
  h.above (below_gr3 h.row h.low hg) hr (fun y hy => by
    rcases List.mem_append.1 hy with h1 | h1
    · exact h.sh y h1
    · simp at h1; subst h1; exact hs)
theorem short_of {acc : List Ent} (h : ∀ x ∈ acc, x.1.size ≤ 40000) : Short acc := fun j x hx => by
  have := h x (List.mem_of_getElem? hx)
  unfold maxLen
  omega

set_option maxRecDepth 50000 in
set_option maxHeartbeats 8000000 in
theorem asTree_main (bk off0 n c : Nat) (l : List UInt8) (w : World) (hb : Bytes w (some ⟨bk, off0, none⟩) n l) (hn : 1 ≤ n) (hnc : n ≤ c) (hc1 : c ≠ 1) (hh : l.head? = some 116) (hlt : bk < w.heap.size) (hsm : n ≤ 40000) :
    Calls Try.prog 27 #[.slice (some ⟨bk, off0, none⟩) n c] w fun x w' => TreeO (treeC l) x w' ∧ Below w.heap.size w w' := by
  have hln := hb.1
  obtain ⟨t, rfl⟩ : ∃ t, l = 116 :: t := by
    cases l with
    | nil => simp at hh
    | cons x t => simp at hh; subst hh; exact ⟨t, rfl⟩
  obtain ⟨n', rfl⟩ : ∃ n', n = n' + 1 := ⟨n - 1, by omega⟩
  have htn : t.length = n' := by simpa using hln
  have c0 : w.cell? ⟨bk, off0, none⟩ = some (.int .u8 116) := by
    obtain ⟨b, o, e, hc⟩ := hb.2 (by omega)
    cases e
    have := hc 0 (by omega)
    simpa [bt] using this
  have HC0 : Hid (Cu (w.alloc (.cells #[.slice (some ⟨bk, off0 + 1, none⟩) n' (c - 1), .bool false] 89)) w.heap.size bk (off0 + 1) (c - 1) t false) := by
    refine ⟨by rw [htn]; exact World.alloc_heap_new _ _, ⟨rfl, fun h0 => ?_⟩, by omega, by omega, by simp; omega⟩
    obtain ⟨b, o, e, hc⟩ := hb.2 (by omega)
    cases e
    refine ⟨bk, off0 + 1, rfl, fun i hi => ?_⟩
    have h1 := hc (i + 1) (by omega)
    rw [bt_cons] at h1
    rw [← h1, show off0 + 1 + i = off0 + (i + 1) by omega]
    exact World.cell?_of_block (Below.heap_alloc _ _ _ hlt)
  have hnu := fun W o p (h : Cu W w.heap.size bk o p t false) => number_c W w.heap.size bk o p t false h
  have hnf := numC_fits t false
  obtain ⟨RES, hRES⟩ : ∃ RES, RES = entsC (numC t false).1.toNat (numC t false).2.1 (numC t false).2.2 [] := ⟨_, rfl⟩
  have htc : treeC (116 :: t) = if RES.2.2 = true ∨ RES.2.1 ≠ [] ∨ treeErrs RES.1 ≠ 0 then none else some RES.1 := by rw [hRES]; rfl
  obtain ⟨D, hDD⟩ : ∃ D, D = treeC (116 :: t) := ⟨_, rfl⟩
  rw [← hDD]
  have HD : Hid (D = if RES.2.2 = true ∨ RES.2.1 ≠ [] ∨ treeErrs RES.1 ≠ 0 then none else some RES.1) := hDD.trans htc
  clear hDD
  generalize numC t false = U at hnu hnf hRES
  obtain ⟨uv, us, uw⟩ := U
  simp only at hnu hnf hRES
  obtain ⟨N, rfl⟩ := Int.eq_ofNat_of_zero_le hnf.1
  simp only [Int.toNat_natCast] at hRES
  have HR : Hid (RES = entsC N us uw []) := hRES
  have HN : Hid (∀ W o p, Cu W w.heap.size bk o p t false → Calls Try.prog 53 #[.pointer (some ⟨w.heap.size, 0, none⟩)] W fun e w' => e = .returned (.int .i64 N) ∧ (∃ off' cp', Cu w' w.heap.size bk off' cp' us uw) ∧ W.grownBy w' (some w.heap.size)) := hnu
  have hB0 : Below w.heap.size w (w.alloc (.cells #[.slice (some ⟨bk, off0 + 1, none⟩) n' (c - 1), .bool false] 89)) := (Below.refl _ _).alloc (Nat.le_refl _) _
  have i1 : (1 : Int) ≤ (n' : Int) + 1 := by omega
  have i2 : ¬ (n' : Int) + 1 = 0 := by omega
  have hNle : N ≤ 40000 := by omega
  have hT0 : TK w w.heap.size bk t false [] none 0 0 (w.alloc (.cells #[.slice (some ⟨bk, off0 + 1, none⟩) n' (c - 1), .bool false] 89)) := ⟨⟨_, _, HC0.out⟩, hB0, World.ownsRow_nil _ _ _ _, by simp, fun x hx => by simp at hx, Nat.le_refl _, hlt⟩
  have HT0 : Hid (TK w w.heap.size bk t false [] none 0 0 (w.alloc (.cells #[.slice (some ⟨bk, off0 + 1, none⟩) n' (c - 1), .bool false] 89))) := hT0
  clear hnu hnf hRES hT0 hB0 hb hh hln htc htn
  go_enter Try.func27, Try.ntmps27
  go_wp2_with (go_at_call 53; refine (HN.out _ _ _ HC0.out).mono ?_; clear HN; rintro e w1 ⟨rfl, hC1, hG1⟩; have H1 : Hid (TK w w.heap.size bk us uw [] none 0 0 w1) := HT0.out.grown hG1 hC1; clear hC1 hG1 HT0 HC0)
  go_loopw [5, 6] (fun v i wr => ∃ (k : Nat) (s : List UInt8) (f : Bool) (acc : List Ent) (ad : Option Addr) (m cp : Nat), m + k ≤ 40000 ∧ i = .int .i64 (k : Int) ∧ v = .slice ad m cp ∧ Hid (TK w w.heap.size bk s f acc ad m cp wr ∧ RES = entsC k s f acc)) (fun _ i _ => (intOf i).toNat)
  case atStart => exact ⟨N, us, uw, [], none, 0, 0, by omega, rfl, rfl, H1.out, HR.out⟩
  case round =>
    clear H1 HR hNle
    obtain ⟨k, s, f, acc, ad, m, cp, hmk, rfl, rfl, H⟩ := hrel
    obtain ⟨o, p, hC⟩ := H.out.1.cu
    obtain ⟨q0, q1, q2, q3⟩ := hC.cell
    cases f with
    | true =>
      have HF : Hid (RES.2.2 = true) := (by rw [H.out.2]; cases k <;> rfl : RES.2.2 = true)
      have HB : Hid (Below w.heap.size w wr) := H.out.1.bel
      clear hC
      cases k with
      | zero =>
        go_wp2
        go_ret2
        have hd := HD.out
        rw [if_pos (.inl HF.out)] at hd
        subst hd
        exact ⟨rfl, HB.out⟩
      | succ k =>
        have j1 : (0 : Int) < ((k + 1 : Nat) : Int) := by omega
        go_wp2
        go_ret2
        have hd := HD.out
        rw [if_pos (.inl HF.out)] at hd
        subst hd
        exact ⟨rfl, HB.out⟩
    | false =>
      cases k with
      | zero =>
        have HF : Hid (RES = (acc, s, false)) := (by rw [H.out.2]; rfl : RES = (acc, s, false))
        have HB : Hid (Below w.heap.size w wr) := H.out.1.bel
        have hlen : acc.length = m := by have := H.out.1.row.1; rw [entCells_len] at this; omega
        by_cases hs : s = []
        · subst hs
          have hck := refCheckTree_any ad m cp acc wr (own_ents H.out.1.row hlen) (short_of H.out.1.sh) (by omega)
          have HO : Hid (wr.ownsRow (w.heap.size + 1) 50 3 (.slice ad m cp) m (entCells acc)) := H.out.1.row
          simp only [List.length_nil] at q0
          obtain ⟨E, hE⟩ : ∃ E, E = treeErrs acc := ⟨_, rfl⟩
          rw [← hE] at hck
          have HE : Hid (E = treeErrs acc) := hE
          clear hC hE
          by_cases hE0 : E = 0
          · subst hE0
            go_wp2_with (go_at_call 42; refine hck.mono ?_; clear hck; rintro e w9 ⟨rfl, hB9⟩)
            go_ret2
            have hd := HD.out
            rw [HF.out, if_neg (by simp [← HE.out])] at hd
            subst hd
            subst hlen
            exact ⟨⟨ad, cp, rfl, (own_ents HO.out rfl).below hB9⟩, HB.out.trans (hB9.mono HB.out.size)⟩
          · have e1 : (E == 0) = false := by simp [hE0]
            have e2 : (E != 0) = true := by simp [hE0]
            go_wp2_with (go_at_call 42; refine hck.mono ?_; clear hck; rintro e w9 ⟨rfl, hB9⟩)
            go_ret2
            have hd := HD.out
            rw [HF.out, if_pos (.inr (.inr (by rw [← HE.out]; exact hE0)))] at hd
            subst hd
            exact ⟨rfl, HB.out.trans (hB9.mono HB.out.size)⟩
        · obtain ⟨sl, hsl⟩ : ∃ sl, s.length = sl + 1 := by
            cases s with
            | nil => exact absurd rfl hs
            | cons x t => exact ⟨t.length, rfl⟩
          rw [hsl] at q0
          clear hC
          go_wp2
          go_ret2
          have hd := HD.out
          rw [HF.out, if_pos (.inr (.inl hs))] at hd
          subst hd
          exact ⟨rfl, HB.out⟩
      | succ k =>
        have j1 : (0 : Int) < ((k + 1 : Nat) : Int) := by omega
        have j2 : ((k + 1 : Nat) : Int) - 1 = (k : Int) := by omega
        have hTx := text_c wr w.heap.size bk o p s false hC
        have hsz := textC_size s false
        have hee : entC s = match (textC s false).2.2, (textC s false).2.1 with
          | false, c :: r => (((textC s false).1, decide (c.toNat = 1), (wordC r (decide (1 < c.toNat))).1), (wordC r (decide (1 < c.toNat))).2.1, (wordC r (decide (1 < c.toNat))).2.2)
          | _, t => (((textC s false).1, false, 0), t, true) := rfl
        have hrs : RES = entsC k (entC s).2.1 (entC s).2.2 (acc ++ [(entC s).1]) := by rw [H.out.2]; simp [entsC]
        generalize textC s false = TX at hTx hsz hee
        obtain ⟨nm, ts, tw⟩ := TX
        simp only at hTx hsz hee
        have HSZ : Hid (nm.size ≤ 40000) := hsz
        clear hC hsz
        by_cases hbad : tw = true ∨ ts.length < 1
        · have e1 : entC s = ((nm, false, 0), ts, true) := by
            rw [hee]
            cases tw with
            | true => rfl
            | false =>
              cases ts with
              | nil => rfl
              | cons x t => rcases hbad with h | h
                            · cases h
                            · simp at h
          rw [e1] at hrs
          simp only at hrs
          have HRS : Hid (RES = entsC k ts true (acc ++ [(nm, false, 0)])) := hrs
          have HBAD : Hid (tw = true ∨ ts.length < 1) := hbad
          have hWd : ∀ W o p, Cu W w.heap.size bk o p ts true → Calls Try.prog 56 #[.pointer (some ⟨w.heap.size, 0, none⟩)] W fun e w' => e = .returned (.int .u64 0) ∧ (∃ off' cp', Cu w' w.heap.size bk off' cp' ts true) ∧ W.grownBy w' (some w.heap.size) := fun W o p h => by
            have := word_c W w.heap.size bk o p ts true h
            have e : wordC ts true = (0, ts, true) := by unfold wordC; rw [if_pos (.inl rfl)]
            rw [e] at this
            exact this
          clear hee e1 hrs hbad
          go_wp2_with first
            | (go_at_call 54; refine hTx.mono ?_; clear hTx; rintro e w2 ⟨rfl, hC2, hG2⟩; have F2 : Hid (TK w w.heap.size bk ts tw acc ad m cp w2) := H.out.1.grown hG2 hC2; have F3 : Hid (TK w w.heap.size bk ts tw acc ad m cp (w2.alloc (.cells #[.string nm, .bool false, .int .u64 0] 50))) := F2.out.alloc _; have b3 := Box3.new w2 (.string nm) (.bool false) (.int .u64 0); have hnx := F2.out.nox; have hlx := F2.out.low; have hqx : w2.heap.size ≠ w.heap.size := (by omega); obtain ⟨o2, p2, hC3⟩ := F3.out.cu; have ht := take_bad _ w.heap.size bk o2 p2 ts tw 1 hC3 HBAD.out; clear hC2 hG2 F2 H)
            | (go_at_call 55; refine ht.mono ?_; clear ht; rintro e w4 ⟨rfl, hC4, hG4⟩; have F4 : Hid (TK w w.heap.size bk ts true acc ad m cp w4) := F3.out.grown hG4 ⟨_, _, hC4⟩; have b4 := b3.grown hG4 hqx; obtain ⟨d0, d1, d2, d3⟩ := hC4.cell; have hCw := hC4; clear hG4 F3 b3 hC3 hC4)
            | (go_at_call 56; refine (hWd _ _ _ hCw).mono ?_; clear hWd; rintro e w5 ⟨rfl, hC5, hG5⟩; have F5 : Hid (TK w w.heap.size bk ts true acc ad m cp w5) := F4.out.grown hG5 hC5; have b5 := b4.grown hG5 hqx; obtain ⟨y0, y1, y2⟩ := b5.cell; obtain ⟨g0, g1, g2⟩ := b5.frozen; have F6 : Hid (TK w w.heap.size bk ts true acc ad m cp (w5.setCell ⟨w2.heap.size, 2, none⟩ (.int .u64 0))) := F5.out.setX w2.heap.size 2 _ hlx hnx; have b6 := b5.set2 (.int .u64 0); obtain ⟨z0, z1, z2⟩ := b6.cell; have F7 : Hid (TK w w.heap.size bk ts true acc ad m cp ((w5.setCell ⟨w2.heap.size, 2, none⟩ (.int .u64 0)).alloc (.cells #[.string nm, .bool false, .int .u64 0] 50))) := F6.out.alloc _; have E7 : Hid (Ents ((w5.setCell ⟨w2.heap.size, 2, none⟩ (.int .u64 0)).alloc (.cells #[.string nm, .bool false, .int .u64 0] 50)) (some ⟨w5.heap.size, 0, none⟩) 1 [(nm, false, 0)]) := (by have := ents_one (w5.setCell ⟨w2.heap.size, 2, none⟩ (.int .u64 0)) (nm, false, 0); rw [show (w5.setCell ⟨w2.heap.size, 2, none⟩ (.int .u64 0)).heap.size = w5.heap.size by simp] at this; exact this); clear hC5 hG5 F4 F5 F6 b5 b6 hCw b4)
            | (at_builtin; refine wpList_app3 _ (w.heap.size + 1) F7.out.low rfl _ _ rfl (.slice ad m cp) m acc rfl F7.out.row (some ⟨w5.heap.size, 0, none⟩) 1 1 [(nm, false, 0)] rfl E7.out (fun h => by cases h) (by omega) ?_; intro v8 w8 ho8 hg8; obtain ⟨ad8, c8, hv8, _⟩ := row_shape3 ho8; subst hv8; have F8 : Hid (TK w w.heap.size bk ts true (acc ++ [(nm, false, 0)]) ad8 (m + 1) c8 w8) := F7.out.push ho8 hg8 HSZ.out; clear ho8 hg8 F7 E7)
          go_roundw
          case rel => exact ⟨k, ts, true, acc ++ [(nm, false, 0)], ad8, m + 1, c8, by omega, by simp, rfl, F8.out, HRS.out⟩
          case measure => simp [intOf]
        · obtain ⟨c1, r1, rfl⟩ : ∃ c1 r1, ts = c1 :: r1 := by
            cases ts with
            | nil => exact absurd (.inr (by simp)) hbad
            | cons x t => exact ⟨x, t, rfl⟩
          have htw : tw = false := by cases tw with | true => exact absurd (.inl rfl) hbad | false => rfl
          subst htw
          simp only at hee
          rw [hee] at hrs
          simp only at hrs
          obtain ⟨D1, hD1⟩ : ∃ D1, D1 = decide (c1.toNat = 1) := ⟨_, rfl⟩
          obtain ⟨W1, hW1⟩ : ∃ W1, W1 = decide (1 < c1.toNat) := ⟨_, rfl⟩
          have hd1 : ((c1.toNat : Int) == 1) = D1 := by rw [hD1, Bool.eq_iff_iff]; simp; omega
          have hw1 : decide ((1 : Int) < (c1.toNat : Int)) = W1 := by rw [hW1]; exact decide_eq_decide.2 (by omega)
          rw [← hD1, ← hW1] at hrs
          have hw2 : decide (1 < c1.toNat) = W1 := hW1.symm
          have hWd0 := fun W o p h => word_c W w.heap.size bk o p r1 W1 h
          obtain ⟨⟨xv, xs, xw⟩, hX⟩ : ∃ y, y = wordC r1 W1 := ⟨_, rfl⟩
          rw [← hX] at hrs hWd0
          simp only at hrs hWd0
          have HRS : Hid (RES = entsC k xs xw (acc ++ [(nm, D1, xv)])) := hrs
          have hWd : ∀ W o p, Cu W w.heap.size bk o p r1 W1 → Calls Try.prog 56 #[.pointer (some ⟨w.heap.size, 0, none⟩)] W fun e w' => e = .returned (.int .u64 xv) ∧ (∃ off' cp', Cu w' w.heap.size bk off' cp' xs xw) ∧ W.grownBy w' (some w.heap.size) := hWd0
          clear hee hrs hbad hD1 hW1 hX hWd0
          go_wp2_with first
            | (go_at_call 54; refine hTx.mono ?_; clear hTx; rintro e w2 ⟨rfl, hC2, hG2⟩; have F2 : Hid (TK w w.heap.size bk (c1 :: r1) false acc ad m cp w2) := H.out.1.grown hG2 hC2; have F3 : Hid (TK w w.heap.size bk (c1 :: r1) false acc ad m cp (w2.alloc (.cells #[.string nm, .bool false, .int .u64 0] 50))) := F2.out.alloc _; have b3 := Box3.new w2 (.string nm) (.bool false) (.int .u64 0); have hnx := F2.out.nox; have hlx := F2.out.low; have hqx : w2.heap.size ≠ w.heap.size := (by omega); obtain ⟨o2, p2, hC3⟩ := F3.out.cu; have ht := take_ok _ w.heap.size bk o2 p2 (c1 :: r1) 1 hC3 (by simp); have cx := hC3.bytes1; have hne := hC3.ne; clear hC2 hG2 F2 H)
            | (go_at_call 55; refine ht.mono ?_; clear ht; rintro e w4 ⟨rfl, ⟨o4, hC4⟩, hG4⟩; have F4 : Hid (TK w w.heap.size bk r1 false acc ad m cp w4) := F3.out.grown hG4 ⟨_, _, hC4⟩; have b4 := b3.grown hG4 hqx; have cx4 := cell_grown cx hG4 hne; obtain ⟨d0, d1, d2, d3⟩ := hC4.cell; obtain ⟨k0, k1, k2⟩ := b4.cell; obtain ⟨m0, m1, m2⟩ := b4.frozen; have F4b : Hid (TK w w.heap.size bk r1 false acc ad m cp (w4.setCell ⟨w2.heap.size, 1, none⟩ (.bool D1))) := F4.out.setX w2.heap.size 1 _ hlx hnx; have b4b := b4.set1 (.bool D1); obtain ⟨o5, p5, hC4b⟩ := F4b.out.cu; obtain ⟨n0, n1, n2, n3⟩ := hC4b.cell; have cx5 : (w4.setCell ⟨w2.heap.size, 1, none⟩ (.bool D1)).cell? ⟨bk, o2, none⟩ = some (.int .u8 (c1.toNat : Int)) := (cell_grown cx4 (grownBy_setCell _ _ _ _) (by have := F4.out.hk; omega)); have hCw := hC4b.setW W1; have F4c : Hid (TK w w.heap.size bk r1 W1 acc ad m cp ((w4.setCell ⟨w2.heap.size, 1, none⟩ (.bool D1)).setCell ⟨w.heap.size, 1, none⟩ (.bool W1))) := F4b.out.grown (grownBy_setCell _ _ _ _) ⟨_, _, hCw⟩; have b4c := b4b.grown (grownBy_setCell _ w.heap.size 1 (.bool W1)) hqx; clear hG4 F3 b3 hC3 hC4 F4 F4b cx hC4b b4 b4b)
            | (go_at_call 56; refine (hWd _ _ _ hCw).mono ?_; clear hWd; rintro e w5 ⟨rfl, hC5, hG5⟩; have F5 : Hid (TK w w.heap.size bk xs xw acc ad m cp w5) := F4c.out.grown hG5 hC5; have b5 := b4c.grown hG5 hqx; obtain ⟨y0, y1, y2⟩ := b5.cell; obtain ⟨g0, g1, g2⟩ := b5.frozen; have F6 : Hid (TK w w.heap.size bk xs xw acc ad m cp (w5.setCell ⟨w2.heap.size, 2, none⟩ (.int .u64 xv))) := F5.out.setX w2.heap.size 2 _ hlx hnx; have b6 := b5.set2 (.int .u64 xv); obtain ⟨z0, z1, z2⟩ := b6.cell; have F7 : Hid (TK w w.heap.size bk xs xw acc ad m cp ((w5.setCell ⟨w2.heap.size, 2, none⟩ (.int .u64 xv)).alloc (.cells #[.string nm, .bool D1, .int .u64 xv] 50))) := F6.out.alloc _; have E7 : Hid (Ents ((w5.setCell ⟨w2.heap.size, 2, none⟩ (.int .u64 xv)).alloc (.cells #[.string nm, .bool D1, .int .u64 xv] 50)) (some ⟨w5.heap.size, 0, none⟩) 1 [(nm, D1, xv)]) := (by have := ents_one (w5.setCell ⟨w2.heap.size, 2, none⟩ (.int .u64 xv)) (nm, D1, xv); rw [show (w5.setCell ⟨w2.heap.size, 2, none⟩ (.int .u64 xv)).heap.size = w5.heap.size by simp] at this; exact this); clear hC5 hG5 F4c F5 F6 b5 b6 hCw b4c)
            | (at_builtin; refine wpList_app3 _ (w.heap.size + 1) F7.out.low rfl _ _ rfl (.slice ad m cp) m acc rfl F7.out.row (some ⟨w5.heap.size, 0, none⟩) 1 1 [(nm, D1, xv)] rfl E7.out (fun h => by cases h) (by omega) ?_; intro v8 w8 ho8 hg8; obtain ⟨ad8, c8, hv8, _⟩ := row_shape3 ho8; subst hv8; have F8 : Hid (TK w w.heap.size bk xs xw (acc ++ [(nm, D1, xv)]) ad8 (m + 1) c8 w8) := F7.out.push ho8 hg8 HSZ.out; clear ho8 hg8 F7 E7)
          go_roundw
          case rel => exact ⟨k, xs, xw, acc ++ [(nm, D1, xv)], ad8, m + 1, c8, by omega, by simp, rfl, F8.out, HRS.out⟩
          case measure => simp [intOf]
end Go.Proofs.Ytdibdcbihleflaa

/- The document's reading of a tree, for all bytes. -/
namespace Go.Proofs.Ytdibdcbihleflaa
open Go.RowKit

attribute [local go_sem] Oper.semAt_some

theorem head_cell {w : World} {bk off0 n : Nat} {l : List UInt8} {x : UInt8} (hb : Bytes w (some ⟨bk, off0, none⟩) n l) (hh : l.head? = some x) : w.cell? ⟨bk, off0, none⟩ = some (.int .u8 (x.toNat : Int)) := by
  cases l with
  | nil => simp at hh
  | cons y t =>
    simp at hh; subst hh
    have hl := hb.1
    obtain ⟨b, o, e, hc⟩ := hb.2 (by rw [← hl]; simp)
    cases e
    have := hc 0 (by rw [← hl]; simp)
    simpa [bt] using this
set_option maxRecDepth 20000 in
set_option maxHeartbeats 4000000 in
theorem asTree_one (bk off0 : Nat) (w : World) (hb : Bytes w (some ⟨bk, off0, none⟩) 1 [116]) (hlt : bk < w.heap.size) :
    Calls Try.prog 27 #[.slice (some ⟨bk, off0, none⟩) 1 1] w fun x w' => x = .returned (.tuple #[.slice none 0 0, .bool false]) ∧ Below w.heap.size w w' := by
  have c0 := head_cell hb rfl
  have HC0 : Hid (Cu (w.alloc (.cells #[.slice (some ⟨bk, off0, none⟩) 0 0, .bool false] 89)) w.heap.size bk off0 0 [] false) :=
    ⟨World.alloc_heap_new _ _, ⟨rfl, fun h => by simp at h⟩, Nat.le_refl _, by omega, by simp; omega⟩
  have hn := number_c _ w.heap.size bk off0 0 [] false HC0.out
  have e0 : numC [] false = (0, [], true) := rfl
  rw [e0] at hn
  have hB0 : Below w.heap.size w (w.alloc (.cells #[.slice (some ⟨bk, off0, none⟩) 0 0, .bool false] 89)) := (Below.refl _ _).alloc (Nat.le_refl _) _
  have HB0 : Hid (Below w.heap.size w (w.alloc (.cells #[.slice (some ⟨bk, off0, none⟩) 0 0, .bool false] 89))) := hB0
  simp only at hn
  clear hb hB0 e0
  go_enter Try.func27, Try.ntmps27
  go_wp2_with (go_at_call 53; refine hn.mono ?_; clear hn; rintro e w1 ⟨rfl, ⟨o1, p1, hC1⟩, hG1⟩; have HB1 : Hid (Below w.heap.size w w1) := below_of_gr HB0.out hG1 (Nat.le_refl _); have c1 := hC1.cell.2.1; clear hC1 hG1)
  go_loopw [5, 6] (fun v i wr => v = .slice none 0 0 ∧ i = .int .i64 0 ∧ wr = w1) (fun _ _ _ => 0)
  case atStart => exact ⟨rfl, rfl, rfl⟩
  case round =>
    obtain ⟨rfl, rfl, rfl⟩ := hrel
    go_wp2
    go_ret2
    exact ⟨rfl, HB1.out⟩
theorem asTree_not (a : Option Addr) (n c : Nat) (l : List UInt8) (w : World) (hb : Bytes w a n l) (hh : l.head? ≠ some 116) (hn : n ≤ 9223372036854775807) :
    Calls Try.prog 27 #[.slice a n c] w fun x w' => x = .returned (.tuple #[.slice none 0 0, .bool false]) ∧ Below w.heap.size w w' := by
  cases l with
  | nil =>
    have h0 : n = 0 := by have := hb.1; simpa using this.symm
    subst h0
    go_enter Try.func27, Try.ntmps27
    go_wp2
    go_ret2
    exact ⟨rfl, Below.refl _ _⟩
  | cons x t =>
    have hl := hb.1
    obtain ⟨n', rfl⟩ : ∃ n', n = n' + 1 := ⟨t.length, by simpa using hl.symm⟩
    obtain ⟨bk, off0, rfl, _⟩ := hb.2 (by omega)
    have c0 := head_cell hb rfl
    have hx : x ≠ 116 := fun e => hh (by rw [e]; rfl)
    have hx2 : ¬ (x.toNat : Int) = 116 := fun e => hx (UInt8.toNat_inj.1 (by simp; omega))
    have x1 : ((x.toNat : Int) == 116) = false := by simp [hx2]
    have x2 : ((x.toNat : Int) != 116) = true := by simp [hx2]
    have i2 : ¬ (n' : Int) + 1 = 0 := by omega
    clear hb hh hl
    go_enter Try.func27, Try.ntmps27
    go_wp2
    go_ret2
    exact ⟨rfl, Below.refl _ _⟩
theorem refAsTree_any (a : Option Addr) (n c : Nat) (l : List UInt8) (w : World) (hb : Bytes w a n l) (hnc : n ≤ c) (hsm : n ≤ 40000) :
    Calls Try.prog 27 #[.slice a n c] w fun x w' => TreeO (treeC l) x w' ∧ Below w.heap.size w w' := by
  by_cases hh : l.head? = some 116
  · have hl := hb.1
    have hn : 1 ≤ n := by cases l with | nil => simp at hh | cons x t => rw [← hl]; simp
    obtain ⟨bk, off0, rfl, hc⟩ := hb.2 (by omega)
    have hlt : bk < w.heap.size := World.block_lt_of_cell? w _ (hc 0 (by omega))
    by_cases hc1 : c = 1
    · subst hc1
      have hn1 : n = 1 := by omega
      subst hn1
      have hl1 : l = [116] := by
        cases l with
        | nil => simp at hh
        | cons x t => simp at hh hl; subst hh; rw [hl]
      subst hl1
      have e : treeC [116] = none := rfl
      rw [e]
      exact asTree_one bk off0 w hb hlt
    · exact asTree_main bk off0 n c l w hb hn hnc hc1 hh hlt hsm
  · have e : treeC l = none := by unfold treeC; rw [if_neg hh]
    rw [e]
    exact asTree_not a n c l w hb hh (by omega)
end Go.Proofs.Ytdibdcbihleflaa

/- The document's reading of a commit. -/
namespace Go.Proofs.Ytdibdcbihleflaa
open Go.RowKit

attribute [local go_sem] Oper.semAt_some

def parsC : Nat → List UInt8 → Bool → List Int → List Int × List UInt8 × Bool
  | 0, s, f, acc => (acc, s, f)
  | k + 1, s, f, acc => if f = true then (acc, s, f) else parsC k (wordC s false).2.1 (wordC s false).2.2 (acc ++ [(wordC s false).1])
/-- a commit, as the document reads it: its fields, what is left, whether that is wrong -/
def comC0 (s : List UInt8) : ComD × List UInt8 × Bool :=
  let t := wordC s false
  let u := numC t.2.1 t.2.2
  let p := parsC u.1.toNat u.2.1 u.2.2 []
  let a := textC p.2.1 p.2.2
  let d := wordC a.2.1 a.2.2
  let x := textC d.2.1 d.2.2
  ((t.1, p.1, a.1, wrap64 d.1, x.1), x.2.1, x.2.2)
def comC (l : List UInt8) : Option ComD :=
  if l.head? = some 99 then
    (if (comC0 (l.drop 1)).2.2 = true ∨ (comC0 (l.drop 1)).2.1 ≠ [] ∨ comErr (comC0 (l.drop 1)).1.1 (comC0 (l.drop 1)).1.2.1 (comC0 (l.drop 1)).1.2.2.1 (comC0 (l.drop 1)).1.2.2.2.2 ≠ 0 then none else some (comC0 (l.drop 1)).1)
  else none
def ComO : Option ComD → Ending → World → Prop
  | none, x, _ => x = .returned (.tuple #[cmt 0 none 0 0 ⟨#[]⟩ 0 ⟨#[]⟩, .bool false])
  | some c, x, W => ∃ ad cp, x = .returned (.tuple #[cmt c.1 ad c.2.1.length cp c.2.2.1 c.2.2.2.1 c.2.2.2.2, .bool true]) ∧ Ids W ad c.2.1.length c.2.1
theorem wordC_fits (s : List UInt8) (f : Bool) : 0 ≤ (wordC s f).1 ∧ (wordC s f).1 < 18446744073709551616 := by
  unfold wordC
  split
  · simp
  · have h1 := wideVal_lo s 8
    have h2 := wideVal_fits s 8 (by omega)
    simp only
    omega
theorem wrap64_fits (x : Int) : -9223372036854775808 ≤ wrap64 x ∧ wrap64 x < 9223372036854775808 := by unfold wrap64; omega
theorem step_wordC {ops : Array Oper} {o : Oper} {a : Act} {K : Act → World → Prop} {Q : Exit → Act → World → Prop} {E : Prop} (W : World) (q bk off cp : Nat) (s : List UInt8) (f : Bool) (h : Cu W q bk off cp s f) (hgd : o.guard = none) (x : Nat)
    (ho : o.op = .call { callee := .value (.func 56), args := #[.tmp x], argTypes := #[87] }) (hx : a.tmps[x]?.getD undef = .pointer (some ⟨q, 0, none⟩))
    (hK : ∀ w', (∃ o p, Cu w' q bk o p (wordC s f).2.1 (wordC s f).2.2) → W.grownBy w' (some q) → K (a.put o.dst (.int .u64 (wordC s f).1)) w') :
    if Region.wanted o (yielded ops a.tmps) = true then Oper.wp Try.prog o a W K Q else E := by
  have hw : Region.wanted o (yielded ops a.tmps) = true := by simp [Region.wanted, hgd]
  rw [if_pos hw]
  have hc := word_c W q bk off cp s f h
  generalize wordC s f = X at hc hK
  unfold Oper.wp execOp
  simp [ho, resolve, invoke, go_sem, hx]
  refine hc.mono ?_
  rintro y w' ⟨rfl, hR, hG⟩
  have := hK w' hR hG
  simpa [go_sem] using this
/-- what stands while the document reads a commit -/
structure CK (w : World) (q bk cb : Nat) (s : List UInt8) (f : Bool) (t : Int) (acc : List Int) (ad : Option Addr) (m cp : Nat) (au : ByteArray) (d : Int) (tx : ByteArray) (W : World) : Prop where
  cu : ∃ o p, Cu W q bk o p s f
  bel : Below w.heap.size w W
  rb : Box5 W w.heap.size (.int .u64 0) (.slice none 0 0) (.string ⟨#[]⟩) (.int .i64 0) (.string ⟨#[]⟩)
  box : Box5 W cb (.int .u64 t) (.slice ad m cp) (.string au) (.int .i64 d) (.string tx)
  row : W.ownsRow (cb + 1) 39 1 (.slice ad m cp) m (acc.map (Value.int .u64))
  low : cb + 1 ≤ W.heap.size
  hq : q = w.heap.size + 1
  hqc : q < cb
  hk : bk < w.heap.size
section
variable {w W W' : World} {q bk cb : Nat} {s s' : List UInt8} {f f' : Bool} {t : Int} {acc : List Int} {ad : Option Addr} {m cp : Nat} {au : ByteArray} {d : Int} {tx : ByteArray}
theorem CK.grown (h : CK w q bk cb s f t acc ad m cp au d tx W) (hg : W.grownBy W' (some q)) (hc : ∃ o p, Cu W' q bk o p s' f') : CK w q bk cb s' f' t acc ad m cp au d tx W' := by
  have h1 := h.hq
  have h2 := h.hqc
  exact ⟨hc, below_of_gr h.bel hg (by omega), (hg.block _ h.rb.lt (fun e => by have : w.heap.size = q := Option.some.inj e; omega)).trans h.rb, (hg.block _ h.box.lt (fun e => by have : cb = q := Option.some.inj e; omega)).trans h.box, own_grown h.row hg (by omega), Nat.le_trans h.low hg.size, h.hq, h.hqc, h.hk⟩
theorem CK.above (h : CK w q bk cb s f t acc ad m cp au d tx W) {acc' : List Int} {ad' : Option Addr} {m' cp' : Nat} {t' : Int} {au' : ByteArray} {d' : Int} {tx' : ByteArray} (hB : Below cb W W') (hx : Box5 W' cb (.int .u64 t') (.slice ad' m' cp') (.string au') (.int .i64 d') (.string tx')) (hr : W'.ownsRow (cb + 1) 39 1 (.slice ad' m' cp') m' (acc'.map (Value.int .u64))) : CK w q bk cb s f t' acc' ad' m' cp' au' d' tx' W' := by
  have h1 := h.hq
  have h2 := h.hqc
  have h3 := h.hk
  obtain ⟨o, p, hc⟩ := h.cu
  exact ⟨⟨o, p, hc.low (hB.mono (by omega)) (by omega)⟩, h.bel.trans (hB.mono (by omega)), (hB.block _ (by omega)).trans h.rb, hx, hr, Nat.le_trans h.low hB.size, h.hq, h.hqc, h.hk⟩
theorem CK.alloc (h : CK w q bk cb s f t acc ad m cp au d tx W) (o : Obj) : CK w q bk cb s f t acc ad m cp au d tx (W.alloc o) := by
  have := h.low
  exact h.above ((Below.refl _ _).alloc (by omega) _) (h.box.kept ((Below.refl _ _).alloc (Nat.le_refl _) _)) (h.row.alloc _)
theorem CK.drew (h : CK w q bk cb s f t acc ad m cp au d tx W) : CK w q bk cb s f t acc ad m cp au d tx W.drew := by
  obtain ⟨o, p, hc⟩ := h.cu
  exact h.grown (hg := ⟨rfl, rfl, rfl, Nat.le_refl _, fun _ _ _ => rfl⟩) ⟨o, p, ⟨hc.box, hc.by_, hc.le, hc.ne, hc.lt⟩⟩
theorem CK.set (h : CK w q bk cb s f t acc ad m cp au d tx W) (i : Nat) (v : Value) {t' : Int} {au' : ByteArray} {d' : Int} {tx' : ByteArray} (hx : Box5 (W.setCell ⟨cb, i, none⟩ v) cb (.int .u64 t') (.slice ad m cp) (.string au') (.int .i64 d') (.string tx')) : CK w q bk cb s f t' acc ad m cp au' d' tx' (W.setCell ⟨cb, i, none⟩ v) :=
  h.above ((Below.refl _ _).setCell (p := ⟨cb, i, none⟩) (Nat.le_refl _) _) hx (own_grown h.row (grownBy_setCell _ _ _ _) (by omega))
theorem CK.ob (h : CK w q bk cb s f t acc ad m cp au d tx W) : ∀ k, (Value.slice ad m cp).ownBlock = some k → cb + 1 ≤ k := fun k hk => (row_block h.row k hk).1
theorem CK.boxed (h : CK w q bk cb s f t acc ad m cp au d tx W) (hg : W.grownBy W' (Value.slice ad m cp).ownBlock) : Box5 W' cb (.int .u64 t) (.slice ad m cp) (.string au) (.int .i64 d) (.string tx) :=
  (hg.block _ h.box.lt (fun e => by have := h.ob _ e.symm; omega)).trans h.box
theorem CK.push {x : Int} {ad' : Option Addr} {cp' : Nat} (h : CK w q bk cb s f t acc ad m cp au d tx W) (ho : W'.ownsRow (cb + 1) 39 1 (.slice ad' (m + 1) cp') (m + 1) ((acc ++ [x]).map (Value.int .u64))) (hg : W.grownBy W' (Value.slice ad m cp).ownBlock) :
    CK w q bk cb s f t (acc ++ [x]) ad' (m + 1) cp' au d tx (W'.setCell ⟨cb, 1, none⟩ (.slice ad' (m + 1) cp')) := by
  have hl := h.low
  have hB : Below cb W W' := ⟨hg.os, hg.tape, hg.output, hg.size, fun k hk => hg.block k (by omega) (fun e => by have := h.ob k e.symm; omega)⟩
  refine h.above (hB.trans ((Below.refl _ _).setCell (p := ⟨cb, 1, none⟩) (Nat.le_refl _) _)) ((box_set (h.boxed hg)).2.1 _) ?_
  exact own_grown ho (grownBy_setCell _ _ _ _) (by omega)
end
end Go.Proofs.Ytdibdcbihleflaa

/- The document's reading of a commit: the walk. -/
namespace Go.Proofs.Ytdibdcbihleflaa
open Go.RowKit

attribute [local go_sem] Oper.semAt_some

theorem kept1 {W W' : World} {B n : Nat} {v : Value} {xs : List Value} {t : TypeId} {z : Nat} (h : W.ownsRow B t z v n xs) (hB : Below W.heap.size W W') : W'.ownsRow B t z v n xs :=
  h.kept (row := none) ⟨hB.os, hB.tape, hB.output, hB.size, fun k hk _ => hB.block k hk⟩ (by cases v.ownBlock <;> simp)
theorem own_idsM {W : World} {B n : Nat} {v : Value} {l : List Int} (h : W.ownsRow B 39 1 v n (l.map (Value.int .u64))) : ∃ ad c, v = .slice ad n c ∧ Ids W ad n l := by
  have hn : l.length = n := by have := h.1; rw [List.length_map] at this; omega
  subst hn
  exact own_ids h
section
variable {w W W' : World} {q bk cb : Nat} {s : List UInt8} {f : Bool} {t : Int} {acc : List Int} {ad : Option Addr} {m cp : Nat} {au : ByteArray} {d : Int} {tx : ByteArray}
theorem CK.below (h : CK w q bk cb s f t acc ad m cp au d tx W) (hB : Below W.heap.size W W') : CK w q bk cb s f t acc ad m cp au d tx W' := by
  have := h.low
  exact h.above (hB.mono (by omega)) (h.box.kept hB) (kept1 h.row hB)
theorem ck_com (h : CK w q bk cb s f t acc ad m cp au (wrap64 d) tx W) (ht : 0 ≤ t ∧ t < 18446744073709551616) (hp : ∀ x ∈ acc, 0 ≤ x ∧ x < 18446744073709551616) (ha : au.size ≤ 40000) (hx : tx.size ≤ 40000) (hm : m ≤ 40000) : Com W t ad m cp acc au (wrap64 d) tx := by
  obtain ⟨ad', c', e, h1, h2⟩ := row_shape h.row
  cases e
  obtain ⟨ad', c', e, hI⟩ := own_idsM h.row
  cases e
  exact ⟨ht, hI, hp, ⟨h1, by omega, h2⟩, by unfold maxLen; omega, wrap64_fits d, by unfold maxLen; omega⟩
theorem ck_some (h : CK w q bk cb s f t acc ad m cp au d tx W) (hl : acc.length = m) (u0 u1 u2 u3 u4 : Value) : ComO (some (t, acc, au, d, tx)) (.returned (.tuple #[cmt t ad m cp au d tx, .bool true])) (((((W.setCell ⟨w.heap.size, 0, none⟩ u0).setCell ⟨w.heap.size, 1, none⟩ u1).setCell ⟨w.heap.size, 2, none⟩ u2).setCell ⟨w.heap.size, 3, none⟩ u3).setCell ⟨w.heap.size, 4, none⟩ u4) := by
  have h1 := h.hq
  have h2 := h.hqc
  have hr := own_grown (own_grown (own_grown (own_grown (own_grown h.row (grownBy_setCell _ w.heap.size 0 u0) (by omega)) (grownBy_setCell _ w.heap.size 1 u1) (by omega)) (grownBy_setCell _ w.heap.size 2 u2) (by omega)) (grownBy_setCell _ w.heap.size 3 u3) (by omega)) (grownBy_setCell _ w.heap.size 4 u4) (by omega)
  obtain ⟨ad', c', e, hI⟩ := own_idsM hr
  cases e
  subst hl
  exact ⟨ad, cp, rfl, hI⟩
end

theorem ck_new {w W0 w1 : World} {bk o p : Nat} {s : List UInt8} {f : Bool} {tv : Int} (hB : Below w.heap.size w W0) (hz : Box5 W0 w.heap.size (.int .u64 0) (.slice none 0 0) (.string ⟨#[]⟩) (.int .i64 0) (.string ⟨#[]⟩)) (hC : Cu w1 (w.heap.size + 1) bk o p s f) (hG : W0.grownBy w1 (some (w.heap.size + 1))) (hlt : bk < w.heap.size) :
    CK w (w.heap.size + 1) bk w1.heap.size s f tv [] none 0 0 ⟨#[]⟩ 0 ⟨#[]⟩ (w1.alloc (.cells #[.int .u64 tv, .slice none 0 0, .string ⟨#[]⟩, .int .i64 0, .string ⟨#[]⟩] 42)) := by
  have hq : w.heap.size + 1 < w1.heap.size := (Array.getElem?_eq_some_iff.1 hC.box).1
  have h1 : Below w1.heap.size w1 (w1.alloc (.cells #[.int .u64 tv, .slice none 0 0, .string ⟨#[]⟩, .int .i64 0, .string ⟨#[]⟩] 42)) := (Below.refl _ _).alloc (Nat.le_refl _) _
  have hB1 := below_of_gr hB hG (by omega)
  refine ⟨⟨o, p, hC.kept h1⟩, hB1.trans (h1.mono hB1.size), ?_, Box5.new _ _ _ _ _ _, World.ownsRow_nil _ _ _ _, by simp, rfl, hq, hlt⟩
  have hz1 : Box5 w1 w.heap.size (.int .u64 0) (.slice none 0 0) (.string ⟨#[]⟩) (.int .i64 0) (.string ⟨#[]⟩) := (hG.block _ hz.lt (by simp)).trans hz
  exact hz1.kept h1

set_option maxRecDepth 50000 in
set_option maxHeartbeats 8000000 in
theorem asCommit_main (bk off0 n c : Nat) (l : List UInt8) (w : World) (hb : Bytes w (some ⟨bk, off0, none⟩) n l) (hn : 1 ≤ n) (hnc : n ≤ c) (hc1 : c ≠ 1) (hh : l.head? = some 99) (hlt : bk < w.heap.size) (hsm : n ≤ 40000) :
    Calls Try.prog 28 #[.slice (some ⟨bk, off0, none⟩) n c] w fun x w' => ComO (comC l) x w' ∧ Below w.heap.size w w' := by
  have hln := hb.1
  obtain ⟨t, rfl⟩ : ∃ t, l = 99 :: t := by
    cases l with
    | nil => simp at hh
    | cons x t => simp at hh; subst hh; exact ⟨t, rfl⟩
  obtain ⟨n', rfl⟩ : ∃ n', n = n' + 1 := ⟨n - 1, by omega⟩
  have htn : t.length = n' := by simpa using hln
  have c0 : (w.alloc (.cells #[.int .u64 0, .slice none 0 0, .string ⟨#[]⟩, .int .i64 0, .string ⟨#[]⟩] 42)).cell? ⟨bk, off0, none⟩ = some (.int .u8 99) := by
    have := head_cell hb rfl
    exact (World.cell?_of_block (Below.heap_alloc _ _ _ hlt)).trans this
  have hBz : Below w.heap.size w ((w.alloc (.cells #[.int .u64 0, .slice none 0 0, .string ⟨#[]⟩, .int .i64 0, .string ⟨#[]⟩] 42)).alloc (.cells #[.slice (some ⟨bk, off0 + 1, none⟩) n' (c - 1), .bool false] 89)) := ((Below.refl _ _).alloc (Nat.le_refl _) _).alloc (by simp) _
  have HC0 : Hid (Cu ((w.alloc (.cells #[.int .u64 0, .slice none 0 0, .string ⟨#[]⟩, .int .i64 0, .string ⟨#[]⟩] 42)).alloc (.cells #[.slice (some ⟨bk, off0 + 1, none⟩) n' (c - 1), .bool false] 89)) (w.heap.size + 1) bk (off0 + 1) (c - 1) t false) := by
    have hx := World.alloc_heap_new (w.alloc (.cells #[.int .u64 0, .slice none 0 0, .string ⟨#[]⟩, .int .i64 0, .string ⟨#[]⟩] 42)) (.cells #[.slice (some ⟨bk, off0 + 1, none⟩) n' (c - 1), .bool false] 89)
    rw [World.size_alloc] at hx
    refine ⟨by rw [htn]; exact hx, ⟨rfl, fun h0 => ?_⟩, by omega, by omega, by simp; omega⟩
    obtain ⟨b, o, e, hc⟩ := hb.2 (by omega)
    cases e
    refine ⟨bk, off0 + 1, rfl, fun i hi => ?_⟩
    have h1 := hc (i + 1) (by omega)
    rw [bt_cons] at h1
    rw [← h1, show off0 + 1 + i = off0 + (i + 1) by omega]
    exact World.cell?_of_block (hBz.block _ hlt)
  have hw0 := word_c _ (w.heap.size + 1) bk _ _ t false HC0.out
  obtain ⟨RES, hRES⟩ : ∃ RES, RES = parsC (numC (wordC t false).2.1 (wordC t false).2.2).1.toNat (numC (wordC t false).2.1 (wordC t false).2.2).2.1 (numC (wordC t false).2.1 (wordC t false).2.2).2.2 [] := ⟨_, rfl⟩
  obtain ⟨⟨tv, s1, f1⟩, hW1⟩ : ∃ y, y = wordC t false := ⟨_, rfl⟩
  have htf := wordC_fits t false
  have hfin : comC0 t = ((tv, RES.1, (textC RES.2.1 RES.2.2).1, wrap64 (wordC (textC RES.2.1 RES.2.2).2.1 (textC RES.2.1 RES.2.2).2.2).1, (textC (wordC (textC RES.2.1 RES.2.2).2.1 (textC RES.2.1 RES.2.2).2.2).2.1 (wordC (textC RES.2.1 RES.2.2).2.1 (textC RES.2.1 RES.2.2).2.2).2.2).1), (textC (wordC (textC RES.2.1 RES.2.2).2.1 (textC RES.2.1 RES.2.2).2.2).2.1 (wordC (textC RES.2.1 RES.2.2).2.1 (textC RES.2.1 RES.2.2).2.2).2.2).2.1, (textC (wordC (textC RES.2.1 RES.2.2).2.1 (textC RES.2.1 RES.2.2).2.2).2.1 (wordC (textC RES.2.1 RES.2.2).2.1 (textC RES.2.1 RES.2.2).2.2).2.2).2.2) := by unfold comC0; rw [hRES, ← hW1]
  rw [← hW1] at hw0 hRES htf
  simp only at hw0 hRES htf
  obtain ⟨⟨uv, s2, f2⟩, hU1⟩ : ∃ y, y = numC s1 f1 := ⟨_, rfl⟩
  have hnf := numC_fits s1 f1
  rw [← hU1] at hRES hnf
  simp only at hRES hnf
  have HU : Hid (∀ W o p, Cu W (w.heap.size + 1) bk o p s1 f1 → Calls Try.prog 53 #[.pointer (some ⟨w.heap.size + 1, 0, none⟩)] W fun e w' => e = .returned (.int .i64 uv) ∧ (∃ off' cp', Cu w' (w.heap.size + 1) bk off' cp' s2 f2) ∧ W.grownBy w' (some (w.heap.size + 1))) := fun W o p h => by have := number_c W (w.heap.size + 1) bk o p s1 f1 h; rw [← hU1] at this; exact this
  obtain ⟨N, rfl⟩ := Int.eq_ofNat_of_zero_le hnf.1
  simp only [Int.toNat_natCast] at hRES
  have HR : Hid (RES = parsC N s2 f2 []) := hRES
  have HFIN : Hid (comC0 t = ((tv, RES.1, (textC RES.2.1 RES.2.2).1, wrap64 (wordC (textC RES.2.1 RES.2.2).2.1 (textC RES.2.1 RES.2.2).2.2).1, (textC (wordC (textC RES.2.1 RES.2.2).2.1 (textC RES.2.1 RES.2.2).2.2).2.1 (wordC (textC RES.2.1 RES.2.2).2.1 (textC RES.2.1 RES.2.2).2.2).2.2).1), (textC (wordC (textC RES.2.1 RES.2.2).2.1 (textC RES.2.1 RES.2.2).2.2).2.1 (wordC (textC RES.2.1 RES.2.2).2.1 (textC RES.2.1 RES.2.2).2.2).2.2).2.1, (textC (wordC (textC RES.2.1 RES.2.2).2.1 (textC RES.2.1 RES.2.2).2.2).2.1 (wordC (textC RES.2.1 RES.2.2).2.1 (textC RES.2.1 RES.2.2).2.2).2.2).2.2)) := hfin
  obtain ⟨D, hDD⟩ : ∃ D, D = comC (99 :: t) := ⟨_, rfl⟩
  rw [← hDD]
  have HD : Hid (D = if (comC0 t).2.2 = true ∨ (comC0 t).2.1 ≠ [] ∨ comErr (comC0 t).1.1 (comC0 t).1.2.1 (comC0 t).1.2.2.1 (comC0 t).1.2.2.2.2 ≠ 0 then none else some (comC0 t).1) := hDD
  have i1 : (1 : Int) ≤ (n' : Int) + 1 := by omega
  have i2 : ¬ (n' : Int) + 1 = 0 := by omega
  have hNle : N ≤ 40000 := by omega
  have HT : Hid (0 ≤ tv ∧ tv < 18446744073709551616) := htf
  have HBZ : Hid (Below w.heap.size w ((w.alloc (.cells #[.int .u64 0, .slice none 0 0, .string ⟨#[]⟩, .int .i64 0, .string ⟨#[]⟩] 42)).alloc (.cells #[.slice (some ⟨bk, off0 + 1, none⟩) n' (c - 1), .bool false] 89)) ∧ Box5 ((w.alloc (.cells #[.int .u64 0, .slice none 0 0, .string ⟨#[]⟩, .int .i64 0, .string ⟨#[]⟩] 42)).alloc (.cells #[.slice (some ⟨bk, off0 + 1, none⟩) n' (c - 1), .bool false] 89)) w.heap.size (.int .u64 0) (.slice none 0 0) (.string ⟨#[]⟩) (.int .i64 0) (.string ⟨#[]⟩)) := ⟨hBz, (Box5.new w (.int .u64 0) (.slice none 0 0) (.string ⟨#[]⟩) (.int .i64 0) (.string ⟨#[]⟩)).kept ((Below.refl _ _).alloc (Nat.le_refl _) _)⟩
  clear hRES hfin hU1 hW1 hDD hb hh hln htn hBz htf hnf
  go_enter Try.func28, Try.ntmps28
  go_wp2_with first
    | (go_at_call 56; refine hw0.mono ?_; clear hw0; rintro e w1 ⟨rfl, ⟨o1, p1, hC1⟩, hG1⟩; have K1 : Hid (CK w (w.heap.size + 1) bk w1.heap.size s1 f1 tv [] none 0 0 ⟨#[]⟩ 0 ⟨#[]⟩ (w1.alloc (.cells #[.int .u64 tv, .slice none 0 0, .string ⟨#[]⟩, .int .i64 0, .string ⟨#[]⟩] 42))) := ck_new HBZ.out.1 HBZ.out.2 hC1 hG1 hlt; obtain ⟨o2, p2, hC2⟩ := K1.out.cu; clear hC1 hG1 HBZ HC0)
    | (go_at_call 53; refine (HU.out _ _ _ hC2).mono ?_; clear HU; rintro e w2 ⟨rfl, hC3, hG3⟩; have K2 : Hid (CK w (w.heap.size + 1) bk w1.heap.size s2 f2 tv [] none 0 0 ⟨#[]⟩ 0 ⟨#[]⟩ w2) := K1.out.grown hG3 hC3; clear hC3 hG3 K1 hC2)
  go_loopw [6] (fun i wr => ∃ (k : Nat) (s : List UInt8) (f : Bool) (acc : List Int) (ad : Option Addr) (m cp : Nat), m + k ≤ 40000 ∧ i = .int .i64 (k : Int) ∧ Hid (CK w (w.heap.size + 1) bk w1.heap.size s f tv acc ad m cp ⟨#[]⟩ 0 ⟨#[]⟩ wr ∧ RES = parsC k s f acc ∧ ∀ x ∈ acc, 0 ≤ x ∧ x < 18446744073709551616)) (fun i _ => (intOf i).toNat)
  case atStart => exact ⟨N, s2, f2, [], none, 0, 0, by omega, rfl, K2.out, HR.out, fun x hx => by simp at hx⟩
  case round =>
    clear K2 HR hNle
    obtain ⟨k, s, f, acc, ad, m, cp, hmk, rfl, H⟩ := hrel
    obtain ⟨o, p, hC⟩ := H.out.1.cu
    obtain ⟨q0, q1, q2, q3⟩ := hC.cell
    have HPB : Hid (∀ x ∈ acc, 0 ≤ x ∧ x < 18446744073709551616) := H.out.2.2
    cases k with
    | zero =>
      have HRS : Hid (RES = (acc, s, f)) := (by rw [H.out.2.1]; rfl : RES = (acc, s, f))
      have hA := text_c wr (w.heap.size + 1) bk o p s f hC
      obtain ⟨⟨av, s4, f4⟩, hAA⟩ : ∃ y, y = textC s f := ⟨_, rfl⟩
      rw [← hAA] at hA
      simp only at hA
      obtain ⟨⟨dv, s5, f5⟩, hDD⟩ : ∃ y, y = wordC s4 f4 := ⟨_, rfl⟩
      obtain ⟨⟨xv, s6, f6⟩, hXX⟩ : ∃ y, y = textC s5 f5 := ⟨_, rfl⟩
      have hcc : comC0 t = ((tv, acc, av, wrap64 dv, xv), s6, f6) := by rw [HFIN.out, HRS.out]; simp only; rw [← hAA]; simp only; rw [← hDD]; simp only; rw [← hXX]
      have hdd := HD.out
      rw [hcc] at hdd
      simp only at hdd
      have HDX : Hid (D = if f6 = true ∨ s6 ≠ [] ∨ comErr tv acc av xv ≠ 0 then none else some (tv, acc, av, wrap64 dv, xv)) := hdd
      have HW4 : Hid (∀ W o p, Cu W (w.heap.size + 1) bk o p s4 f4 → Calls Try.prog 56 #[.pointer (some ⟨w.heap.size + 1, 0, none⟩)] W fun e w' => e = .returned (.int .u64 dv) ∧ (∃ off' cp', Cu w' (w.heap.size + 1) bk off' cp' s5 f5) ∧ W.grownBy w' (some (w.heap.size + 1))) := fun W o p h => by have := word_c W (w.heap.size + 1) bk o p s4 f4 h; rw [← hDD] at this; exact this
      have HX5 : Hid (∀ W o p, Cu W (w.heap.size + 1) bk o p s5 f5 → Calls Try.prog 54 #[.pointer (some ⟨w.heap.size + 1, 0, none⟩)] W fun e w' => e = .returned (.string xv) ∧ (∃ off' cp', Cu w' (w.heap.size + 1) bk off' cp' s6 f6) ∧ W.grownBy w' (some (w.heap.size + 1))) := fun W o p h => by have := text_c W (w.heap.size + 1) bk o p s5 f5 h; rw [← hXX] at this; exact this
      have HSZ : Hid (av.size ≤ 40000 ∧ xv.size ≤ 40000) := ⟨by have := textC_size s f; rw [← hAA] at this; exact this, by have := textC_size s5 f5; rw [← hXX] at this; exact this⟩
      have C1 : Hid (CK w (w.heap.size + 1) bk w1.heap.size s f tv acc ad m cp ⟨#[]⟩ 0 ⟨#[]⟩ wr) := H.out.1
      clear hAA hDD hXX hcc hdd H hC HFIN HRS HD
      by_cases hf6 : f6 = true
      · subst hf6
        have hdn : D = none := by rw [HDX.out, if_pos (.inl rfl)]
        clear HDX
        go_wp2_with first
          | (go_at_call 54; refine hA.mono ?_; clear hA; rintro e w4 ⟨rfl, hC4, hG4⟩; have C4 : Hid (CK w (w.heap.size + 1) bk w1.heap.size s4 f4 tv acc ad m cp ⟨#[]⟩ 0 ⟨#[]⟩ w4) := C1.out.grown hG4 hC4; have c4 := C4.out.box.cell.2.2.1; have g4 := C4.out.box.frozen.2.2.1; have C5 : Hid (CK w (w.heap.size + 1) bk w1.heap.size s4 f4 tv acc ad m cp av 0 ⟨#[]⟩ (w4.setCell ⟨w1.heap.size, 2, none⟩ (.string av))) := C4.out.set 2 _ ((box_set C4.out.box).2.2.1 _); obtain ⟨o5, p5, hC5⟩ := C5.out.cu; clear C1 hC4 hG4 C4)
          | (go_at_call 56; refine (HW4.out _ _ _ hC5).mono ?_; clear HW4; rintro e w5 ⟨rfl, hC6, hG6⟩; have C6 : Hid (CK w (w.heap.size + 1) bk w1.heap.size s5 f5 tv acc ad m cp av 0 ⟨#[]⟩ w5) := C5.out.grown hG6 hC6; have c6 := C6.out.box.cell.2.2.2.1; have g6 := C6.out.box.frozen.2.2.2.1; have C7 : Hid (CK w (w.heap.size + 1) bk w1.heap.size s5 f5 tv acc ad m cp av (wrap64 dv) ⟨#[]⟩ (w5.setCell ⟨w1.heap.size, 3, none⟩ (.int .i64 (wrap64 dv)))) := C6.out.set 3 _ ((box_set C6.out.box).2.2.2.1 _); obtain ⟨o7, p7, hC7⟩ := C7.out.cu; clear C5 hC5 hC6 hG6 C6 c4 g4)
          | (go_at_call 54; refine (HX5.out _ _ _ hC7).mono ?_; clear HX5; rintro e w6 ⟨rfl, hC8, hG8⟩; have C8 : Hid (CK w (w.heap.size + 1) bk w1.heap.size s6 true tv acc ad m cp av (wrap64 dv) ⟨#[]⟩ w6) := C7.out.grown hG8 hC8; have c8 := C8.out.box.cell.2.2.2.2; have g8 := C8.out.box.frozen.2.2.2.2; have C9 : Hid (CK w (w.heap.size + 1) bk w1.heap.size s6 true tv acc ad m cp av (wrap64 dv) xv (w6.setCell ⟨w1.heap.size, 4, none⟩ (.string xv))) := C8.out.set 4 _ ((box_set C8.out.box).2.2.2.2 _); obtain ⟨o9, p9, hC9⟩ := C9.out.cu; obtain ⟨r0, r1, r2, r3⟩ := hC9.cell; obtain ⟨z0, z1, z2, z3, z4⟩ := C9.out.box.cell; obtain ⟨x0, x1, x2, x3, x4⟩ := C9.out.rb.cell; obtain ⟨v0, v1, v2, v3, v4⟩ := C9.out.rb.frozen; clear C7 hC7 hC8 hG8 C8 c6 g6)
        obtain ⟨y0, y1, y2, y3, y4⟩ := (C9.out.rb.all (.int .u64 0) (.slice none 0 0) (.string ⟨#[]⟩) (.int .i64 0) (.string ⟨#[]⟩)).cell
        refine bodyPost_ret (v := .tuple #[cmt 0 none 0 0 ⟨#[]⟩ 0 ⟨#[]⟩, .bool false]) (by simp [results, Try.results28, go_sem, y0, y1, y2, y3, y4]) rfl ⟨?_, below5 C9.out.bel (Nat.le_refl _) _ _ _ _ _⟩
        rw [hdn]
        rfl
      · have hf7 : f6 = false := by cases f6 with | true => exact absurd rfl hf6 | false => rfl
        subst hf7
        by_cases hs6 : s6 = []
        · subst hs6
          have HCK : Hid (∀ W, CK w (w.heap.size + 1) bk w1.heap.size [] false tv acc ad m cp av (wrap64 dv) xv W → Calls Try.prog 47 #[cmt tv ad m cp av (wrap64 dv) xv] W fun e w' => e = .returned (.int .i64 (comErr tv acc av xv)) ∧ Below W.heap.size W w') := fun W h => refCheckCom_any tv ad m cp acc av (wrap64 dv) xv W (ck_com h HT.out HPB.out HSZ.out.1 HSZ.out.2 (by omega))
          obtain ⟨E, hE⟩ : ∃ E, E = comErr tv acc av xv := ⟨_, rfl⟩
          rw [← hE] at HCK HDX
          have hlen : acc.length = m := by have := C1.out.row.1; rw [List.length_map] at this; omega
          have HLN : Hid (acc.length = m) := hlen
          clear hE hlen
          by_cases hE0 : E = 0
          · subst hE0
            have hdn : D = some (tv, acc, av, wrap64 dv, xv) := by rw [HDX.out, if_neg (by simp)]
            clear HDX
            go_wp2_with first
              | (go_at_call 54; refine hA.mono ?_; clear hA; rintro e w4 ⟨rfl, hC4, hG4⟩; have C4 : Hid (CK w (w.heap.size + 1) bk w1.heap.size s4 f4 tv acc ad m cp ⟨#[]⟩ 0 ⟨#[]⟩ w4) := C1.out.grown hG4 hC4; have c4 := C4.out.box.cell.2.2.1; have g4 := C4.out.box.frozen.2.2.1; have C5 : Hid (CK w (w.heap.size + 1) bk w1.heap.size s4 f4 tv acc ad m cp av 0 ⟨#[]⟩ (w4.setCell ⟨w1.heap.size, 2, none⟩ (.string av))) := C4.out.set 2 _ ((box_set C4.out.box).2.2.1 _); obtain ⟨o5, p5, hC5⟩ := C5.out.cu; clear C1 hC4 hG4 C4)
              | (go_at_call 56; refine (HW4.out _ _ _ hC5).mono ?_; clear HW4; rintro e w5 ⟨rfl, hC6, hG6⟩; have C6 : Hid (CK w (w.heap.size + 1) bk w1.heap.size s5 f5 tv acc ad m cp av 0 ⟨#[]⟩ w5) := C5.out.grown hG6 hC6; have c6 := C6.out.box.cell.2.2.2.1; have g6 := C6.out.box.frozen.2.2.2.1; have C7 : Hid (CK w (w.heap.size + 1) bk w1.heap.size s5 f5 tv acc ad m cp av (wrap64 dv) ⟨#[]⟩ (w5.setCell ⟨w1.heap.size, 3, none⟩ (.int .i64 (wrap64 dv)))) := C6.out.set 3 _ ((box_set C6.out.box).2.2.2.1 _); obtain ⟨o7, p7, hC7⟩ := C7.out.cu; clear C5 hC5 hC6 hG6 C6 c4 g4)
              | (go_at_call 54; refine (HX5.out _ _ _ hC7).mono ?_; clear HX5; rintro e w6 ⟨rfl, hC8, hG8⟩; have C8 : Hid (CK w (w.heap.size + 1) bk w1.heap.size [] false tv acc ad m cp av (wrap64 dv) ⟨#[]⟩ w6) := C7.out.grown hG8 hC8; have c8 := C8.out.box.cell.2.2.2.2; have g8 := C8.out.box.frozen.2.2.2.2; have C9 : Hid (CK w (w.heap.size + 1) bk w1.heap.size [] false tv acc ad m cp av (wrap64 dv) xv (w6.setCell ⟨w1.heap.size, 4, none⟩ (.string xv))) := C8.out.set 4 _ ((box_set C8.out.box).2.2.2.2 _); obtain ⟨o9, p9, hC9⟩ := C9.out.cu; obtain ⟨r0, r1, r2, r3⟩ := hC9.cell; obtain ⟨z0, z1, z2, z3, z4⟩ := C9.out.box.cell; clear C7 hC7 hC8 hG8 C8 c6 g6)
              | (go_at_call 47; refine (HCK.out _ C9.out).mono ?_; clear HCK; rintro e w9 ⟨rfl, hB9⟩; have C10 : Hid (CK w (w.heap.size + 1) bk w1.heap.size [] false tv acc ad m cp av (wrap64 dv) xv w9) := C9.out.below hB9; obtain ⟨x0, x1, x2, x3, x4⟩ := C10.out.rb.cell; obtain ⟨v0, v1, v2, v3, v4⟩ := C10.out.rb.frozen; obtain ⟨y5, y6, y7, y8, y9⟩ := C10.out.box.cell; clear C9 hB9)
            obtain ⟨y0, y1, y2, y3, y4⟩ := (C10.out.rb.all (.int .u64 tv) (.slice ad m cp) (.string av) (.int .i64 (wrap64 dv)) (.string xv)).cell
            refine bodyPost_ret (v := .tuple #[cmt tv ad m cp av (wrap64 dv) xv, .bool true]) (by simp [results, Try.results28, go_sem, y0, y1, y2, y3, y4]) rfl ⟨?_, below5 C10.out.bel (Nat.le_refl _) _ _ _ _ _⟩
            rw [hdn]
            exact ck_some C10.out HLN.out _ _ _ _ _
          · have e1 : (E == 0) = false := by simp [hE0]
            have e2 : (E != 0) = true := by simp [hE0]
            have hdn : D = none := by rw [HDX.out, if_pos (.inr (.inr hE0))]
            clear HDX
            go_wp2_with first
              | (go_at_call 54; refine hA.mono ?_; clear hA; rintro e w4 ⟨rfl, hC4, hG4⟩; have C4 : Hid (CK w (w.heap.size + 1) bk w1.heap.size s4 f4 tv acc ad m cp ⟨#[]⟩ 0 ⟨#[]⟩ w4) := C1.out.grown hG4 hC4; have c4 := C4.out.box.cell.2.2.1; have g4 := C4.out.box.frozen.2.2.1; have C5 : Hid (CK w (w.heap.size + 1) bk w1.heap.size s4 f4 tv acc ad m cp av 0 ⟨#[]⟩ (w4.setCell ⟨w1.heap.size, 2, none⟩ (.string av))) := C4.out.set 2 _ ((box_set C4.out.box).2.2.1 _); obtain ⟨o5, p5, hC5⟩ := C5.out.cu; clear C1 hC4 hG4 C4)
              | (go_at_call 56; refine (HW4.out _ _ _ hC5).mono ?_; clear HW4; rintro e w5 ⟨rfl, hC6, hG6⟩; have C6 : Hid (CK w (w.heap.size + 1) bk w1.heap.size s5 f5 tv acc ad m cp av 0 ⟨#[]⟩ w5) := C5.out.grown hG6 hC6; have c6 := C6.out.box.cell.2.2.2.1; have g6 := C6.out.box.frozen.2.2.2.1; have C7 : Hid (CK w (w.heap.size + 1) bk w1.heap.size s5 f5 tv acc ad m cp av (wrap64 dv) ⟨#[]⟩ (w5.setCell ⟨w1.heap.size, 3, none⟩ (.int .i64 (wrap64 dv)))) := C6.out.set 3 _ ((box_set C6.out.box).2.2.2.1 _); obtain ⟨o7, p7, hC7⟩ := C7.out.cu; clear C5 hC5 hC6 hG6 C6 c4 g4)
              | (go_at_call 54; refine (HX5.out _ _ _ hC7).mono ?_; clear HX5; rintro e w6 ⟨rfl, hC8, hG8⟩; have C8 : Hid (CK w (w.heap.size + 1) bk w1.heap.size [] false tv acc ad m cp av (wrap64 dv) ⟨#[]⟩ w6) := C7.out.grown hG8 hC8; have c8 := C8.out.box.cell.2.2.2.2; have g8 := C8.out.box.frozen.2.2.2.2; have C9 : Hid (CK w (w.heap.size + 1) bk w1.heap.size [] false tv acc ad m cp av (wrap64 dv) xv (w6.setCell ⟨w1.heap.size, 4, none⟩ (.string xv))) := C8.out.set 4 _ ((box_set C8.out.box).2.2.2.2 _); obtain ⟨o9, p9, hC9⟩ := C9.out.cu; obtain ⟨r0, r1, r2, r3⟩ := hC9.cell; obtain ⟨z0, z1, z2, z3, z4⟩ := C9.out.box.cell; clear C7 hC7 hC8 hG8 C8 c6 g6)
              | (go_at_call 47; refine (HCK.out _ C9.out).mono ?_; clear HCK; rintro e w9 ⟨rfl, hB9⟩; have C10 : Hid (CK w (w.heap.size + 1) bk w1.heap.size [] false tv acc ad m cp av (wrap64 dv) xv w9) := C9.out.below hB9; obtain ⟨x0, x1, x2, x3, x4⟩ := C10.out.rb.cell; obtain ⟨v0, v1, v2, v3, v4⟩ := C10.out.rb.frozen; obtain ⟨y5, y6, y7, y8, y9⟩ := C10.out.box.cell; clear C9 hB9)
            obtain ⟨y0, y1, y2, y3, y4⟩ := (C10.out.rb.all (.int .u64 0) (.slice none 0 0) (.string ⟨#[]⟩) (.int .i64 0) (.string ⟨#[]⟩)).cell
            refine bodyPost_ret (v := .tuple #[cmt 0 none 0 0 ⟨#[]⟩ 0 ⟨#[]⟩, .bool false]) (by simp [results, Try.results28, go_sem, y0, y1, y2, y3, y4]) rfl ⟨?_, below5 C10.out.bel (Nat.le_refl _) _ _ _ _ _⟩
            rw [hdn]
            rfl
        · obtain ⟨sl, hsl⟩ : ∃ sl, s6.length = sl + 1 := by
            cases s6 with
            | nil => exact absurd rfl hs6
            | cons x t => exact ⟨t.length, rfl⟩
          have hdn : D = none := by rw [HDX.out, if_pos (.inr (.inl hs6))]
          clear HDX
          go_wp2_with first
            | (go_at_call 54; refine hA.mono ?_; clear hA; rintro e w4 ⟨rfl, hC4, hG4⟩; have C4 : Hid (CK w (w.heap.size + 1) bk w1.heap.size s4 f4 tv acc ad m cp ⟨#[]⟩ 0 ⟨#[]⟩ w4) := C1.out.grown hG4 hC4; have c4 := C4.out.box.cell.2.2.1; have g4 := C4.out.box.frozen.2.2.1; have C5 : Hid (CK w (w.heap.size + 1) bk w1.heap.size s4 f4 tv acc ad m cp av 0 ⟨#[]⟩ (w4.setCell ⟨w1.heap.size, 2, none⟩ (.string av))) := C4.out.set 2 _ ((box_set C4.out.box).2.2.1 _); obtain ⟨o5, p5, hC5⟩ := C5.out.cu; clear C1 hC4 hG4 C4)
            | (go_at_call 56; refine (HW4.out _ _ _ hC5).mono ?_; clear HW4; rintro e w5 ⟨rfl, hC6, hG6⟩; have C6 : Hid (CK w (w.heap.size + 1) bk w1.heap.size s5 f5 tv acc ad m cp av 0 ⟨#[]⟩ w5) := C5.out.grown hG6 hC6; have c6 := C6.out.box.cell.2.2.2.1; have g6 := C6.out.box.frozen.2.2.2.1; have C7 : Hid (CK w (w.heap.size + 1) bk w1.heap.size s5 f5 tv acc ad m cp av (wrap64 dv) ⟨#[]⟩ (w5.setCell ⟨w1.heap.size, 3, none⟩ (.int .i64 (wrap64 dv)))) := C6.out.set 3 _ ((box_set C6.out.box).2.2.2.1 _); obtain ⟨o7, p7, hC7⟩ := C7.out.cu; clear C5 hC5 hC6 hG6 C6 c4 g4)
            | (go_at_call 54; refine (HX5.out _ _ _ hC7).mono ?_; clear HX5; rintro e w6 ⟨rfl, hC8, hG8⟩; have C8 : Hid (CK w (w.heap.size + 1) bk w1.heap.size s6 false tv acc ad m cp av (wrap64 dv) ⟨#[]⟩ w6) := C7.out.grown hG8 hC8; have c8 := C8.out.box.cell.2.2.2.2; have g8 := C8.out.box.frozen.2.2.2.2; have C9 : Hid (CK w (w.heap.size + 1) bk w1.heap.size s6 false tv acc ad m cp av (wrap64 dv) xv (w6.setCell ⟨w1.heap.size, 4, none⟩ (.string xv))) := C8.out.set 4 _ ((box_set C8.out.box).2.2.2.2 _); obtain ⟨o9, p9, hC9⟩ := C9.out.cu; obtain ⟨r0, r1, r2, r3⟩ := hC9.cell; rw [hsl] at r0; obtain ⟨x0, x1, x2, x3, x4⟩ := C9.out.rb.cell; obtain ⟨v0, v1, v2, v3, v4⟩ := C9.out.rb.frozen; clear C7 hC7 hC8 hG8 C8 c6 g6)
          obtain ⟨y0, y1, y2, y3, y4⟩ := (C9.out.rb.all (.int .u64 0) (.slice none 0 0) (.string ⟨#[]⟩) (.int .i64 0) (.string ⟨#[]⟩)).cell
          refine bodyPost_ret (v := .tuple #[cmt 0 none 0 0 ⟨#[]⟩ 0 ⟨#[]⟩, .bool false]) (by simp [results, Try.results28, go_sem, y0, y1, y2, y3, y4]) rfl ⟨?_, below5 C9.out.bel (Nat.le_refl _) _ _ _ _ _⟩
          rw [hdn]
          rfl
    | succ k =>
      have j1 : (0 : Int) < ((k + 1 : Nat) : Int) := by omega
      have j2 : ((k + 1 : Nat) : Int) - 1 = (k : Int) := by omega
      cases f with
      | true =>
        have HRS : Hid (RES = (acc, s, true)) := (by rw [H.out.2.1]; simp [parsC] : RES = (acc, s, true))
        have hA := text_c wr (w.heap.size + 1) bk o p s true hC
        obtain ⟨⟨av, s4, f4⟩, hAA⟩ : ∃ y, y = textC s true := ⟨_, rfl⟩
        rw [← hAA] at hA
        simp only at hA
        obtain ⟨⟨dv, s5, f5⟩, hDD⟩ : ∃ y, y = wordC s4 f4 := ⟨_, rfl⟩
        obtain ⟨⟨xv, s6, f6⟩, hXX⟩ : ∃ y, y = textC s5 f5 := ⟨_, rfl⟩
        have hcc : comC0 t = ((tv, acc, av, wrap64 dv, xv), s6, f6) := by rw [HFIN.out, HRS.out]; simp only; rw [← hAA]; simp only; rw [← hDD]; simp only; rw [← hXX]
        have hdd := HD.out
        rw [hcc] at hdd
        simp only at hdd
        have HDX : Hid (D = if f6 = true ∨ s6 ≠ [] ∨ comErr tv acc av xv ≠ 0 then none else some (tv, acc, av, wrap64 dv, xv)) := hdd
        have HW4 : Hid (∀ W o p, Cu W (w.heap.size + 1) bk o p s4 f4 → Calls Try.prog 56 #[.pointer (some ⟨w.heap.size + 1, 0, none⟩)] W fun e w' => e = .returned (.int .u64 dv) ∧ (∃ off' cp', Cu w' (w.heap.size + 1) bk off' cp' s5 f5) ∧ W.grownBy w' (some (w.heap.size + 1))) := fun W o p h => by have := word_c W (w.heap.size + 1) bk o p s4 f4 h; rw [← hDD] at this; exact this
        have HX5 : Hid (∀ W o p, Cu W (w.heap.size + 1) bk o p s5 f5 → Calls Try.prog 54 #[.pointer (some ⟨w.heap.size + 1, 0, none⟩)] W fun e w' => e = .returned (.string xv) ∧ (∃ off' cp', Cu w' (w.heap.size + 1) bk off' cp' s6 f6) ∧ W.grownBy w' (some (w.heap.size + 1))) := fun W o p h => by have := text_c W (w.heap.size + 1) bk o p s5 f5 h; rw [← hXX] at this; exact this
        have HSZ : Hid (av.size ≤ 40000 ∧ xv.size ≤ 40000) := ⟨by have := textC_size s true; rw [← hAA] at this; exact this, by have := textC_size s5 f5; rw [← hXX] at this; exact this⟩
        have C1 : Hid (CK w (w.heap.size + 1) bk w1.heap.size s true tv acc ad m cp ⟨#[]⟩ 0 ⟨#[]⟩ wr) := H.out.1
        clear hAA hDD hXX hcc hdd H hC HFIN HRS HD
        by_cases hf6 : f6 = true
        · subst hf6
          have hdn : D = none := by rw [HDX.out, if_pos (.inl rfl)]
          clear HDX
          go_wp2_with first
            | (go_at_call 54; refine hA.mono ?_; clear hA; rintro e w4 ⟨rfl, hC4, hG4⟩; have C4 : Hid (CK w (w.heap.size + 1) bk w1.heap.size s4 f4 tv acc ad m cp ⟨#[]⟩ 0 ⟨#[]⟩ w4) := C1.out.grown hG4 hC4; have c4 := C4.out.box.cell.2.2.1; have g4 := C4.out.box.frozen.2.2.1; have C5 : Hid (CK w (w.heap.size + 1) bk w1.heap.size s4 f4 tv acc ad m cp av 0 ⟨#[]⟩ (w4.setCell ⟨w1.heap.size, 2, none⟩ (.string av))) := C4.out.set 2 _ ((box_set C4.out.box).2.2.1 _); obtain ⟨o5, p5, hC5⟩ := C5.out.cu; clear C1 hC4 hG4 C4)
            | (go_at_call 56; refine (HW4.out _ _ _ hC5).mono ?_; clear HW4; rintro e w5 ⟨rfl, hC6, hG6⟩; have C6 : Hid (CK w (w.heap.size + 1) bk w1.heap.size s5 f5 tv acc ad m cp av 0 ⟨#[]⟩ w5) := C5.out.grown hG6 hC6; have c6 := C6.out.box.cell.2.2.2.1; have g6 := C6.out.box.frozen.2.2.2.1; have C7 : Hid (CK w (w.heap.size + 1) bk w1.heap.size s5 f5 tv acc ad m cp av (wrap64 dv) ⟨#[]⟩ (w5.setCell ⟨w1.heap.size, 3, none⟩ (.int .i64 (wrap64 dv)))) := C6.out.set 3 _ ((box_set C6.out.box).2.2.2.1 _); obtain ⟨o7, p7, hC7⟩ := C7.out.cu; clear C5 hC5 hC6 hG6 C6 c4 g4)
            | (go_at_call 54; refine (HX5.out _ _ _ hC7).mono ?_; clear HX5; rintro e w6 ⟨rfl, hC8, hG8⟩; have C8 : Hid (CK w (w.heap.size + 1) bk w1.heap.size s6 true tv acc ad m cp av (wrap64 dv) ⟨#[]⟩ w6) := C7.out.grown hG8 hC8; have c8 := C8.out.box.cell.2.2.2.2; have g8 := C8.out.box.frozen.2.2.2.2; have C9 : Hid (CK w (w.heap.size + 1) bk w1.heap.size s6 true tv acc ad m cp av (wrap64 dv) xv (w6.setCell ⟨w1.heap.size, 4, none⟩ (.string xv))) := C8.out.set 4 _ ((box_set C8.out.box).2.2.2.2 _); obtain ⟨o9, p9, hC9⟩ := C9.out.cu; obtain ⟨r0, r1, r2, r3⟩ := hC9.cell; obtain ⟨z0, z1, z2, z3, z4⟩ := C9.out.box.cell; obtain ⟨x0, x1, x2, x3, x4⟩ := C9.out.rb.cell; obtain ⟨v0, v1, v2, v3, v4⟩ := C9.out.rb.frozen; clear C7 hC7 hC8 hG8 C8 c6 g6)
          obtain ⟨y0, y1, y2, y3, y4⟩ := (C9.out.rb.all (.int .u64 0) (.slice none 0 0) (.string ⟨#[]⟩) (.int .i64 0) (.string ⟨#[]⟩)).cell
          refine bodyPost_ret (v := .tuple #[cmt 0 none 0 0 ⟨#[]⟩ 0 ⟨#[]⟩, .bool false]) (by simp [results, Try.results28, go_sem, y0, y1, y2, y3, y4]) rfl ⟨?_, below5 C9.out.bel (Nat.le_refl _) _ _ _ _ _⟩
          rw [hdn]
          rfl
        · have hf7 : f6 = false := by cases f6 with | true => exact absurd rfl hf6 | false => rfl
          subst hf7
          by_cases hs6 : s6 = []
          · subst hs6
            have HCK : Hid (∀ W, CK w (w.heap.size + 1) bk w1.heap.size [] false tv acc ad m cp av (wrap64 dv) xv W → Calls Try.prog 47 #[cmt tv ad m cp av (wrap64 dv) xv] W fun e w' => e = .returned (.int .i64 (comErr tv acc av xv)) ∧ Below W.heap.size W w') := fun W h => refCheckCom_any tv ad m cp acc av (wrap64 dv) xv W (ck_com h HT.out HPB.out HSZ.out.1 HSZ.out.2 (by omega))
            obtain ⟨E, hE⟩ : ∃ E, E = comErr tv acc av xv := ⟨_, rfl⟩
            rw [← hE] at HCK HDX
            have hlen : acc.length = m := by have := C1.out.row.1; rw [List.length_map] at this; omega
            have HLN : Hid (acc.length = m) := hlen
            clear hE hlen
            by_cases hE0 : E = 0
            · subst hE0
              have hdn : D = some (tv, acc, av, wrap64 dv, xv) := by rw [HDX.out, if_neg (by simp)]
              clear HDX
              go_wp2_with first
                | (go_at_call 54; refine hA.mono ?_; clear hA; rintro e w4 ⟨rfl, hC4, hG4⟩; have C4 : Hid (CK w (w.heap.size + 1) bk w1.heap.size s4 f4 tv acc ad m cp ⟨#[]⟩ 0 ⟨#[]⟩ w4) := C1.out.grown hG4 hC4; have c4 := C4.out.box.cell.2.2.1; have g4 := C4.out.box.frozen.2.2.1; have C5 : Hid (CK w (w.heap.size + 1) bk w1.heap.size s4 f4 tv acc ad m cp av 0 ⟨#[]⟩ (w4.setCell ⟨w1.heap.size, 2, none⟩ (.string av))) := C4.out.set 2 _ ((box_set C4.out.box).2.2.1 _); obtain ⟨o5, p5, hC5⟩ := C5.out.cu; clear C1 hC4 hG4 C4)
                | (go_at_call 56; refine (HW4.out _ _ _ hC5).mono ?_; clear HW4; rintro e w5 ⟨rfl, hC6, hG6⟩; have C6 : Hid (CK w (w.heap.size + 1) bk w1.heap.size s5 f5 tv acc ad m cp av 0 ⟨#[]⟩ w5) := C5.out.grown hG6 hC6; have c6 := C6.out.box.cell.2.2.2.1; have g6 := C6.out.box.frozen.2.2.2.1; have C7 : Hid (CK w (w.heap.size + 1) bk w1.heap.size s5 f5 tv acc ad m cp av (wrap64 dv) ⟨#[]⟩ (w5.setCell ⟨w1.heap.size, 3, none⟩ (.int .i64 (wrap64 dv)))) := C6.out.set 3 _ ((box_set C6.out.box).2.2.2.1 _); obtain ⟨o7, p7, hC7⟩ := C7.out.cu; clear C5 hC5 hC6 hG6 C6 c4 g4)
                | (go_at_call 54; refine (HX5.out _ _ _ hC7).mono ?_; clear HX5; rintro e w6 ⟨rfl, hC8, hG8⟩; have C8 : Hid (CK w (w.heap.size + 1) bk w1.heap.size [] false tv acc ad m cp av (wrap64 dv) ⟨#[]⟩ w6) := C7.out.grown hG8 hC8; have c8 := C8.out.box.cell.2.2.2.2; have g8 := C8.out.box.frozen.2.2.2.2; have C9 : Hid (CK w (w.heap.size + 1) bk w1.heap.size [] false tv acc ad m cp av (wrap64 dv) xv (w6.setCell ⟨w1.heap.size, 4, none⟩ (.string xv))) := C8.out.set 4 _ ((box_set C8.out.box).2.2.2.2 _); obtain ⟨o9, p9, hC9⟩ := C9.out.cu; obtain ⟨r0, r1, r2, r3⟩ := hC9.cell; obtain ⟨z0, z1, z2, z3, z4⟩ := C9.out.box.cell; clear C7 hC7 hC8 hG8 C8 c6 g6)
                | (go_at_call 47; refine (HCK.out _ C9.out).mono ?_; clear HCK; rintro e w9 ⟨rfl, hB9⟩; have C10 : Hid (CK w (w.heap.size + 1) bk w1.heap.size [] false tv acc ad m cp av (wrap64 dv) xv w9) := C9.out.below hB9; obtain ⟨x0, x1, x2, x3, x4⟩ := C10.out.rb.cell; obtain ⟨v0, v1, v2, v3, v4⟩ := C10.out.rb.frozen; obtain ⟨y5, y6, y7, y8, y9⟩ := C10.out.box.cell; clear C9 hB9)
              obtain ⟨y0, y1, y2, y3, y4⟩ := (C10.out.rb.all (.int .u64 tv) (.slice ad m cp) (.string av) (.int .i64 (wrap64 dv)) (.string xv)).cell
              refine bodyPost_ret (v := .tuple #[cmt tv ad m cp av (wrap64 dv) xv, .bool true]) (by simp [results, Try.results28, go_sem, y0, y1, y2, y3, y4]) rfl ⟨?_, below5 C10.out.bel (Nat.le_refl _) _ _ _ _ _⟩
              rw [hdn]
              exact ck_some C10.out HLN.out _ _ _ _ _
            · have e1 : (E == 0) = false := by simp [hE0]
              have e2 : (E != 0) = true := by simp [hE0]
              have hdn : D = none := by rw [HDX.out, if_pos (.inr (.inr hE0))]
              clear HDX
              go_wp2_with first
                | (go_at_call 54; refine hA.mono ?_; clear hA; rintro e w4 ⟨rfl, hC4, hG4⟩; have C4 : Hid (CK w (w.heap.size + 1) bk w1.heap.size s4 f4 tv acc ad m cp ⟨#[]⟩ 0 ⟨#[]⟩ w4) := C1.out.grown hG4 hC4; have c4 := C4.out.box.cell.2.2.1; have g4 := C4.out.box.frozen.2.2.1; have C5 : Hid (CK w (w.heap.size + 1) bk w1.heap.size s4 f4 tv acc ad m cp av 0 ⟨#[]⟩ (w4.setCell ⟨w1.heap.size, 2, none⟩ (.string av))) := C4.out.set 2 _ ((box_set C4.out.box).2.2.1 _); obtain ⟨o5, p5, hC5⟩ := C5.out.cu; clear C1 hC4 hG4 C4)
                | (go_at_call 56; refine (HW4.out _ _ _ hC5).mono ?_; clear HW4; rintro e w5 ⟨rfl, hC6, hG6⟩; have C6 : Hid (CK w (w.heap.size + 1) bk w1.heap.size s5 f5 tv acc ad m cp av 0 ⟨#[]⟩ w5) := C5.out.grown hG6 hC6; have c6 := C6.out.box.cell.2.2.2.1; have g6 := C6.out.box.frozen.2.2.2.1; have C7 : Hid (CK w (w.heap.size + 1) bk w1.heap.size s5 f5 tv acc ad m cp av (wrap64 dv) ⟨#[]⟩ (w5.setCell ⟨w1.heap.size, 3, none⟩ (.int .i64 (wrap64 dv)))) := C6.out.set 3 _ ((box_set C6.out.box).2.2.2.1 _); obtain ⟨o7, p7, hC7⟩ := C7.out.cu; clear C5 hC5 hC6 hG6 C6 c4 g4)
                | (go_at_call 54; refine (HX5.out _ _ _ hC7).mono ?_; clear HX5; rintro e w6 ⟨rfl, hC8, hG8⟩; have C8 : Hid (CK w (w.heap.size + 1) bk w1.heap.size [] false tv acc ad m cp av (wrap64 dv) ⟨#[]⟩ w6) := C7.out.grown hG8 hC8; have c8 := C8.out.box.cell.2.2.2.2; have g8 := C8.out.box.frozen.2.2.2.2; have C9 : Hid (CK w (w.heap.size + 1) bk w1.heap.size [] false tv acc ad m cp av (wrap64 dv) xv (w6.setCell ⟨w1.heap.size, 4, none⟩ (.string xv))) := C8.out.set 4 _ ((box_set C8.out.box).2.2.2.2 _); obtain ⟨o9, p9, hC9⟩ := C9.out.cu; obtain ⟨r0, r1, r2, r3⟩ := hC9.cell; obtain ⟨z0, z1, z2, z3, z4⟩ := C9.out.box.cell; clear C7 hC7 hC8 hG8 C8 c6 g6)
                | (go_at_call 47; refine (HCK.out _ C9.out).mono ?_; clear HCK; rintro e w9 ⟨rfl, hB9⟩; have C10 : Hid (CK w (w.heap.size + 1) bk w1.heap.size [] false tv acc ad m cp av (wrap64 dv) xv w9) := C9.out.below hB9; obtain ⟨x0, x1, x2, x3, x4⟩ := C10.out.rb.cell; obtain ⟨v0, v1, v2, v3, v4⟩ := C10.out.rb.frozen; obtain ⟨y5, y6, y7, y8, y9⟩ := C10.out.box.cell; clear C9 hB9)
              obtain ⟨y0, y1, y2, y3, y4⟩ := (C10.out.rb.all (.int .u64 0) (.slice none 0 0) (.string ⟨#[]⟩) (.int .i64 0) (.string ⟨#[]⟩)).cell
              refine bodyPost_ret (v := .tuple #[cmt 0 none 0 0 ⟨#[]⟩ 0 ⟨#[]⟩, .bool false]) (by simp [results, Try.results28, go_sem, y0, y1, y2, y3, y4]) rfl ⟨?_, below5 C10.out.bel (Nat.le_refl _) _ _ _ _ _⟩
              rw [hdn]
              rfl
          · obtain ⟨sl, hsl⟩ : ∃ sl, s6.length = sl + 1 := by
              cases s6 with
              | nil => exact absurd rfl hs6
              | cons x t => exact ⟨t.length, rfl⟩
            have hdn : D = none := by rw [HDX.out, if_pos (.inr (.inl hs6))]
            clear HDX
            go_wp2_with first
              | (go_at_call 54; refine hA.mono ?_; clear hA; rintro e w4 ⟨rfl, hC4, hG4⟩; have C4 : Hid (CK w (w.heap.size + 1) bk w1.heap.size s4 f4 tv acc ad m cp ⟨#[]⟩ 0 ⟨#[]⟩ w4) := C1.out.grown hG4 hC4; have c4 := C4.out.box.cell.2.2.1; have g4 := C4.out.box.frozen.2.2.1; have C5 : Hid (CK w (w.heap.size + 1) bk w1.heap.size s4 f4 tv acc ad m cp av 0 ⟨#[]⟩ (w4.setCell ⟨w1.heap.size, 2, none⟩ (.string av))) := C4.out.set 2 _ ((box_set C4.out.box).2.2.1 _); obtain ⟨o5, p5, hC5⟩ := C5.out.cu; clear C1 hC4 hG4 C4)
              | (go_at_call 56; refine (HW4.out _ _ _ hC5).mono ?_; clear HW4; rintro e w5 ⟨rfl, hC6, hG6⟩; have C6 : Hid (CK w (w.heap.size + 1) bk w1.heap.size s5 f5 tv acc ad m cp av 0 ⟨#[]⟩ w5) := C5.out.grown hG6 hC6; have c6 := C6.out.box.cell.2.2.2.1; have g6 := C6.out.box.frozen.2.2.2.1; have C7 : Hid (CK w (w.heap.size + 1) bk w1.heap.size s5 f5 tv acc ad m cp av (wrap64 dv) ⟨#[]⟩ (w5.setCell ⟨w1.heap.size, 3, none⟩ (.int .i64 (wrap64 dv)))) := C6.out.set 3 _ ((box_set C6.out.box).2.2.2.1 _); obtain ⟨o7, p7, hC7⟩ := C7.out.cu; clear C5 hC5 hC6 hG6 C6 c4 g4)
              | (go_at_call 54; refine (HX5.out _ _ _ hC7).mono ?_; clear HX5; rintro e w6 ⟨rfl, hC8, hG8⟩; have C8 : Hid (CK w (w.heap.size + 1) bk w1.heap.size s6 false tv acc ad m cp av (wrap64 dv) ⟨#[]⟩ w6) := C7.out.grown hG8 hC8; have c8 := C8.out.box.cell.2.2.2.2; have g8 := C8.out.box.frozen.2.2.2.2; have C9 : Hid (CK w (w.heap.size + 1) bk w1.heap.size s6 false tv acc ad m cp av (wrap64 dv) xv (w6.setCell ⟨w1.heap.size, 4, none⟩ (.string xv))) := C8.out.set 4 _ ((box_set C8.out.box).2.2.2.2 _); obtain ⟨o9, p9, hC9⟩ := C9.out.cu; obtain ⟨r0, r1, r2, r3⟩ := hC9.cell; rw [hsl] at r0; obtain ⟨x0, x1, x2, x3, x4⟩ := C9.out.rb.cell; obtain ⟨v0, v1, v2, v3, v4⟩ := C9.out.rb.frozen; clear C7 hC7 hC8 hG8 C8 c6 g6)
            obtain ⟨y0, y1, y2, y3, y4⟩ := (C9.out.rb.all (.int .u64 0) (.slice none 0 0) (.string ⟨#[]⟩) (.int .i64 0) (.string ⟨#[]⟩)).cell
            refine bodyPost_ret (v := .tuple #[cmt 0 none 0 0 ⟨#[]⟩ 0 ⟨#[]⟩, .bool false]) (by simp [results, Try.results28, go_sem, y0, y1, y2, y3, y4]) rfl ⟨?_, below5 C9.out.bel (Nat.le_refl _) _ _ _ _ _⟩
            rw [hdn]
            rfl
      | false =>
        have hrs : RES = parsC k (wordC s false).2.1 (wordC s false).2.2 (acc ++ [(wordC s false).1]) := by rw [H.out.2.1]; simp [parsC]
        have hxf := wordC_fits s false
        have C4 : Hid (CK w (w.heap.size + 1) bk w1.heap.size s false tv acc ad m cp ⟨#[]⟩ 0 ⟨#[]⟩ wr) := H.out.1
        obtain ⟨z0, z1, z2, z3, z4⟩ := C4.out.box.cell
        obtain ⟨od, pd, hCd⟩ := C4.out.drew.cu
        obtain ⟨⟨xv, s', f'⟩, hx⟩ : ∃ y, y = wordC s false := ⟨_, rfl⟩
        rw [← hx] at hrs hxf
        simp only at hrs hxf
        have HFF : Hid (RES = parsC k s' f' (acc ++ [xv]) ∧ ∀ x ∈ acc ++ [xv], 0 ≤ x ∧ x < 18446744073709551616) := ⟨hrs, fun y hy => by
          rcases List.mem_append.1 hy with h | h
          · exact HPB.out y h
          · simp at h; subst h; exact hxf⟩
        have HSW : Hid (∀ {ops : Array Oper} {o : Oper} {a : Act} {K : Act → World → Prop} {Q : Exit → Act → World → Prop} {E : Prop} (W : World) (o' p' : Nat) (_ : Cu W (w.heap.size + 1) bk o' p' s false) (_ : o.guard = none) (x : Nat) (_ : o.op = .call { callee := .value (.func 56), args := #[.tmp x], argTypes := #[87] }) (_ : a.tmps[x]?.getD undef = .pointer (some ⟨w.heap.size + 1, 0, none⟩)) (_ : ∀ w', (∃ o p, Cu w' (w.heap.size + 1) bk o p s' f') → W.grownBy w' (some (w.heap.size + 1)) → K (a.put o.dst (.int .u64 xv)) w'), if Region.wanted o (yielded ops a.tmps) = true then Oper.wp Try.prog o a W K Q else E) := fun W o' p' hR hgd x ho hx' hK => step_wordC W (w.heap.size + 1) bk o' p' s false hR hgd x ho hx' (by rw [← hx]; exact hK)
        clear hx hrs hxf H hC HD HFIN
        go_wp2_with fail
        go_region_law (first
          | (refine HSW.out _ _ _ hCd (by rfl) _ (by rfl) (by rfl) ?_; intro w4 hC4 hG4; have C5 : Hid (CK w (w.heap.size + 1) bk w1.heap.size s' f' tv acc ad m cp ⟨#[]⟩ 0 ⟨#[]⟩ w4) := C4.out.drew.grown hG4 hC4; have y1 := C5.out.box.cell.2.1; have C6 : Hid (CK w (w.heap.size + 1) bk w1.heap.size s' f' tv acc ad m cp ⟨#[]⟩ 0 ⟨#[]⟩ (w4.alloc (.cells #[.int .u64 xv] 39))) := C5.out.alloc _; have y2 := C6.out.box.cell.2.1; clear hC4 hG4)
          | (refine step_appI' _ (w1.heap.size + 1) C6.out.low (by rfl) _ _ (by rfl) (.slice ad m cp) m acc (by rfl) C6.out.row ⟨w4.heap.size, 0, none⟩ 1 1 [xv] (by rfl) (ids_lit w4 xv) (by omega) ?_; intro v5 w5 ho5 hg5; obtain ⟨ad5, c5, hv5, _⟩ := row_shape ho5; subst hv5; have bx5 := C6.out.boxed hg5; have cb5 := bx5.cell.2.1; have fb5 := bx5.frozen.2.1; have C7 : Hid (CK w (w.heap.size + 1) bk w1.heap.size s' f' tv (acc ++ [xv]) ad5 (m + 1) c5 ⟨#[]⟩ 0 ⟨#[]⟩ (w5.setCell ⟨w1.heap.size, 1, none⟩ (.slice ad5 (m + 1) c5))) := C6.out.push ho5 hg5; clear ho5 hg5 bx5))
        all_goals
          go_wp2_with fail
          go_roundw
          case rel => exact ⟨k, s', f', acc ++ [xv], ad5, m + 1, c5, by omega, by simp, C7.out, HFF.out.1, HFF.out.2⟩
          case measure => simp [intOf]
end Go.Proofs.Ytdibdcbihleflaa

/- The document's reading of a commit, for all bytes; which bytes are right. -/
namespace Go.Proofs.Ytdibdcbihleflaa
open Go.RowKit

attribute [local go_sem] Oper.semAt_some

theorem comC_one : comC [99] = none := by
  have h1 : wordC [] false = (0, [], true) := rfl
  have h2 : numC [] true = (0, [], true) := rfl
  have h3 : textC [] true = (⟨#[]⟩, [], true) := rfl
  have h4 : wordC [] true = (0, [], true) := rfl
  have h0 : (comC0 (List.drop 1 [99])).2.2 = true := by
    show (comC0 []).2.2 = true
    unfold comC0
    simp [h1, h2, parsC, h3, h4]
  unfold comC
  rw [if_pos (show ([99] : List UInt8).head? = some 99 from rfl), if_pos (Or.inl h0)]
set_option maxRecDepth 20000 in
set_option maxHeartbeats 4000000 in
theorem asCommit_not (a : Option Addr) (n c : Nat) (l : List UInt8) (w : World) (hb : Bytes w a n l) (hh : l.head? ≠ some 99) (hn : n ≤ 9223372036854775807) :
    Calls Try.prog 28 #[.slice a n c] w fun x w' => x = .returned (.tuple #[cmt 0 none 0 0 ⟨#[]⟩ 0 ⟨#[]⟩, .bool false]) ∧ Below w.heap.size w w' := by
  have b0 := Box5.new w (.int .u64 0) (.slice none 0 0) (.string ⟨#[]⟩) (.int .i64 0) (.string ⟨#[]⟩)
  obtain ⟨x0, x1, x2, x3, x4⟩ := b0.cell
  obtain ⟨v0, v1, v2, v3, v4⟩ := b0.frozen
  obtain ⟨y0, y1, y2, y3, y4⟩ := (b0.all (.int .u64 0) (.slice none 0 0) (.string ⟨#[]⟩) (.int .i64 0) (.string ⟨#[]⟩)).cell
  have hB0 : Below w.heap.size w (w.alloc (.cells #[.int .u64 0, .slice none 0 0, .string ⟨#[]⟩, .int .i64 0, .string ⟨#[]⟩] 42)) := (Below.refl _ _).alloc (Nat.le_refl _) _
  cases l with
  | nil =>
    have h0 : n = 0 := by have := hb.1; simpa using this.symm
    subst h0
    go_enter Try.func28, Try.ntmps28
    go_wp2
    refine bodyPost_ret (v := .tuple #[cmt 0 none 0 0 ⟨#[]⟩ 0 ⟨#[]⟩, .bool false]) (by simp [results, Try.results28, go_sem]) rfl ⟨rfl, by first | exact hB0 | exact below5 hB0 (Nat.le_refl _) _ _ _ _ _⟩
  | cons x t =>
    have hl := hb.1
    obtain ⟨n', rfl⟩ : ∃ n', n = n' + 1 := ⟨t.length, by simpa using hl.symm⟩
    obtain ⟨bk, off0, rfl, hc⟩ := hb.2 (by omega)
    have hlt : bk < w.heap.size := World.block_lt_of_cell? w _ (hc 0 (by omega))
    have c0 : (w.alloc (.cells #[.int .u64 0, .slice none 0 0, .string ⟨#[]⟩, .int .i64 0, .string ⟨#[]⟩] 42)).cell? ⟨bk, off0, none⟩ = some (.int .u8 (x.toNat : Int)) := (World.cell?_of_block (Below.heap_alloc _ _ _ hlt)).trans (head_cell hb rfl)
    have hx : x ≠ 99 := fun e => hh (by rw [e]; rfl)
    have hx2 : ¬ (x.toNat : Int) = 99 := fun e => hx (UInt8.toNat_inj.1 (by simp; omega))
    have z1 : ((x.toNat : Int) == 99) = false := by simp [hx2]
    have z2 : ((x.toNat : Int) != 99) = true := by simp [hx2]
    have i2 : ¬ (n' : Int) + 1 = 0 := by omega
    clear hb hh hl hc
    go_enter Try.func28, Try.ntmps28
    go_wp2
    refine bodyPost_ret (v := .tuple #[cmt 0 none 0 0 ⟨#[]⟩ 0 ⟨#[]⟩, .bool false]) (by simp [results, Try.results28, go_sem]) rfl ⟨rfl, by first | exact hB0 | exact below5 hB0 (Nat.le_refl _) _ _ _ _ _⟩
set_option maxRecDepth 20000 in
set_option maxHeartbeats 4000000 in
theorem asCommit_one (bk off0 : Nat) (w : World) (hb : Bytes w (some ⟨bk, off0, none⟩) 1 [99]) (hlt : bk < w.heap.size) :
    Calls Try.prog 28 #[.slice (some ⟨bk, off0, none⟩) 1 1] w fun x w' => x = .returned (.tuple #[cmt 0 none 0 0 ⟨#[]⟩ 0 ⟨#[]⟩, .bool false]) ∧ Below w.heap.size w w' := by
  have c0 : (w.alloc (.cells #[.int .u64 0, .slice none 0 0, .string ⟨#[]⟩, .int .i64 0, .string ⟨#[]⟩] 42)).cell? ⟨bk, off0, none⟩ = some (.int .u8 99) := (World.cell?_of_block (Below.heap_alloc _ _ _ hlt)).trans (head_cell hb rfl)
  have hBz : Below w.heap.size w ((w.alloc (.cells #[.int .u64 0, .slice none 0 0, .string ⟨#[]⟩, .int .i64 0, .string ⟨#[]⟩] 42)).alloc (.cells #[.slice (some ⟨bk, off0, none⟩) 0 0, .bool false] 89)) := ((Below.refl _ _).alloc (Nat.le_refl _) _).alloc (by simp) _
  have HC0 : Hid (Cu ((w.alloc (.cells #[.int .u64 0, .slice none 0 0, .string ⟨#[]⟩, .int .i64 0, .string ⟨#[]⟩] 42)).alloc (.cells #[.slice (some ⟨bk, off0, none⟩) 0 0, .bool false] 89)) (w.heap.size + 1) bk off0 0 [] false) := by
    have hx := World.alloc_heap_new (w.alloc (.cells #[.int .u64 0, .slice none 0 0, .string ⟨#[]⟩, .int .i64 0, .string ⟨#[]⟩] 42)) (.cells #[.slice (some ⟨bk, off0, none⟩) 0 0, .bool false] 89)
    rw [World.size_alloc] at hx
    exact ⟨hx, ⟨rfl, fun h => by simp at h⟩, Nat.le_refl _, by omega, by simp; omega⟩
  have hw0 : Calls Try.prog 56 #[.pointer (some ⟨w.heap.size + 1, 0, none⟩)] ((w.alloc (.cells #[.int .u64 0, .slice none 0 0, .string ⟨#[]⟩, .int .i64 0, .string ⟨#[]⟩] 42)).alloc (.cells #[.slice (some ⟨bk, off0, none⟩) 0 0, .bool false] 89)) fun e w' => e = .returned (.int .u64 0) ∧ (∃ off' cp', Cu w' (w.heap.size + 1) bk off' cp' [] true) ∧ ((w.alloc (.cells #[.int .u64 0, .slice none 0 0, .string ⟨#[]⟩, .int .i64 0, .string ⟨#[]⟩] 42)).alloc (.cells #[.slice (some ⟨bk, off0, none⟩) 0 0, .bool false] 89)).grownBy w' (some (w.heap.size + 1)) := word_c _ (w.heap.size + 1) bk off0 0 [] false HC0.out
  have HW : Hid (∀ W o p, Cu W (w.heap.size + 1) bk o p [] true → Calls Try.prog 56 #[.pointer (some ⟨w.heap.size + 1, 0, none⟩)] W fun e w' => e = .returned (.int .u64 0) ∧ (∃ off' cp', Cu w' (w.heap.size + 1) bk off' cp' [] true) ∧ W.grownBy w' (some (w.heap.size + 1))) := fun W o p h => word_c W (w.heap.size + 1) bk o p [] true h
  have HX : Hid (∀ W o p, Cu W (w.heap.size + 1) bk o p [] true → Calls Try.prog 54 #[.pointer (some ⟨w.heap.size + 1, 0, none⟩)] W fun e w' => e = .returned (.string ⟨#[]⟩) ∧ (∃ off' cp', Cu w' (w.heap.size + 1) bk off' cp' [] true) ∧ W.grownBy w' (some (w.heap.size + 1))) := fun W o p h => text_c W (w.heap.size + 1) bk o p [] true h
  have HU : Hid (∀ W o p, Cu W (w.heap.size + 1) bk o p [] true → Calls Try.prog 53 #[.pointer (some ⟨w.heap.size + 1, 0, none⟩)] W fun e w' => e = .returned (.int .i64 0) ∧ (∃ off' cp', Cu w' (w.heap.size + 1) bk off' cp' [] true) ∧ W.grownBy w' (some (w.heap.size + 1))) := fun W o p h => number_c W (w.heap.size + 1) bk o p [] true h
  have HBZ : Hid (Below w.heap.size w ((w.alloc (.cells #[.int .u64 0, .slice none 0 0, .string ⟨#[]⟩, .int .i64 0, .string ⟨#[]⟩] 42)).alloc (.cells #[.slice (some ⟨bk, off0, none⟩) 0 0, .bool false] 89)) ∧ Box5 ((w.alloc (.cells #[.int .u64 0, .slice none 0 0, .string ⟨#[]⟩, .int .i64 0, .string ⟨#[]⟩] 42)).alloc (.cells #[.slice (some ⟨bk, off0, none⟩) 0 0, .bool false] 89)) w.heap.size (.int .u64 0) (.slice none 0 0) (.string ⟨#[]⟩) (.int .i64 0) (.string ⟨#[]⟩)) := ⟨hBz, (Box5.new w (.int .u64 0) (.slice none 0 0) (.string ⟨#[]⟩) (.int .i64 0) (.string ⟨#[]⟩)).kept ((Below.refl _ _).alloc (Nat.le_refl _) _)⟩
  clear hb hBz HC0
  go_enter Try.func28, Try.ntmps28
  go_wp2_with first
    | (go_at_call 56; refine hw0.mono ?_; clear hw0; rintro e w1 ⟨rfl, ⟨o1, p1, hC1⟩, hG1⟩; have K1 : Hid (CK w (w.heap.size + 1) bk w1.heap.size [] true 0 [] none 0 0 ⟨#[]⟩ 0 ⟨#[]⟩ (w1.alloc (.cells #[.int .u64 0, .slice none 0 0, .string ⟨#[]⟩, .int .i64 0, .string ⟨#[]⟩] 42))) := ck_new HBZ.out.1 HBZ.out.2 hC1 hG1 hlt; obtain ⟨o2, p2, hC2⟩ := K1.out.cu; clear hC1 hG1 HBZ)
    | (go_at_call 53; refine (HU.out _ _ _ hC2).mono ?_; clear HU; rintro e w2 ⟨rfl, hC3, hG3⟩; have K2 : Hid (CK w (w.heap.size + 1) bk w1.heap.size [] true 0 [] none 0 0 ⟨#[]⟩ 0 ⟨#[]⟩ w2) := K1.out.grown hG3 hC3; obtain ⟨o3, p3, hC3'⟩ := hC3; clear hG3 K1 hC2)
  go_loopw [6] (fun i wr => i = .int .i64 0 ∧ wr = w2) (fun _ _ => 0)
  case atStart => exact ⟨rfl, rfl⟩
  case round =>
    obtain ⟨rfl, rfl⟩ := hrel
    go_wp2_with first
      | (go_at_call 54; have _t := K2; refine (HX.out _ _ _ hC3').mono ?_; rintro e w4 ⟨rfl, hC4, hG4⟩; have C4 : Hid (CK w (w.heap.size + 1) bk w1.heap.size [] true 0 [] none 0 0 ⟨#[]⟩ 0 ⟨#[]⟩ w4) := K2.out.grown hG4 hC4; have c4 := C4.out.box.cell.2.2.1; have g4 := C4.out.box.frozen.2.2.1; have C5 : Hid (CK w (w.heap.size + 1) bk w1.heap.size [] true 0 [] none 0 0 ⟨#[]⟩ 0 ⟨#[]⟩ (w4.setCell ⟨w1.heap.size, 2, none⟩ (.string ⟨#[]⟩))) := C4.out.set 2 _ ((box_set C4.out.box).2.2.1 _); obtain ⟨o5, p5, hC5⟩ := C5.out.cu; clear K2 _t hC4 hG4 C4 hC3')
      | (go_at_call 56; refine (HW.out _ _ _ hC5).mono ?_; clear HW; rintro e w5 ⟨rfl, hC6, hG6⟩; have C6 : Hid (CK w (w.heap.size + 1) bk w1.heap.size [] true 0 [] none 0 0 ⟨#[]⟩ 0 ⟨#[]⟩ w5) := C5.out.grown hG6 hC6; have c6 := C6.out.box.cell.2.2.2.1; have g6 := C6.out.box.frozen.2.2.2.1; have C7 : Hid (CK w (w.heap.size + 1) bk w1.heap.size [] true 0 [] none 0 0 ⟨#[]⟩ 0 ⟨#[]⟩ (w5.setCell ⟨w1.heap.size, 3, none⟩ (.int .i64 0))) := C6.out.set 3 _ ((box_set C6.out.box).2.2.2.1 _); obtain ⟨o7, p7, hC7⟩ := C7.out.cu; clear C5 hC5 hC6 hG6 C6 c4 g4)
      | (go_at_call 54; refine (HX.out _ _ _ hC7).mono ?_; rintro e w6 ⟨rfl, hC8, hG8⟩; have C8 : Hid (CK w (w.heap.size + 1) bk w1.heap.size [] true 0 [] none 0 0 ⟨#[]⟩ 0 ⟨#[]⟩ w6) := C7.out.grown hG8 hC8; have c8 := C8.out.box.cell.2.2.2.2; have g8 := C8.out.box.frozen.2.2.2.2; have C9 : Hid (CK w (w.heap.size + 1) bk w1.heap.size [] true 0 [] none 0 0 ⟨#[]⟩ 0 ⟨#[]⟩ (w6.setCell ⟨w1.heap.size, 4, none⟩ (.string ⟨#[]⟩))) := C8.out.set 4 _ ((box_set C8.out.box).2.2.2.2 _); obtain ⟨o9, p9, hC9⟩ := C9.out.cu; obtain ⟨r0, r1, r2, r3⟩ := hC9.cell; obtain ⟨x0, x1, x2, x3, x4⟩ := C9.out.rb.cell; obtain ⟨v0, v1, v2, v3, v4⟩ := C9.out.rb.frozen; clear C7 hC7 hC8 hG8 C8 c6 g6)
    obtain ⟨y0, y1, y2, y3, y4⟩ := (C9.out.rb.all (.int .u64 0) (.slice none 0 0) (.string ⟨#[]⟩) (.int .i64 0) (.string ⟨#[]⟩)).cell
    refine bodyPost_ret (v := .tuple #[cmt 0 none 0 0 ⟨#[]⟩ 0 ⟨#[]⟩, .bool false]) (by simp [results, Try.results28, go_sem, y0, y1, y2, y3, y4]) rfl ⟨rfl, below5 C9.out.bel (Nat.le_refl _) _ _ _ _ _⟩
theorem refAsCommit_any (a : Option Addr) (n c : Nat) (l : List UInt8) (w : World) (hb : Bytes w a n l) (hnc : n ≤ c) (hsm : n ≤ 40000) :
    Calls Try.prog 28 #[.slice a n c] w fun x w' => ComO (comC l) x w' ∧ Below w.heap.size w w' := by
  by_cases hh : l.head? = some 99
  · have hl := hb.1
    have hn : 1 ≤ n := by cases l with | nil => simp at hh | cons x t => rw [← hl]; simp
    obtain ⟨bk, off0, rfl, hc⟩ := hb.2 (by omega)
    have hlt : bk < w.heap.size := World.block_lt_of_cell? w _ (hc 0 (by omega))
    by_cases hc1 : c = 1
    · subst hc1
      have hn1 : n = 1 := by omega
      subst hn1
      have hl1 : l = [99] := by
        cases l with
        | nil => simp at hh
        | cons x t => simp at hh hl; subst hh; rw [hl]
      subst hl1
      rw [comC_one]
      exact asCommit_one bk off0 w hb hlt
    · exact asCommit_main bk off0 n c l w hb hn hnc hc1 hh hlt hsm
  · have e : comC l = none := by unfold comC; rw [if_neg hh]
    rw [e]
    exact asCommit_not a n c l w hb hh (by omega)
end Go.Proofs.Ytdibdcbihleflaa
