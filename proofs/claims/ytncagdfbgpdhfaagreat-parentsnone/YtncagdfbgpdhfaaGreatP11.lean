import Derived.Test.YtncagdfbgpdhfaaGreatP09
import Derived.Test.YtncagdfbgpdhfaaGreatP10
import Derived.Deep.RegionLaw
/- A commit, as it is read. -/
namespace Go.Proofs.YtncagdfbgpdhfaaGreat
open Go.RowKit

attribute [local go_sem] Oper.semAt_some

theorem step_word {ops : Array Oper} {o : Oper} {a : Act} {K : Act → World → Prop} {Q : Exit → Act → World → Prop} {E : Prop} (w : World) (r g p : Nat) (e : Int) (l : List UInt8) (h : Rd w r g p e l) (hgd : o.guard = none) (x : Nat)
    (ho : o.op = .call { callee := .value (.func 94), args := #[.tmp x], argTypes := #[184] }) (hx : a.tmps[x]?.getD undef = .pointer (some ⟨r, 0, none⟩))
    (hK : ∀ w', Rd w' r g (wordR l p e).2.1 (wordR l p e).2.2 l → w.grownBy w' (some r) → K (a.put o.dst (.int .u64 (wordR l p e).1)) w') :
    if Region.wanted o (yielded ops a.tmps) = true then Oper.wp Tryz.prog o a w K Q else E := by
  have hw : Region.wanted o (yielded ops a.tmps) = true := by simp [Region.wanted, hgd]
  rw [if_pos hw]
  have hc := word_st w r g p e l h
  generalize wordR l p e = X at hc hK
  unfold Oper.wp execOp
  simp [ho, resolve, invoke, go_sem, hx]
  refine hc.mono ?_
  rintro y w' ⟨rfl, hR, hG⟩
  have := hK w' hR hG
  simpa [go_sem] using this
theorem wp_appI' (w : World) (B : Nat) (hB : B ≤ w.heap.size) {o : Oper} {a : Act} {K : Act → World → Prop} {Q : Exit → Act → World → Prop} (s x : Operand)
    (ho : o.op = .call { callee := .builtin .append, args := #[s, x], argTypes := #[28, 28] })
    (v : Value) (n : Nat) (k : List Int) (hs : a.eval s = v) (hown : w.ownsRow B 31 1 v n (k.map (Value.int .u64))) (q : Addr) (m c : Nat) (l : List Int) (hx : a.eval x = .slice (some q) m c) (hb : Ids w (some q) m l) (hm : n + m ≤ 1099511627776)
    (h : ∀ v' w', w'.ownsRow B 31 1 v' (n + m) ((k ++ l).map (Value.int .u64)) → w.grownBy w' v.ownBlock → K (a.put o.dst v') w') : o.wp Tryz.prog a w K Q := by
  obtain ⟨i0, hi, hz0, hz1, hz2⟩ := info_parts infoId
  obtain ⟨v', w', hr, h1, h2, _, _⟩ := run_append_own_at (P := Tryz.prog) w B 28 o.type 31 i0 _ 1 8 Tryz.underlying28 hi hz0 hz1 hz2 rfl (by decide) v n _ hown q m c (l.map (Value.int .u64)) (by rw [List.length_map, hb.1]; omega) (by
    intro j u hj
    rw [List.getElem?_map] at hj
    have hl := hb.1
    cases hlj : l[j]? with
    | none => rw [hlj] at hj; cases hj
    | some y =>
      rw [hlj] at hj
      have hjl := (List.getElem?_eq_some_iff.1 hlj).1
      obtain ⟨b, off, e, hc⟩ := hb.2 (by omega)
      cases e
      rw [Addr.add_lit, hc j y hlj]
      exact hj) (by intro u hu; obtain ⟨y, _, rfl⟩ := List.mem_map.1 hu; rfl) (by unfold maxLen; omega) (by omega) hB
  unfold Oper.wp execOp
  simp only [ho, resolve, invoke, builtin, Sem.run_bind, Sem.run_pure, Result.andThen_ok, List.map_toArray, List.map_cons, List.map_nil, hs, hx, hr]
  exact h v' w' (by rw [List.map_append]; exact h1) h2
theorem step_appI' (w : World) (B : Nat) (hB : B ≤ w.heap.size) {ops : Array Oper} {o : Oper} {a : Act} {K : Act → World → Prop} {Q : Exit → Act → World → Prop} {E : Prop} (hgd : o.guard = none) (s x : Operand)
    (ho : o.op = .call { callee := .builtin .append, args := #[s, x], argTypes := #[28, 28] })
    (v : Value) (n : Nat) (k : List Int) (hs : a.eval s = v) (hown : w.ownsRow B 31 1 v n (k.map (Value.int .u64))) (q : Addr) (m c : Nat) (l : List Int) (hx : a.eval x = .slice (some q) m c) (hb : Ids w (some q) m l) (hm : n + m ≤ 1099511627776)
    (h : ∀ v' w', w'.ownsRow B 31 1 v' (n + m) ((k ++ l).map (Value.int .u64)) → w.grownBy w' v.ownBlock → K (a.put o.dst v') w') :
    if Region.wanted o (yielded ops a.tmps) = true then Oper.wp Tryz.prog o a w K Q else E := by
  have hw : Region.wanted o (yielded ops a.tmps) = true := by simp [Region.wanted, hgd]
  rw [if_pos hw]
  exact wp_appI' w B hB s x ho v n k hs hown q m c l hx hb hm h
/-- n parents, as they are read, behind those that are read -/
def parsR : Nat → List UInt8 → Nat → Int → List Int → List Int × Nat × Int
  | 0, _, p, e, acc => (acc, p, e)
  | n + 1, l, p, e, acc => if e ≠ 0 then (acc, p, e) else parsR n l (wordR l p e).2.1 (wordR l p e).2.2 (acc ++ [(wordR l p e).1])
/-- a commit, as it is read -/
def comR (l : List UInt8) (p : Nat) (e : Int) : (Int × List Int × ByteArray × Int × ByteArray) × Nat × Int :=
  let t := wordR l p e
  let u := uintR l t.2.1 t.2.2
  let q := parsR u.1.toNat l u.2.1 u.2.2 []
  let a := textR l q.2.1 q.2.2 64
  let d := wordR l a.2.1 a.2.2
  let x := textR l d.2.1 d.2.2 1024
  ((t.1, q.1, a.1, wrap64 d.1, x.1), x.2.1, x.2.2)
/-- what stands while a commit is read -/
structure CR (w : World) (r g : Nat) (l : List UInt8) (p : Nat) (e : Int) (t : Int) (acc : List Int) (ad : Option Addr) (n cp : Nat) (au : ByteArray) (d : Int) (tx : ByteArray) (W : World) : Prop where
  rd : Rd W r g p e l
  gr : w.grownBy W (some r)
  box : Box5 W w.heap.size (.int .u64 t) (.slice ad n cp) (.string au) (.int .i64 d) (.string tx)
  row : W.ownsRow (w.heap.size + 1) 31 1 (.slice ad n cp) n (acc.map (Value.int .u64))
  low : w.heap.size + 1 ≤ W.heap.size
section
variable {w W W1 : World} {r g : Nat} {l : List UInt8} {p p' : Nat} {e e' t : Int} {acc : List Int} {ad : Option Addr} {n cp : Nat} {au : ByteArray} {d : Int} {tx : ByteArray}
theorem CR.next (h : CR w r g l p e t acc ad n cp au d tx W) (hr : r < w.heap.size) (hR : Rd W1 r g p' e' l) (hg : W.grownBy W1 (some r)) : CR w r g l p' e' t acc ad n cp au d tx W1 :=
  ⟨hR, grownBy_trans h.gr hg, (hg.block _ h.box.lt (fun e => by have : w.heap.size = r := Option.some.inj e; omega)).trans h.box, own_grown h.row hg (by omega), Nat.le_trans h.low hg.size⟩
theorem CR.alloc (h : CR w r g l p e t acc ad n cp au d tx W) (hr : r < w.heap.size) (o : Obj) : CR w r g l p e t acc ad n cp au d tx (W.alloc o) := by
  have hg : W.grownBy (W.alloc o) none := ⟨rfl, rfl, rfl, by simp, fun k hk _ => Below.heap_alloc _ _ _ hk⟩
  exact h.next hr (h.rd.kept hg (by simp) (by simp)) (grownBy_wide hg)
theorem CR.drew (h : CR w r g l p e t acc ad n cp au d tx W) (hr : r < w.heap.size) : CR w r g l p e t acc ad n cp au d tx W.drew := h.next hr (h.rd.kept (row := none) ⟨rfl, rfl, rfl, Nat.le_refl _, fun _ _ _ => rfl⟩ (by simp) (by simp)) ⟨rfl, rfl, rfl, Nat.le_refl _, fun _ _ _ => rfl⟩
theorem cr_set (h : CR w r g l p e t acc ad n cp au d tx W) (hr : r < w.heap.size) (hgw : g < w.heap.size) (k : Nat) (v : Value) :
    Rd (W.setCell ⟨w.heap.size, k, none⟩ v) r g p e l ∧ w.grownBy (W.setCell ⟨w.heap.size, k, none⟩ v) (some r) ∧ (W.setCell ⟨w.heap.size, k, none⟩ v).ownsRow (w.heap.size + 1) 31 1 (.slice ad n cp) n (acc.map (Value.int .u64)) ∧ w.heap.size + 1 ≤ (W.setCell ⟨w.heap.size, k, none⟩ v).heap.size := by
  have s1 : W.grownBy (W.setCell ⟨w.heap.size, k, none⟩ v) (some w.heap.size) := grownBy_setCell _ _ _ _
  refine ⟨h.rd.kept s1 (by simp; omega) (by simp; omega), ⟨s1.os.trans h.gr.os, s1.tape.trans h.gr.tape, s1.output.trans h.gr.output, Nat.le_trans h.gr.size s1.size, fun j hj hn => ?_⟩, own_grown h.row s1 (by omega), Nat.le_trans h.low s1.size⟩
  exact (s1.block j (Nat.lt_of_lt_of_le hj h.gr.size) (by simp; omega)).trans (h.gr.block j hj hn)
theorem box_set {a0 a1 a2 a3 a4 : Value} {B : Nat} (h : Box5 W B a0 a1 a2 a3 a4) : (∀ v, Box5 (W.setCell ⟨B, 0, none⟩ v) B v a1 a2 a3 a4) ∧ (∀ v, Box5 (W.setCell ⟨B, 1, none⟩ v) B a0 v a2 a3 a4) ∧ (∀ v, Box5 (W.setCell ⟨B, 2, none⟩ v) B a0 a1 v a3 a4) ∧ (∀ v, Box5 (W.setCell ⟨B, 3, none⟩ v) B a0 a1 a2 v a4) ∧ (∀ v, Box5 (W.setCell ⟨B, 4, none⟩ v) B a0 a1 a2 a3 v) := by
  have h' : W.heap[B]? = _ := h
  have hl := h.lt
  unfold Box5
  simp [World.setCell, Array.getElem?_modify, h']
theorem CR.set0 (h : CR w r g l p e t acc ad n cp au d tx W) (hr : r < w.heap.size) (hgw : g < w.heap.size) (v : Int) : CR w r g l p e v acc ad n cp au d tx (W.setCell ⟨w.heap.size, 0, none⟩ (.int .u64 v)) := by
  obtain ⟨h1, h2, h3, h4⟩ := cr_set h hr hgw 0 (.int .u64 v)
  exact ⟨h1, h2, (box_set h.box).1 _, h3, h4⟩
theorem CR.set2 (h : CR w r g l p e t acc ad n cp au d tx W) (hr : r < w.heap.size) (hgw : g < w.heap.size) (v : ByteArray) : CR w r g l p e t acc ad n cp v d tx (W.setCell ⟨w.heap.size, 2, none⟩ (.string v)) := by
  obtain ⟨h1, h2, h3, h4⟩ := cr_set h hr hgw 2 (.string v)
  exact ⟨h1, h2, (box_set h.box).2.2.1 _, h3, h4⟩
theorem CR.set3 (h : CR w r g l p e t acc ad n cp au d tx W) (hr : r < w.heap.size) (hgw : g < w.heap.size) (v : Int) : CR w r g l p e t acc ad n cp au v tx (W.setCell ⟨w.heap.size, 3, none⟩ (.int .i64 v)) := by
  obtain ⟨h1, h2, h3, h4⟩ := cr_set h hr hgw 3 (.int .i64 v)
  exact ⟨h1, h2, (box_set h.box).2.2.2.1 _, h3, h4⟩
theorem CR.set4 (h : CR w r g l p e t acc ad n cp au d tx W) (hr : r < w.heap.size) (hgw : g < w.heap.size) (v : ByteArray) : CR w r g l p e t acc ad n cp au d v (W.setCell ⟨w.heap.size, 4, none⟩ (.string v)) := by
  obtain ⟨h1, h2, h3, h4⟩ := cr_set h hr hgw 4 (.string v)
  exact ⟨h1, h2, (box_set h.box).2.2.2.2 _, h3, h4⟩
theorem CR.ob (h : CR w r g l p e t acc ad n cp au d tx W) : ∀ k, (Value.slice ad n cp).ownBlock = some k → w.heap.size + 1 ≤ k := fun k hk => by
  rcases h.row.2 with ⟨e, _⟩ | ⟨g', cap, cur, e, hb, _⟩
  · rw [e] at hk; cases hk
  · rw [e] at hk; cases hk; exact hb
theorem CR.boxed (h : CR w r g l p e t acc ad n cp au d tx W) (hg : W.grownBy W1 (Value.slice ad n cp).ownBlock) : Box5 W1 w.heap.size (.int .u64 t) (.slice ad n cp) (.string au) (.int .i64 d) (.string tx) :=
  (hg.block _ h.box.lt (fun e => by have := h.ob _ e.symm; omega)).trans h.box
theorem CR.push {x : Int} {ad' : Option Addr} {cp' : Nat} (h : CR w r g l p e t acc ad n cp au d tx W) (hr : r < w.heap.size) (hgw : g < w.heap.size)
    (ho : W1.ownsRow (w.heap.size + 1) 31 1 (.slice ad' (n + 1) cp') (n + 1) ((acc ++ [x]).map (Value.int .u64))) (hg : W.grownBy W1 (Value.slice ad n cp).ownBlock) :
    CR w r g l p e t (acc ++ [x]) ad' (n + 1) cp' au d tx (W1.setCell ⟨w.heap.size, 1, none⟩ (.slice ad' (n + 1) cp')) := by
  have hob := h.ob
  have hbx := h.boxed hg
  have hR1 : Rd W1 r g p e l := h.rd.kept (row := (Value.slice ad n cp).ownBlock) hg (fun e => by have := hob r e; omega) (fun e => by have := hob g e; omega)
  have hw1 : w.grownBy W1 (some r) := ⟨hg.os.trans h.gr.os, hg.tape.trans h.gr.tape, hg.output.trans h.gr.output, Nat.le_trans h.gr.size hg.size, fun k hk hn => (hg.block k (Nat.lt_of_lt_of_le hk h.gr.size) (fun e => by have := hob k e.symm; omega)).trans (h.gr.block k hk hn)⟩
  have h1 : CR w r g l p e t (acc ++ [x]) ad' (n + 1) cp' au d tx W1 → CR w r g l p e t (acc ++ [x]) ad' (n + 1) cp' au d tx W1 := id
  have s1 : W1.grownBy (W1.setCell ⟨w.heap.size, 1, none⟩ (.slice ad' (n + 1) cp')) (some w.heap.size) := grownBy_setCell _ _ _ _
  refine ⟨hR1.kept s1 (by simp; omega) (by simp; omega), ⟨s1.os.trans hw1.os, s1.tape.trans hw1.tape, s1.output.trans hw1.output, Nat.le_trans hw1.size s1.size, fun j hj hn => ?_⟩, (box_set hbx).2.1 _, own_grown ho s1 (by omega), ?_⟩
  · exact (s1.block j (Nat.lt_of_lt_of_le hj hw1.size) (by simp; omega)).trans (hw1.block j hj hn)
  · have := h.low; have := hg.size; have := s1.size; omega
end
/-- what a call that reads a commit answers -/
def ComOut (w : World) (c : Int × List Int × ByteArray × Int × ByteArray) (x : Ending) (w' : World) : Prop :=
  ∃ ad cp, x = .returned (coV c.1 ad c.2.1.length cp c.2.2.1 c.2.2.2.1 c.2.2.2.2) ∧ w'.ownsRow w.heap.size 31 1 (.slice ad c.2.1.length cp) c.2.1.length (c.2.1.map (Value.int .u64))
theorem com_out {w W : World} {r g : Nat} {l : List UInt8} {p p6 : Nat} {e e6 t : Int} {acc : List Int} {ad : Option Addr} {n cp : Nat} {au : ByteArray} {d : Int} {tx : ByteArray} (hE : comR l p e = ((t, acc, au, d, tx), p6, e6)) (h : CR w r g l p6 e6 t acc ad n cp au d tx W) :
    Rd W r g (comR l p e).2.1 (comR l p e).2.2 l ∧ w.grownBy W (some r) ∧ ComOut w (comR l p e).1 (.returned (coV t ad n cp au d tx)) W := by
  rw [hE]
  have hn : acc.length = n := by have := h.row.1; rw [List.length_map] at this; omega
  subst hn
  refine ⟨h.rd, h.gr, ad, cp, rfl, h.row.1, ?_⟩
  rcases h.row.2 with h2 | ⟨g', cap, cur, e', hb, h3⟩
  · exact .inl h2
  · exact .inr ⟨g', cap, cur, e', by omega, h3⟩

set_option maxRecDepth 20000 in
set_option maxHeartbeats 8000000 in
theorem readCommit_any (w : World) (r g p : Nat) (e : Int) (l : List UInt8) (h : Rd w r g p e l) (hr : r < w.heap.size) (hg : g < w.heap.size) (hl : l.length ≤ 549755813888) :
    Calls Tryz.prog 129 #[.pointer (some ⟨r, 0, none⟩)] w fun x w' => Rd w' r g (comR l p e).2.1 (comR l p e).2.2 l ∧ w.grownBy w' (some r) ∧ ComOut w (comR l p e).1 x w' := by
  have h0 : Rd (w.alloc (.cells #[.int .u64 0, .slice none 0 0, .string ⟨#[]⟩, .int .i64 0, .string ⟨#[]⟩] 78)) r g p e l := h.kept (row := none) ⟨rfl, rfl, rfl, by simp, fun k hk _ => Below.heap_alloc _ _ _ hk⟩ (by simp) (by simp)
  have C0 : Hid (CR w r g l p e 0 [] none 0 0 ⟨#[]⟩ 0 ⟨#[]⟩ (w.alloc (.cells #[.int .u64 0, .slice none 0 0, .string ⟨#[]⟩, .int .i64 0, .string ⟨#[]⟩] 78))) := ⟨h0, ⟨rfl, rfl, rfl, by simp, fun k hk _ => Below.heap_alloc _ _ _ hk⟩, Box5.new _ _ _ _ _ _, World.ownsRow_nil _ _ _ _, by simp⟩
  have hw0 := word_st _ r g p e l h0
  have HU : Hid (∀ W p' e', Rd W r g p' e' l → Calls Tryz.prog 156 #[.pointer (some ⟨r, 0, none⟩)] W fun x w' => x = .returned (.int .u64 (uintR l p' e').1) ∧ Rd w' r g (uintR l p' e').2.1 (uintR l p' e').2.2 l ∧ W.grownBy w' (some r)) := fun W p' e' hW => uint_st W r g p' e' l hW
  obtain ⟨RES, hRES⟩ : ∃ RES, RES = parsR (uintR l (wordR l p e).2.1 (wordR l p e).2.2).1.toNat l (uintR l (wordR l p e).2.1 (wordR l p e).2.2).2.1 (uintR l (wordR l p e).2.1 (wordR l p e).2.2).2.2 [] := ⟨_, rfl⟩
  obtain ⟨⟨tv, p1, e1⟩, hW1⟩ : ∃ y, y = wordR l p e := ⟨_, rfl⟩
  have hfin : comR l p e = ((tv, RES.1, (textR l RES.2.1 RES.2.2 64).1, wrap64 (wordR l (textR l RES.2.1 RES.2.2 64).2.1 (textR l RES.2.1 RES.2.2 64).2.2).1, (textR l (wordR l (textR l RES.2.1 RES.2.2 64).2.1 (textR l RES.2.1 RES.2.2 64).2.2).2.1 (wordR l (textR l RES.2.1 RES.2.2 64).2.1 (textR l RES.2.1 RES.2.2 64).2.2).2.2 1024).1), (textR l (wordR l (textR l RES.2.1 RES.2.2 64).2.1 (textR l RES.2.1 RES.2.2 64).2.2).2.1 (wordR l (textR l RES.2.1 RES.2.2 64).2.1 (textR l RES.2.1 RES.2.2 64).2.2).2.2 1024).2.1, (textR l (wordR l (textR l RES.2.1 RES.2.2 64).2.1 (textR l RES.2.1 RES.2.2 64).2.2).2.1 (wordR l (textR l RES.2.1 RES.2.2 64).2.1 (textR l RES.2.1 RES.2.2 64).2.2).2.2 1024).2.2) := by unfold comR; rw [hRES, ← hW1]
  rw [← hW1] at hw0 hRES
  simp only at hw0 hRES
  obtain ⟨⟨uv, p2, e2⟩, hU1⟩ : ∃ y, y = uintR l p1 e1 := ⟨_, rfl⟩
  have huf := uintR_fits l p1 e1
  rw [← hU1] at hRES huf
  simp only at hRES huf
  have HU1 : Hid (∀ W, Rd W r g p1 e1 l → Calls Tryz.prog 156 #[.pointer (some ⟨r, 0, none⟩)] W fun x w' => x = .returned (.int .u64 uv) ∧ Rd w' r g p2 e2 l ∧ W.grownBy w' (some r)) := fun W hW => by have := HU.out W p1 e1 hW; rw [← hU1] at this; exact this
  obtain ⟨c, rfl⟩ := Int.eq_ofNat_of_zero_le huf.1
  have HR : Hid (RES = parsR c l p2 e2 []) := hRES
  have HF1 : Hid (comR l p e = ((tv, RES.1, (textR l RES.2.1 RES.2.2 64).1, wrap64 (wordR l (textR l RES.2.1 RES.2.2 64).2.1 (textR l RES.2.1 RES.2.2 64).2.2).1, (textR l (wordR l (textR l RES.2.1 RES.2.2 64).2.1 (textR l RES.2.1 RES.2.2 64).2.2).2.1 (wordR l (textR l RES.2.1 RES.2.2 64).2.1 (textR l RES.2.1 RES.2.2 64).2.2).2.2 1024).1), (textR l (wordR l (textR l RES.2.1 RES.2.2 64).2.1 (textR l RES.2.1 RES.2.2 64).2.2).2.1 (wordR l (textR l RES.2.1 RES.2.2 64).2.1 (textR l RES.2.1 RES.2.2 64).2.2).2.2 1024).2.1, (textR l (wordR l (textR l RES.2.1 RES.2.2 64).2.1 (textR l RES.2.1 RES.2.2 64).2.2).2.1 (wordR l (textR l RES.2.1 RES.2.2 64).2.1 (textR l RES.2.1 RES.2.2 64).2.2).2.2 1024).2.2)) := hfin
  have HE : Hid True := trivial
  clear hRES hfin hU1 hW1 h0 h HU
  go_enter Tryz.func129, Tryz.ntmps129
  go_wp2_with first
    | (go_at_call 94; refine hw0.mono ?_; clear hw0; rintro y w1 ⟨rfl, hR1, hG1⟩; have C1 : Hid (CR w r g l p1 e1 0 [] none 0 0 ⟨#[]⟩ 0 ⟨#[]⟩ w1) := C0.out.next hr hR1 hG1; have c1 := C1.out.box.cell.1; have f1 := C1.out.box.frozen.1; have C2 : Hid (CR w r g l p1 e1 tv [] none 0 0 ⟨#[]⟩ 0 ⟨#[]⟩ (w1.setCell ⟨w.heap.size, 0, none⟩ (.int .u64 tv))) := C1.out.set0 hr hg tv; clear C0 C1 hR1 hG1)
    | (go_at_call 156; refine (HU1.out _ C2.out.rd).mono ?_; clear HU1; rintro y w2 ⟨rfl, hR2, hG2⟩; have C3 : Hid (CR w r g l p2 e2 tv [] none 0 0 ⟨#[]⟩ 0 ⟨#[]⟩ w2) := C2.out.next hr hR2 hG2; clear C2 hR2 hG2 c1 f1)
  go_loopw [4] (fun i wr => ∃ (k q : Nat) (f : Int) (acc : List Int) (ad : Option Addr) (n cp : Nat), k ≤ 18446744073709551615 ∧ n ≤ q + 1 ∧ (f = 0 → n ≤ q) ∧ i = .int .u64 (k : Int) ∧ Hid (CR w r g l q f tv acc ad n cp ⟨#[]⟩ 0 ⟨#[]⟩ wr ∧ RES = parsR k l q f acc)) (fun i _ => (intOf i).toNat)
  case atStart => exact ⟨c, p2, e2, [], none, 0, 0, by omega, by omega, fun _ => by omega, rfl, C3.out, HR.out⟩
  case round =>
    clear C3 HR huf
    obtain ⟨k, q, f, acc, ad, n, cp, hk, hn1, hn2, rfl, H⟩ := hrel
    have HN2 : Hid (f = 0 → n ≤ q) := hn2
    clear hn2
    cases k with
    | zero =>
      have HRS : Hid (RES = (acc, q, f)) := (by rw [H.out.2]; rfl : RES = (acc, q, f))
      have C1 : Hid (CR w r g l q f tv acc ad n cp ⟨#[]⟩ 0 ⟨#[]⟩ wr) := H.out.1
      have hA := text_st wr r g q f 64 l C1.out.rd (by omega)
      have HX : Hid (∀ W p' e', Rd W r g p' e' l → Calls Tryz.prog 93 #[.pointer (some ⟨r, 0, none⟩), .int .i64 1024] W fun x w' => x = .returned (.string (textR l p' e' 1024).1) ∧ Rd w' r g (textR l p' e' 1024).2.1 (textR l p' e' 1024).2.2 l ∧ W.grownBy w' (some r)) := fun W p' e' hW => text_st W r g p' e' 1024 l hW (by omega)
      have HD : Hid (∀ W p' e', Rd W r g p' e' l → Calls Tryz.prog 94 #[.pointer (some ⟨r, 0, none⟩)] W fun x w' => x = .returned (.int .u64 (wordR l p' e').1) ∧ Rd w' r g (wordR l p' e').2.1 (wordR l p' e').2.2 l ∧ W.grownBy w' (some r)) := fun W p' e' hW => word_st W r g p' e' l hW
      have HFIN : Hid (comR l p e = ((tv, RES.1, (textR l RES.2.1 RES.2.2 64).1, wrap64 (wordR l (textR l RES.2.1 RES.2.2 64).2.1 (textR l RES.2.1 RES.2.2 64).2.2).1, (textR l (wordR l (textR l RES.2.1 RES.2.2 64).2.1 (textR l RES.2.1 RES.2.2 64).2.2).2.1 (wordR l (textR l RES.2.1 RES.2.2 64).2.1 (textR l RES.2.1 RES.2.2 64).2.2).2.2 1024).1), (textR l (wordR l (textR l RES.2.1 RES.2.2 64).2.1 (textR l RES.2.1 RES.2.2 64).2.2).2.1 (wordR l (textR l RES.2.1 RES.2.2 64).2.1 (textR l RES.2.1 RES.2.2 64).2.2).2.2 1024).2.1, (textR l (wordR l (textR l RES.2.1 RES.2.2 64).2.1 (textR l RES.2.1 RES.2.2 64).2.2).2.1 (wordR l (textR l RES.2.1 RES.2.2 64).2.1 (textR l RES.2.1 RES.2.2 64).2.2).2.2 1024).2.2)) := HF1.out
      clear H HF1 HE
      generalize hAA : textR l q f 64 = TA at hA
      obtain ⟨av, p4, e4⟩ := TA
      simp only at hA
      have HAA : Hid (textR l q f 64 = (av, p4, e4)) := hAA
      have hDD : ∃ y, y = wordR l p4 e4 := ⟨_, rfl⟩
      obtain ⟨⟨dv, p5, e5⟩, hDD⟩ := hDD
      have HD4 : Hid (∀ W, Rd W r g p4 e4 l → Calls Tryz.prog 94 #[.pointer (some ⟨r, 0, none⟩)] W fun x w' => x = .returned (.int .u64 dv) ∧ Rd w' r g p5 e5 l ∧ W.grownBy w' (some r)) := fun W hW => by have := HD.out W p4 e4 hW; rw [← hDD] at this; exact this
      have hXX : ∃ y, y = textR l p5 e5 1024 := ⟨_, rfl⟩
      obtain ⟨⟨xv, p6, e6⟩, hXX⟩ := hXX
      have HX5 : Hid (∀ W, Rd W r g p5 e5 l → Calls Tryz.prog 93 #[.pointer (some ⟨r, 0, none⟩), .int .i64 1024] W fun x w' => x = .returned (.string xv) ∧ Rd w' r g p6 e6 l ∧ W.grownBy w' (some r)) := fun W hW => by have := HX.out W p5 e5 hW; rw [← hXX] at this; exact this
      have HEND : Hid (comR l p e = ((tv, acc, av, wrap64 dv, xv), p6, e6)) := (by rw [HFIN.out, HRS.out]; simp only; rw [hAA]; simp only; rw [← hDD]; simp only; rw [← hXX] : comR l p e = ((tv, acc, av, wrap64 dv, xv), p6, e6))
      clear hAA hDD hXX HX HD HRS HAA HFIN
      go_wp2_with first
        | (go_at_call 93; refine hA.mono ?_; clear hA; rintro y w4 ⟨rfl, hR4, hG4⟩; have C4 : Hid (CR w r g l p4 e4 tv acc ad n cp ⟨#[]⟩ 0 ⟨#[]⟩ w4) := C1.out.next hr hR4 hG4; have c4 := C4.out.box.cell.2.2.1; have f4 := C4.out.box.frozen.2.2.1; have C5 : Hid (CR w r g l p4 e4 tv acc ad n cp av 0 ⟨#[]⟩ (w4.setCell ⟨w.heap.size, 2, none⟩ (.string av))) := C4.out.set2 hr hg av; clear C1 hR4 hG4 C4)
        | (go_at_call 94; refine (HD4.out _ C5.out.rd).mono ?_; clear HD4; rintro y w5 ⟨rfl, hR5, hG5⟩; have C6 : Hid (CR w r g l p5 e5 tv acc ad n cp av 0 ⟨#[]⟩ w5) := C5.out.next hr hR5 hG5; have c6 := C6.out.box.cell.2.2.2.1; have f6 := C6.out.box.frozen.2.2.2.1; have C7 : Hid (CR w r g l p5 e5 tv acc ad n cp av (wrap64 dv) ⟨#[]⟩ (w5.setCell ⟨w.heap.size, 3, none⟩ (.int .i64 (wrap64 dv)))) := C6.out.set3 hr hg (wrap64 dv); clear C5 hR5 hG5 C6 c4 f4)
        | (go_at_call 93; refine (HX5.out _ C7.out.rd).mono ?_; clear HX5; rintro y w6 ⟨rfl, hR6, hG6⟩; have C8 : Hid (CR w r g l p6 e6 tv acc ad n cp av (wrap64 dv) ⟨#[]⟩ w6) := C7.out.next hr hR6 hG6; have c8 := C8.out.box.cell.2.2.2.2; have f8 := C8.out.box.frozen.2.2.2.2; have C9 : Hid (CR w r g l p6 e6 tv acc ad n cp av (wrap64 dv) xv (w6.setCell ⟨w.heap.size, 4, none⟩ (.string xv))) := C8.out.set4 hr hg xv; obtain ⟨z0, z1, z2, z3, z4⟩ := C9.out.box.cell; clear C7 hR6 hG6 C8 c6 f6)
      go_ret
      exact com_out HEND.out C9.out
    | succ k =>
      have i1 : (0 : Int) < ((k + 1 : Nat) : Int) := by omega
      have i2 : ((k + 1 : Nat) : Int) - 1 = (k : Int) := by omega
      have re := H.out.1.rd.c1
      by_cases hf : f = 0
      · have hnq := HN2.out hf
        subst hf
        have HF := H.out.2
        unfold parsR at HF
        rw [if_neg (by simp)] at HF
        obtain ⟨⟨xv, q', f'⟩, hx⟩ : ∃ y, y = wordR l q 0 := ⟨_, rfl⟩
        have hxp : q ≤ q' ∧ (f' = 0 → q + 8 ≤ q') := by
          have h1 := fun hh => wordR_ok (l := l) (p := q) (e := 0) hh
          rw [← hx] at h1
          simp only at h1
          unfold wordR at hx
          rw [if_neg (by simp)] at hx
          split at hx <;> cases hx
          · exact ⟨Nat.le_refl _, fun h => by cases h⟩
          · exact ⟨by omega, fun _ => by omega⟩
        rw [← hx] at HF
        simp only at HF
        have HFF : Hid (RES = parsR k l q' f' (acc ++ [xv])) := HF
        have hqL := H.out.1.rd.hp
        have C4 : Hid (CR w r g l q 0 tv acc ad n cp ⟨#[]⟩ 0 ⟨#[]⟩ wr) := H.out.1
        obtain ⟨z0, z1, z2, z3, z4⟩ := C4.out.box.cell
        have HSW : Hid (∀ {ops : Array Oper} {o : Oper} {a : Act} {K : Act → World → Prop} {Q : Exit → Act → World → Prop} {E : Prop} (W : World) (_ : Rd W r g q 0 l) (_ : o.guard = none) (x : Nat) (_ : o.op = .call { callee := .value (.func 94), args := #[.tmp x], argTypes := #[184] }) (_ : a.tmps[x]?.getD undef = .pointer (some ⟨r, 0, none⟩)) (_ : ∀ w', Rd w' r g q' f' l → W.grownBy w' (some r) → K (a.put o.dst (.int .u64 xv)) w'), if Region.wanted o (yielded ops a.tmps) = true then Oper.wp Tryz.prog o a W K Q else E) := fun W hR hgd x ho hx' hK => step_word W r g q 0 l hR hgd x ho hx' (by rw [← hx]; exact hK)
        clear hx H HF
        go_wp2_with (go_at_call 95; refine (err_any _ r 0 re).mono ?_; rintro y w3 ⟨rfl, hw3⟩; subst hw3)
        go_region_law (first
          | (refine HSW.out _ (C4.out.drew hr).rd (by rfl) _ (by rfl) (by rfl) ?_; intro w4 hR4 hG4; have C5 : Hid (CR w r g l q' f' tv acc ad n cp ⟨#[]⟩ 0 ⟨#[]⟩ w4) := (C4.out.drew hr).next hr hR4 hG4; have y1 := C5.out.box.cell.2.1; have C6 : Hid (CR w r g l q' f' tv acc ad n cp ⟨#[]⟩ 0 ⟨#[]⟩ (w4.alloc (.cells #[.int .u64 xv] 31))) := C5.out.alloc hr _; have y2 := C6.out.box.cell.2.1; clear hR4 hG4)
          | (refine step_appI' _ (w.heap.size + 1) C6.out.low (by rfl) _ _ (by rfl) (.slice ad n cp) n acc (by rfl) C6.out.row ⟨w4.heap.size, 0, none⟩ 1 1 [xv] (by rfl) (ids_lit w4 xv) (by omega) ?_; intro v5 w5 ho5 hg5; obtain ⟨ad5, c5, hv5, _⟩ := row_shape ho5; subst hv5; have bx5 := C6.out.boxed hg5; have cb5 := bx5.cell.2.1; have fb5 := bx5.frozen.2.1; have C7 : Hid (CR w r g l q' f' tv (acc ++ [xv]) ad5 (n + 1) c5 ⟨#[]⟩ 0 ⟨#[]⟩ (w5.setCell ⟨w.heap.size, 1, none⟩ (.slice ad5 (n + 1) c5))) := C6.out.push hr hg ho5 hg5; clear ho5 hg5 bx5))
        all_goals
          go_wp2_with fail
          go_roundw
          case rel => exact ⟨k, q', f', acc ++ [xv], ad5, n + 1, c5, by omega, by omega, fun h => by have := hxp.2 h; omega, by simp, C7.out, HFF.out⟩
          case measure => simp [intOf]
      · have f1 : (f == 0) = false := by simp [hf]
        have f2 : (f != 0) = true := by simp [hf]
        have HRS : Hid (RES = (acc, q, f)) := (by rw [H.out.2]; unfold parsR; rw [if_pos hf] : RES = (acc, q, f))
        have C1 : Hid (CR w r g l q f tv acc ad n cp ⟨#[]⟩ 0 ⟨#[]⟩ wr) := H.out.1
        have hA := text_st wr r g q f 64 l C1.out.rd (by omega)
        have HX : Hid (∀ W p' e', Rd W r g p' e' l → Calls Tryz.prog 93 #[.pointer (some ⟨r, 0, none⟩), .int .i64 1024] W fun x w' => x = .returned (.string (textR l p' e' 1024).1) ∧ Rd w' r g (textR l p' e' 1024).2.1 (textR l p' e' 1024).2.2 l ∧ W.grownBy w' (some r)) := fun W p' e' hW => text_st W r g p' e' 1024 l hW (by omega)
        have HD : Hid (∀ W p' e', Rd W r g p' e' l → Calls Tryz.prog 94 #[.pointer (some ⟨r, 0, none⟩)] W fun x w' => x = .returned (.int .u64 (wordR l p' e').1) ∧ Rd w' r g (wordR l p' e').2.1 (wordR l p' e').2.2 l ∧ W.grownBy w' (some r)) := fun W p' e' hW => word_st W r g p' e' l hW
        have HFIN : Hid (comR l p e = ((tv, RES.1, (textR l RES.2.1 RES.2.2 64).1, wrap64 (wordR l (textR l RES.2.1 RES.2.2 64).2.1 (textR l RES.2.1 RES.2.2 64).2.2).1, (textR l (wordR l (textR l RES.2.1 RES.2.2 64).2.1 (textR l RES.2.1 RES.2.2 64).2.2).2.1 (wordR l (textR l RES.2.1 RES.2.2 64).2.1 (textR l RES.2.1 RES.2.2 64).2.2).2.2 1024).1), (textR l (wordR l (textR l RES.2.1 RES.2.2 64).2.1 (textR l RES.2.1 RES.2.2 64).2.2).2.1 (wordR l (textR l RES.2.1 RES.2.2 64).2.1 (textR l RES.2.1 RES.2.2 64).2.2).2.2 1024).2.1, (textR l (wordR l (textR l RES.2.1 RES.2.2 64).2.1 (textR l RES.2.1 RES.2.2 64).2.2).2.1 (wordR l (textR l RES.2.1 RES.2.2 64).2.1 (textR l RES.2.1 RES.2.2 64).2.2).2.2 1024).2.2)) := HF1.out
        clear H HF1 HE
        generalize hAA : textR l q f 64 = TA at hA
        obtain ⟨av, p4, e4⟩ := TA
        simp only at hA
        have HAA : Hid (textR l q f 64 = (av, p4, e4)) := hAA
        have hDD : ∃ y, y = wordR l p4 e4 := ⟨_, rfl⟩
        obtain ⟨⟨dv, p5, e5⟩, hDD⟩ := hDD
        have HD4 : Hid (∀ W, Rd W r g p4 e4 l → Calls Tryz.prog 94 #[.pointer (some ⟨r, 0, none⟩)] W fun x w' => x = .returned (.int .u64 dv) ∧ Rd w' r g p5 e5 l ∧ W.grownBy w' (some r)) := fun W hW => by have := HD.out W p4 e4 hW; rw [← hDD] at this; exact this
        have hXX : ∃ y, y = textR l p5 e5 1024 := ⟨_, rfl⟩
        obtain ⟨⟨xv, p6, e6⟩, hXX⟩ := hXX
        have HX5 : Hid (∀ W, Rd W r g p5 e5 l → Calls Tryz.prog 93 #[.pointer (some ⟨r, 0, none⟩), .int .i64 1024] W fun x w' => x = .returned (.string xv) ∧ Rd w' r g p6 e6 l ∧ W.grownBy w' (some r)) := fun W hW => by have := HX.out W p5 e5 hW; rw [← hXX] at this; exact this
        have HEND : Hid (comR l p e = ((tv, acc, av, wrap64 dv, xv), p6, e6)) := (by rw [HFIN.out, HRS.out]; simp only; rw [hAA]; simp only; rw [← hDD]; simp only; rw [← hXX] : comR l p e = ((tv, acc, av, wrap64 dv, xv), p6, e6))
        clear hAA hDD hXX HX HD HRS HAA HFIN
        go_wp2_with first
          | (go_at_call 95; refine (err_any _ r f re).mono ?_; rintro y w3 ⟨rfl, hw3⟩; subst hw3)
          | (go_at_call 93; refine hA.mono ?_; clear hA; rintro y w4 ⟨rfl, hR4, hG4⟩; have C4 : Hid (CR w r g l p4 e4 tv acc ad n cp ⟨#[]⟩ 0 ⟨#[]⟩ w4) := C1.out.next hr hR4 hG4; have c4 := C4.out.box.cell.2.2.1; have f4 := C4.out.box.frozen.2.2.1; have C5 : Hid (CR w r g l p4 e4 tv acc ad n cp av 0 ⟨#[]⟩ (w4.setCell ⟨w.heap.size, 2, none⟩ (.string av))) := C4.out.set2 hr hg av; clear C1 hR4 hG4 C4)
          | (go_at_call 94; refine (HD4.out _ C5.out.rd).mono ?_; clear HD4; rintro y w5 ⟨rfl, hR5, hG5⟩; have C6 : Hid (CR w r g l p5 e5 tv acc ad n cp av 0 ⟨#[]⟩ w5) := C5.out.next hr hR5 hG5; have c6 := C6.out.box.cell.2.2.2.1; have f6 := C6.out.box.frozen.2.2.2.1; have C7 : Hid (CR w r g l p5 e5 tv acc ad n cp av (wrap64 dv) ⟨#[]⟩ (w5.setCell ⟨w.heap.size, 3, none⟩ (.int .i64 (wrap64 dv)))) := C6.out.set3 hr hg (wrap64 dv); clear C5 hR5 hG5 C6 c4 f4)
          | (go_at_call 93; refine (HX5.out _ C7.out.rd).mono ?_; clear HX5; rintro y w6 ⟨rfl, hR6, hG6⟩; have C8 : Hid (CR w r g l p6 e6 tv acc ad n cp av (wrap64 dv) ⟨#[]⟩ w6) := C7.out.next hr hR6 hG6; have c8 := C8.out.box.cell.2.2.2.2; have f8 := C8.out.box.frozen.2.2.2.2; have C9 : Hid (CR w r g l p6 e6 tv acc ad n cp av (wrap64 dv) xv (w6.setCell ⟨w.heap.size, 4, none⟩ (.string xv))) := C8.out.set4 hr hg xv; obtain ⟨z0, z1, z2, z3, z4⟩ := C9.out.box.cell; clear C7 hR6 hG6 C8 c6 f6)
        go_ret
        exact com_out HEND.out C9.out
end Go.Proofs.YtncagdfbgpdhfaaGreat
