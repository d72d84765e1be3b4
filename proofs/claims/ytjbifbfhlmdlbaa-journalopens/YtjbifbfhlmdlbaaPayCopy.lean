/- copy into the array of a list of payloads, as a step of a walk. -/
import Derived.Test.YtjbifbfhlmdlbaaPay
namespace Go.Proofs.Ytjbifbfhlmdlbaa
open Go.RowKit

theorem cellsOf_splice (L : List UInt8) (off : Nat) (l : List UInt8) : cellsOf (splice L off l) = splice (cellsOf L) off (cellsOf l) := by
  simp [splice, cellsOf]
theorem splice_head (L : List UInt8) (off : Nat) (l : List UInt8) (h : off ≤ L.length) : (splice L off l).take (off + l.length) = L.take off ++ l := by
  unfold splice
  rw [← List.append_assoc, List.take_append_of_le_length (by simp; omega), List.take_of_length_le (by simp; omega)]
theorem splice_nil (L : List UInt8) (off : Nat) : splice L off [] = L := by simp [splice]

theorem grownBy_refl (w : World) (row : Option Nat) : w.grownBy w row := ⟨rfl, rfl, rfl, Nat.le_refl _, fun _ _ _ => rfl⟩
theorem grownBy_setRow (w : World) (g : Nat) (cs : Array Value) : w.grownBy (w.setRow g cs) (some g) :=
  ⟨rfl, rfl, rfl, by simp [World.setRow], fun k _ hk => setRow_other w g k cs (fun e => hk (by rw [e]))⟩

/-- copy of bytes into a row of bytes that is owned, from place off on -/
theorem run_copy_bytes (w : World) (ty : TypeId) (A : Value) (g na off : Nat) (full : List UInt8) (hown : w.ownsRow 0 5 1 A na (cellsOf full)) (hA : A = .slice none 0 0 ∨ A = .slice (some ⟨g, 0, none⟩) na na)
    (dp sp : Option Addr) (dl dc m c : Nat) (l : List UInt8) (hb : Bytes w sp m l) (hm : m ≤ dl) (hfit : off + m ≤ na) (hpos : 0 < m → dp = some ⟨g, off, none⟩) :
    ∃ w', (Builtin.copy_ #[22, 22] ty #[.slice dp dl dc, .slice sp m c]).run Try.prog w = .ok (goInt m) w' ∧ w'.ownsRow 0 5 1 A na (cellsOf (splice full off l)) ∧ w.grownBy w' A.ownBlock := by
  obtain ⟨i0, hi, hz0, hz1, hz2⟩ := info_parts Try.info5
  have hu := Try.underlying22
  have hsz : (Try.prog.info? 5).map (·.size) = some 1 := by rw [hi]; simp [hz1]
  have hll : (cellsOf l).length = m := by rw [cellsOf_length, hb.1]
  have hmin : Nat.min m dl = m := Nat.min_eq_left hm
  by_cases h0 : m = 0
  · subst h0
    have : l = [] := List.eq_nil_of_length_eq_zero hb.1
    subst this
    rw [splice_nil]
    exact ⟨w, run_copy_none (P := Try.prog) w 22 22 ty 5 dp sp dl dc 0 c hu hsz hmin, hown, grownBy_refl _ _⟩
  · obtain rfl := hpos (by omega)
    obtain ⟨b, so, rfl, hc⟩ := hb.2 (by omega)
    rcases hown.2 with ⟨_, hn0⟩ | ⟨g', cap, cur, hAe, _, hg, hcap, hmx, hcs, hxs⟩
    · omega
    · rcases hA with hA | hA
      · rw [hA] at hAe; cases hAe
      · rw [hA] at hAe
        cases hAe
        have hsrc : ∀ j v, (cellsOf l)[j]? = some v → w.cell? ((⟨b, so, none⟩ : Addr).add j) = some v := by
          intro j v hj
          have hjl : j < m := by have := (List.getElem?_eq_some_iff.1 hj).1; omega
          rw [cellsOf_get l j (by rw [hb.1]; exact hjl)] at hj
          rw [Addr.add_lit, hc j hjl]; exact hj
        have hcur : cur.toList = cellsOf full := by
          rw [← hxs, List.take_of_length_le (by simp; omega)]
        have hrun := run_copy_row (P := Try.prog) w 22 22 ty 5 g off dl dc ⟨b, so, none⟩ m c cur 5 (cellsOf l) hu hsz hg (by rw [hll]; exact hmin.symm) hsrc (by rw [hll, hcs]; omega) (cellsOf_one l)
        have hfl : full.length = na := by have := hown.1; rw [cellsOf_length] at this; omega
        have hsp : cur.toList.take off ++ (cellsOf l ++ cur.toList.drop (off + (cellsOf l).length)) = cellsOf (splice full off l) := by
          rw [cellsOf_splice, hcur]; rfl
        have hlen : (cellsOf (splice full off l)).length = na := by
          rw [cellsOf_splice, length_splice _ _ _ (by rw [hll, cellsOf_length, hfl]; exact hfit), cellsOf_length, hfl]
        rw [List.append_assoc, hsp] at hrun
        refine ⟨_, by rw [hrun, hll], ⟨by rw [hlen]; omega, .inr ⟨g, na, _, hA, Nat.zero_le _, setRow_heap w g _ _ _ _ hg, Nat.le_refl _, hmx, by simp [hlen], ?_⟩⟩, ?_⟩
        · simp
          exact List.take_of_length_le (by omega)
        · rw [hA]; exact grownBy_setRow w g _

theorem step_copy_bytes (w : World) {ops : Array Oper} {o : Oper} {a : Act} {K : Act → World → Prop} {Q : Exit → Act → World → Prop} {E : Prop} (hgd : o.guard = none) (d s : Operand)
    (ho : o.op = .call { callee := .builtin .copy, args := #[d, s], argTypes := #[22, 22] })
    (A : Value) (g na off : Nat) (full : List UInt8) (hown : w.ownsRow 0 5 1 A na (cellsOf full)) (hA : A = .slice none 0 0 ∨ A = .slice (some ⟨g, 0, none⟩) na na)
    (dp sp : Option Addr) (dl dc m c : Nat) (l : List UInt8) (hd : a.eval d = .slice dp dl dc) (hs : a.eval s = .slice sp m c) (hb : Bytes w sp m l) (hm : m ≤ dl) (hfit : off + m ≤ na) (hpos : 0 < m → dp = some ⟨g, off, none⟩)
    (h : ∀ w', w'.ownsRow 0 5 1 A na (cellsOf (splice full off l)) → w.grownBy w' A.ownBlock → K (a.put o.dst (goInt m)) w') :
    if Region.wanted o (yielded ops a.tmps) = true then Oper.wp Try.prog o a w K Q else E := by
  have hw : Region.wanted o (yielded ops a.tmps) = true := by simp [Region.wanted, hgd]
  rw [if_pos hw]
  obtain ⟨w', hr, h1, h2⟩ := run_copy_bytes w o.type A g na off full hown hA dp sp dl dc m c l hb hm hfit hpos
  unfold Oper.wp
  simp [execOp, ho, resolve, invoke, builtin, hd, hs, hr, Result.andThen]
  exact h w' h1 h2

theorem wpList_copy_bytes (w : World) {ops : Array Oper} {rest : List Oper} {o : Oper} {a : Act} {Q : Exit → Act → World → Prop} (hgd : o.guard = none) (d s : Operand)
    (ho : o.op = .call { callee := .builtin .copy, args := #[d, s], argTypes := #[22, 22] })
    (A : Value) (g na off : Nat) (full : List UInt8) (hown : w.ownsRow 0 5 1 A na (cellsOf full)) (hA : A = .slice none 0 0 ∨ A = .slice (some ⟨g, 0, none⟩) na na)
    (dp sp : Option Addr) (dl dc m c : Nat) (l : List UInt8) (hd : a.eval d = .slice dp dl dc) (hs : a.eval s = .slice sp m c) (hb : Bytes w sp m l) (hm : m ≤ dl) (hfit : off + m ≤ na) (hpos : 0 < m → dp = some ⟨g, off, none⟩)
    (h : ∀ w', w'.ownsRow 0 5 1 A na (cellsOf (splice full off l)) → w.grownBy w' A.ownBlock → wpList Try.prog ops Q rest (a.put o.dst (goInt m)) w') : wpList Try.prog ops Q (o :: rest) a w := by
  refine wpList_plain hgd fun K hK => ?_
  obtain ⟨w', hr, h1, h2⟩ := run_copy_bytes w o.type A g na off full hown hA dp sp dl dc m c l hb hm hfit hpos
  unfold Oper.wp
  simp [execOp, ho, resolve, invoke, builtin, hd, hs, hr, Result.andThen]
  exact hK _ _ (h w' h1 h2)

end Go.Proofs.Ytjbifbfhlmdlbaa
