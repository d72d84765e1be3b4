import Derived.Test.YtdchmmdndgbllaaDoorU37
import Derived.Test.YtdchmmdndgbllaaDoorU35
import Derived.Test.YtdchmmdndgbllaaDoorU06
/- A row that a call puts together; what the document's Quote needs. -/
namespace Go.Proofs.YtdchmmdndgbllaaDoor
open Go.RowKit

/-- a row that a call puts together -/
structure Own (w0 : World) (v : Value) (l : List UInt8) (W : World) : Prop where
  row : W.ownsRow w0.heap.size 5 1 v l.length (cellsOf l)
  bel : Below w0.heap.size w0 W
theorem Own.size {w0 W : World} {v : Value} {l : List UInt8} (h : Own w0 v l W) : w0.heap.size ≤ W.heap.size := h.bel.size
theorem Own.below {w0 W W' : World} {v : Value} {l : List UInt8} (h : Own w0 v l W) (hb : Below W.heap.size W W') : Own w0 v l W' :=
  ⟨h.row.kept (row := none) ⟨hb.os, hb.tape, hb.output, hb.size, fun k hk _ => hb.block k hk⟩ (by cases v.ownBlock <;> simp), h.bel.trans (hb.mono h.bel.size)⟩
theorem Own.drew {w0 W : World} {v : Value} {l : List UInt8} (h : Own w0 v l W) : Own w0 v l W.drew :=
  ⟨h.row, ⟨h.bel.os, h.bel.tape, h.bel.output, h.bel.size, h.bel.block⟩⟩
theorem Own.alloc {w0 W : World} {v : Value} {l : List UInt8} (h : Own w0 v l W) (b : Obj) : Own w0 v l (W.alloc b) := h.below ((Below.refl _ _).alloc (Nat.le_refl _) _)
theorem Own.grown {w0 W W' : World} {v v' : Value} {l m : List UInt8} {n : Nat} (h : Own w0 v l W) (hg : W.grownBy W' v.ownBlock) (hn : n = m.length) (hr : W'.ownsRow w0.heap.size 5 1 v' (l.length + n) (cellsOf l ++ cellsOf m)) : Own w0 v' (l ++ m) W' :=
  ⟨by rw [List.length_append, cellsOf_append, ← hn]; exact hr, h.bel.grown hg h.bel.size (fun k hk => (row_block h.row k hk).1)⟩
theorem own_lit (w : World) : Own w (.slice (some ⟨w.heap.size, 0, none⟩) 1 1) [34] (w.alloc (.cells #[.int .u8 34] 5)) :=
  ⟨World.ownsRow_lit w #[.int .u8 34] 1 (Nat.le_refl _) (by unfold maxLen; omega) rfl, (Below.refl _ w).alloc (Nat.le_refl _) _⟩
theorem own_nil (w : World) : Own w (.slice none 0 0) [] w := ⟨World.ownsRow_nil _ _ _ _, Below.refl _ _⟩

theorem take_more (l : List UInt8) (j : Nat) (h : j < l.length) : l.take (j + 1) = l.take j ++ [l.getD j 0] := by
  rw [List.take_succ_eq_append_getElem h, List.getD_eq_getElem?_getD, List.getElem?_eq_getElem h]; rfl
theorem esc_cells2 (z : UInt8) (hi lo : Nat) (h1 : hi = z.toNat / 16) (h2 : lo = z.toNat % 16) :
    (#[.int .u8 92, .int .u8 120, .int .u8 (((hexd hi).toNat : Nat) : Int), .int .u8 (((hexd lo).toNat : Nat) : Int)] : Array Value) = (cellsOf (esc z)).toArray := by
  rw [h1, h2]; rfl

theorem wrap_u8 (n : Nat) (h : n < 256) : IntKind.u8.wrap (n : Int) = (n : Int) := by
  have : ∀ z : Fin 256, IntKind.u8.wrap ((z.val : Nat) : Int) = ((z.val : Nat) : Int) := by decide +kernel
  exact this ⟨n, h⟩

theorem rhexw_any (x : Nat) (w : World) (hx : x < 16) :
    Calls Tryd.prog 59 #[.int .u8 (IntKind.u8.wrap (x : Int))] w fun e w' => e = .returned (.int .u8 ((hexd x).toNat : Int)) ∧ w' = w := by
  rw [wrap_u8 x (by omega)]; exact rhex_any x w hx

end Go.Proofs.YtdchmmdndgbllaaDoor

/- Steps of a region that draws: calls of the document's hex and value. -/
namespace Go.Proofs.YtdchmmdndgbllaaDoor
open Go.RowKit

set_option maxRecDepth 20000 in
theorem step_hex (w : World) {ops : Array Oper} {o : Oper} {a : Act} {K : Act → World → Prop} {Q : Exit → Act → World → Prop} {E : Prop} (hgd : o.guard = none) (x : Nat) (t1 : TypeId)
    (ho : o.op = .call { callee := .value (.func 59), args := #[.tmp x], argTypes := #[t1] }) (v : Int) (hx : a.tmps[x]?.getD undef = .int .u8 v) (n : Nat) (hn : n < 16) (hv : v = (n : Int) ∨ v = IntKind.u8.wrap (n : Int)) (hK : K (a.put o.dst (.int .u8 ((hexd n).toNat : Int))) w) :
    if Region.wanted o (yielded ops a.tmps) = true then Oper.wp Tryd.prog o a w K Q else E := by
  have hv2 : v = IntKind.u8.wrap (n : Int) := hv.elim (fun e => by rw [e, wrap_u8 n (by omega)]) id
  subst hv2
  have hw : Region.wanted o (yielded ops a.tmps) = true := by simp [Region.wanted, hgd]
  rw [if_pos hw]
  unfold Oper.wp execOp
  simp [ho, resolve, invoke, go_sem, hx]
  refine (rhexw_any n w hn).mono ?_
  rintro e w' ⟨rfl, h1⟩
  subst h1
  simpa [go_sem] using hK
end Go.Proofs.YtdchmmdndgbllaaDoor

/- The document's Unquote, over bytes: it is the same. -/
namespace Go.Proofs.YtdchmmdndgbllaaDoor

def valN (c : UInt8) : Nat := if 48 ≤ c.toNat ∧ c.toNat ≤ 57 then c.toNat - 48 else if 97 ≤ c.toNat ∧ c.toNat ≤ 102 then c.toNat - 87 else 16
theorem valN_lt (c : UInt8) : valN c < 17 := by
  unfold valN
  repeat' split
  all_goals omega
/-- the byte that two digits say -/
def vx (c d : UInt8) : UInt8 := UInt8.ofNat (valN c % 16 * 16 + valN d % 16)
theorem vx_esc (b : UInt8) : vx (hexd (b.toNat / 16)) (hexd (b.toNat % 16)) = b := by
  have : ∀ z : Fin 256, vx (hexd (z.val / 16)) (hexd (z.val % 16)) = UInt8.ofNat z.val := by decide +kernel
  have h := this ⟨b.toNat, b.toNat_lt⟩
  simp only [UInt8.ofNat_toNat] at h
  exact h

/-- what is read of the bytes from a place on, of which the last is the quote -/
def runq (l : List UInt8) : List UInt8 :=
  if l.length < 2 then []
  else if l.getD 0 0 ≠ 92 then l.getD 0 0 :: runq (l.drop 1)
  else if l.getD 1 0 = 120 ∧ 5 ≤ l.length then vx (l.getD 2 0) (l.getD 3 0) :: runq (l.drop 4)
  else (if l.getD 1 0 = 110 then 10 else l.getD 1 0) :: runq (l.drop 2)
termination_by l.length
decreasing_by all_goals (rw [List.length_drop]; omega)
theorem runq_end (l : List UInt8) (h : l.length < 2) : runq l = [] := by rw [runq, if_pos h]
theorem runq_byte (l : List UInt8) (h : 2 ≤ l.length) (h1 : l.getD 0 0 ≠ 92) : runq l = l.getD 0 0 :: runq (l.drop 1) := by rw [runq, if_neg (by omega), if_pos h1]
theorem runq_hex (l : List UInt8) (h : 5 ≤ l.length) (h1 : l.getD 0 0 = 92) (h2 : l.getD 1 0 = 120) : runq l = vx (l.getD 2 0) (l.getD 3 0) :: runq (l.drop 4) := by
  rw [runq, if_neg (by omega), if_neg (by simpa using h1), if_pos ⟨h2, h⟩]
theorem runq_two (l : List UInt8) (h : 2 ≤ l.length) (h1 : l.getD 0 0 = 92) (h2 : ¬ (l.getD 1 0 = 120 ∧ 5 ≤ l.length)) : runq l = (if l.getD 1 0 = 110 then 10 else l.getD 1 0) :: runq (l.drop 2) := by
  rw [runq, if_neg (by omega), if_neg (by simpa using h1), if_neg h2]
theorem runq_len : ∀ (n : Nat) (l : List UInt8), l.length ≤ n → (runq l).length ≤ l.length
  | 0, l, h => by rw [runq_end l (by omega)]; simp
  | n + 1, l, h => by
    by_cases h0 : l.length < 2
    · rw [runq_end l h0]; simp
    · by_cases h1 : l.getD 0 0 ≠ 92
      · have := runq_len n (l.drop 1) (by rw [List.length_drop]; omega)
        rw [runq_byte l (by omega) h1, List.length_cons]
        rw [List.length_drop] at this; omega
      · have h1' : l.getD 0 0 = 92 := by simpa using h1
        by_cases h2 : l.getD 1 0 = 120 ∧ 5 ≤ l.length
        · have := runq_len n (l.drop 4) (by rw [List.length_drop]; omega)
          rw [runq_hex l h2.2 h1' h2.1, List.length_cons]
          rw [List.length_drop] at this; omega
        · have := runq_len n (l.drop 2) (by rw [List.length_drop]; omega)
          rw [runq_two l (by omega) h1' h2, List.length_cons]
          rw [List.length_drop] at this; omega

theorem runq_raw : ∀ (p X : List UInt8), (∀ c ∈ p, c ≠ 92) → X ≠ [] → runq (p ++ X) = p ++ runq X
  | [], X, _, _ => rfl
  | c :: t, X, h, hX => by
    have hl : 0 < X.length := List.length_pos_iff.2 hX
    rw [runq_byte (c :: t ++ X) (by simp; omega) (by simpa using h c (by simp))]
    show c :: runq (t ++ X) = _
    rw [runq_raw t X (fun d hd => h d (by simp [hd])) hX]; rfl
theorem runq_esc2 (c : UInt8) (X : List UInt8) (h : c ≠ 120) : runq (92 :: c :: X) = (if c = 110 then 10 else c) :: runq X := by
  rw [runq_two (92 :: c :: X) (by simp) rfl (fun e => h e.1)]; rfl
theorem runq_escs : ∀ (l X : List UInt8), X ≠ [] → runq (escs l ++ X) = l ++ runq X
  | [], X, _ => rfl
  | b :: t, X, hX => by
    have hl : 0 < X.length := List.length_pos_iff.2 hX
    have e : escs (b :: t) ++ X = 92 :: 120 :: hexd (b.toNat / 16) :: hexd (b.toNat % 16) :: (escs t ++ X) := by simp [escs, esc]
    rw [e, runq_hex _ (by simp; omega) rfl rfl]
    show vx (hexd (b.toNat / 16)) (hexd (b.toNat % 16)) :: runq (escs t ++ X) = _
    rw [vx_esc, runq_escs t X hX]; rfl
theorem runq_piece (l X : List UInt8) (hl : l ≠ []) (hX : X ≠ []) : runq (qpiece l ++ X) = l.take (dec l).2 ++ runq X := by
  unfold qpiece
  by_cases h1 : (dec l).1 = 34 ∨ (dec l).1 = 92
  · rw [if_pos h1]
    rcases h1 with h1 | h1
    · rw [dec_byte l hl 34 h1 (by omega), h1]; exact runq_esc2 34 X (by decide)
    · rw [dec_byte l hl 92 h1 (by omega), h1]; exact runq_esc2 92 X (by decide)
  · rw [if_neg h1]
    by_cases h2 : (dec l).1 = 10
    · rw [if_pos h2, dec_byte l hl 10 h2 (by omega)]; exact runq_esc2 110 X (by decide)
    · rw [if_neg h2]
      by_cases h3 : (ctl (dec l).1 || brk l) = true
      · rw [if_pos h3]; exact runq_escs _ X hX
      · rw [if_neg h3]
        refine runq_raw _ X (fun c hc => ?_) hX
        rcases piece_bytes l hl c hc with h | h
        · exact fun e => h1 (.inr (by rw [← h.1, e]; rfl))
        · exact fun e => by rw [e] at h; exact absurd h.1 (by decide)
theorem runq_qs : ∀ (k : Nat) (l : List UInt8), l.length ≤ k → runq (qs l ++ [34]) = l
  | 0, l, h => by
    have : l = [] := List.length_eq_zero_iff.1 (by omega)
    rw [this, qs_nil]; exact runq_end _ (by simp)
  | k + 1, l, h => by
    by_cases e : l = []
    · rw [e, qs_nil]; exact runq_end _ (by simp)
    · have h1 := drop_lt l e
      rw [qs_go l e, List.append_assoc, runq_piece l _ e (by simp), runq_qs k _ (by omega), List.take_append_drop]
/-- what the document's Unquote answers -/
def runqO (l : List UInt8) : Option (List UInt8) := if l.length < 2 then none else if quoteL (runq (l.drop 1)) = l then some (runq (l.drop 1)) else none
theorem runqO_eq (l : List UInt8) : runqO l = unq l := by
  cases hu : unq l with
  | some t =>
    have h := unq_some l t hu
    have hd : l.drop 1 = qs t ++ [34] := by rw [← h]; rfl
    have hr : runq (l.drop 1) = t := by rw [hd]; exact runq_qs _ t (Nat.le_refl _)
    unfold runqO
    rw [if_neg (by rw [← h]; simp [quoteL]), hr, if_pos h]
  | none =>
    unfold runqO
    by_cases h2 : l.length < 2
    · rw [if_pos h2]
    · rw [if_neg h2]
      by_cases h3 : quoteL (runq (l.drop 1)) = l
      · rw [← h3, unq_quote] at hu; cases hu
      · rw [if_neg h3]
end Go.Proofs.YtdchmmdndgbllaaDoor
