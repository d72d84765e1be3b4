import Derived.Test.YtiafhbpklddlnaaC09
import Derived.Test.YtiafhbpklddlnaaC03
import Derived.Test.YtiafhbpklddlnaaC01
/- What a Journal of the program is in memory, and the walks of its calls that read: Len, Size, Record. -/
namespace Go.Proofs.Ytiafhbpklddlnaa
open Go.RowKit

/-- block j of w is a Journal over the disk in block d, of that file: its records, how many bytes they have, whether it is cut -/
structure JAt (w : World) (j d : Nat) (nm : ByteArray) (rs : List (List UInt8)) (sz : Nat) (cut : Bool) (Fp : Nat → Prop) : Prop where
  c0 : w.cell? ⟨j, 0, none⟩ = some (.pointer (some ⟨d, 0, none⟩))
  c1 : w.cell? ⟨j, 1, none⟩ = some (.string nm)
  pay : IsPay w j 2 rs Fp
  c5 : w.cell? ⟨j, 5, none⟩ = some (.int .i64 sz)
  c6 : w.cell? ⟨j, 6, none⟩ = some (.bool cut)
  f5 : w.frozen? ⟨j, 5, none⟩ = false
  f6 : w.frozen? ⟨j, 6, none⟩ = false
  fj : Fp j
  lt : ∀ k, Fp k → k < w.heap.size
  cnt : rs.length * 9 + rs.flatten.length ≤ sz
  small : sz ≤ 4194304

theorem IsPay.kept {w w' : World} {p o : Nat} {rs : List (List UInt8)} {Fp : Nat → Prop} (h : IsPay w p o rs Fp) (hp : Fp p) (hk : ∀ k, Fp k → w'.heap[k]? = w.heap[k]?) : IsPay w' p o rs Fp := by
  obtain ⟨g, na, full, A, v, xs, h, h1, h2⟩ := h
  exact ⟨g, na, full, A, v, xs, h.kept (hk p hp) (fun k h => hk k (h1 k h)) (fun k h => hk k (h2 k h)), h1, h2⟩

theorem JAt.kept {w w' : World} {j d : Nat} {nm : ByteArray} {rs : List (List UInt8)} {sz : Nat} {cut : Bool} {Fp : Nat → Prop} (h : JAt w j d nm rs sz cut Fp) (hs : w.heap.size ≤ w'.heap.size) (hk : ∀ k, Fp k → w'.heap[k]? = w.heap[k]?) : JAt w' j d nm rs sz cut Fp :=
  { h with
    c0 := by rw [World.cell?_of_block (hk j h.fj)]; exact h.c0
    c1 := by rw [World.cell?_of_block (hk j h.fj)]; exact h.c1
    pay := h.pay.kept h.fj hk
    c5 := by rw [World.cell?_of_block (hk j h.fj)]; exact h.c5
    c6 := by rw [World.cell?_of_block (hk j h.fj)]; exact h.c6
    f5 := by rw [World.frozen?_of_block (hk j h.fj)]; exact h.f5
    f6 := by rw [World.frozen?_of_block (hk j h.fj)]; exact h.f6
    lt := fun k hf => Nat.lt_of_lt_of_le (h.lt k hf) hs }
theorem JAt.turn {w w' : World} {j d : Nat} {nm : ByteArray} {rs : List (List UInt8)} {sz : Nat} {cut : Bool} {Fp Gp : Nat → Prop} (h : JAt w j d nm rs sz cut Fp) (ht : Turn Gp w w') (hd : ∀ k, Fp k → ¬ Gp k) : JAt w' j d nm rs sz cut Fp :=
  h.kept ht.size (fun k hk => ht.block k (h.lt k hk) (hd k hk))
theorem JAt.below {w w' : World} {j d : Nat} {nm : ByteArray} {rs : List (List UInt8)} {sz : Nat} {cut : Bool} {Fp : Nat → Prop} (h : JAt w j d nm rs sz cut Fp) (hB : Below w.heap.size w w') : JAt w' j d nm rs sz cut Fp :=
  h.turn (Turn.of_below (fun _ => False) hB) (fun _ _ => id)

end Go.Proofs.Ytiafhbpklddlnaa

/- A Journal whose fields are written: what it is then. -/
namespace Go.Proofs.Ytiafhbpklddlnaa
open Go.RowKit

theorem IsPay.setCell {w : World} {p o : Nat} {rs : List (List UInt8)} {Fp : Nat → Prop} (h : IsPay w p o rs Fp) (i : Nat) (u : Value) (h0 : i ≠ o) (h1 : i ≠ o + 1) (h2 : i ≠ o + 2) : IsPay (w.setCell ⟨p, i, none⟩ u) p o rs Fp := by
  obtain ⟨g, na, full, A, v, xs, h, hA, hv⟩ := h
  have hAp : ∀ k, A.ownBlock = some k → k ≠ p := fun k e => by
    rcases h.sh with ⟨e1, _⟩ | e1
    · rw [e1] at e; cases e
    · rw [e1] at e
      have : g = k := by simpa [Value.ownBlock] using e
      subst this
      exact h.gp (by rw [e1]; rfl)
  refine ⟨g, na, full, A, v, xs, { h with ca := ?_, cu := ?_, cl := ?_, fa := ?_, fu := ?_, fl := ?_, arr := ?_, row := ?_ }, hA, hv⟩
  · rw [World.cell?_setCell_other _ _ _ _ (fun e => by cases e; omega)]; exact h.ca
  · rw [World.cell?_setCell_other _ _ _ _ (fun e => by cases e; omega)]; exact h.cu
  · rw [World.cell?_setCell_other _ _ _ _ (fun e => by cases e; omega)]; exact h.cl
  · rw [World.frozen?_setCell]; exact h.fa
  · rw [World.frozen?_setCell]; exact h.fu
  · rw [World.frozen?_setCell]; exact h.fl
  · exact ownsRow_move' h.arr (fun k hk => Below.heap_setCell _ _ _ _ (hAp k hk))
  · exact ownsRow_move' h.row (fun k hk => Below.heap_setCell _ _ _ _ (fun e => h.vp (by rw [hk]; exact congrArg some e)))

theorem JAt.wide {w : World} {j d : Nat} {nm : ByteArray} {rs : List (List UInt8)} {sz : Nat} {cut : Bool} {F G : Nat → Prop} (h : JAt w j d nm rs sz cut F) (hs : ∀ k, F k → G k) (hlt : ∀ k, G k → k < w.heap.size) : JAt w j d nm rs sz cut G :=
  { h with
    pay := by
      obtain ⟨g, na, full, A, v, xs, hp, h1, h2⟩ := h.pay
      exact ⟨g, na, full, A, v, xs, hp, fun k hk => hs k (h1 k hk), fun k hk => hs k (h2 k hk)⟩
    fj := hs _ h.fj
    lt := hlt }

/-- a payload was put behind the others, and the size is written -/
theorem JAt.added {w w' : World} {j d : Nat} {nm : ByteArray} {rs : List (List UInt8)} {sz : Nat} {cut : Bool} {F : Nat → Prop} {q : List UInt8} (h : JAt w j d nm rs sz cut F) (hp : IsPay w' j 2 (rs ++ [q]) (grow F w w')) (hT : Turn F w w') (hR : Rest j 2 w w')
    (k : Nat) (hk : 9 + q.length ≤ k) (hs : sz + k ≤ 4194304) (z : Int) (hz : z = ((sz + k : Nat) : Int)) : JAt (w'.setCell ⟨j, 5, none⟩ (.int .i64 z)) j d nm (rs ++ [q]) (sz + k) cut (grow F w w') ∧ Turn F w (w'.setCell ⟨j, 5, none⟩ (.int .i64 z)) := by
  subst hz
  refine ⟨{ c0 := ?_, c1 := ?_, pay := hp.setCell 5 _ (by decide) (by decide) (by decide), c5 := ?_, c6 := ?_, f5 := ?_, f6 := ?_, fj := .inl h.fj, lt := ?_, cnt := ?_, small := hs }, hT.trans (turn_setCell w' j 5 _) (fun i _ hi => by subst hi; exact h.fj)⟩
  · rw [World.cell?_setCell_other _ _ _ _ (by simp), hR.1 0 (by decide) (by decide) (by decide)]; exact h.c0
  · rw [World.cell?_setCell_other _ _ _ _ (by simp), hR.1 1 (by decide) (by decide) (by decide)]; exact h.c1
  · exact World.cell?_setCell_same _ _ _ (by rw [hR.1 5 (by decide) (by decide) (by decide)]; exact h.c5)
  · rw [World.cell?_setCell_other _ _ _ _ (by simp), hR.1 6 (by decide) (by decide) (by decide)]; exact h.c6
  · rw [World.frozen?_setCell, hR.2]; exact h.f5
  · rw [World.frozen?_setCell, hR.2]; exact h.f6
  · intro i hi
    have := hT.size
    rcases hi with hi | hi
    · have := h.lt i hi
      simp [World.setCell]; omega
    · simp [World.setCell]; omega
  · have := h.cnt
    rw [List.length_append, List.length_singleton, List.flatten_append, List.length_append, show ([q] : List (List UInt8)).flatten = q by simp]
    omega

/-- the mark of a cut is written -/
theorem JAt.mark {w : World} {j d : Nat} {nm : ByteArray} {rs : List (List UInt8)} {sz : Nat} {cut : Bool} {F : Nat → Prop} (h : JAt w j d nm rs sz cut F) (b : Bool) : JAt (w.setCell ⟨j, 6, none⟩ (.bool b)) j d nm rs sz b F ∧ Turn F w (w.setCell ⟨j, 6, none⟩ (.bool b)) := by
  refine ⟨{ c0 := ?_, c1 := ?_, pay := h.pay.setCell 6 _ (by decide) (by decide) (by decide), c5 := ?_, c6 := ?_, f5 := ?_, f6 := ?_, fj := h.fj, lt := ?_, cnt := h.cnt, small := h.small }, (turn_setCell w j 6 _).wide (fun k hk => by subst hk; exact h.fj)⟩
  · rw [World.cell?_setCell_other _ _ _ _ (by simp)]; exact h.c0
  · rw [World.cell?_setCell_other _ _ _ _ (by simp)]; exact h.c1
  · rw [World.cell?_setCell_other _ _ _ _ (by simp)]; exact h.c5
  · exact World.cell?_setCell_same _ _ _ h.c6
  · rw [World.frozen?_setCell]; exact h.f5
  · rw [World.frozen?_setCell]; exact h.f6
  · intro i hi
    have := h.lt i hi
    simpa [World.setCell] using this

end Go.Proofs.Ytiafhbpklddlnaa

/- Laws for the walk: one byte appended to a row of bytes of the call's own, with room and without; bytes as a string. -/
namespace Go.Proofs.Ytiafhbpklddlnaa
open Go.RowKit

/-- append(out, c) where out has room: the byte was laid into a block of its own just before -/
theorem wpList_push_fits {wr : World} {ops : Array Oper} {rest : List Oper} {o : Oper} {a : Act} {Q : Exit → Act → World → Prop} (z : Int)
    (hgd : o.guard = none) (s x : Operand) (hop : o.op = Op.call { callee := Callee.builtin Builtin.append, args := #[s, x], argTypes := #[61, 61] })
    (base g m cap : Nat) (xs : List Value) (hs : a.eval s = .slice (some ⟨g, 0, none⟩) m cap) (hx : a.eval x = .slice (some ⟨wr.heap.size, 0, none⟩) 1 1)
    (hown : wr.ownsRow base 5 1 (.slice (some ⟨g, 0, none⟩) m cap) m xs) (hfit : m + 1 ≤ cap)
    (hK : ∀ w', w'.ownsRow base 5 1 (.slice (some ⟨g, 0, none⟩) (m + 1) cap) (m + 1) (xs ++ [.int .u8 z]) → wr.grownBy w' (some g) → wpList Try.prog ops Q rest (a.put o.dst (.slice (some ⟨g, 0, none⟩) (m + 1) cap)) w') :
    wpList Try.prog ops Q (o :: rest) a (wr.alloc (.cells #[.int .u8 z] 5)) := by
  obtain ⟨i0, hi, hz0, hz1, hz2⟩ := info_parts Try.info5
  refine wpList_append_fits _ hgd s x 61 hop base 5 i0 1 Try.underlying61 hi hz1 g m cap xs hs (hown.alloc _) ⟨wr.heap.size, 0, none⟩ 1 1 [.int .u8 z] hx rfl ?_ ?_ hfit ?_
  · intro j u hj
    match j, hj with
    | 0, hj => simp at hj; subst hj; simp [Addr.add]
  · intro u hu; simp at hu; subst hu; rfl
  · intro w' h1 h2
    exact hK w' h1 (grownBy_trans (World.grownBy_alloc _ _ _) h2)

/-- append(out, c) where nothing is known of the room: the new value, and where it lies, are the tape's -/
theorem wpList_push_own {wr : World} {ops : Array Oper} {rest : List Oper} {o : Oper} {a : Act} {Q : Exit → Act → World → Prop} (z : Int)
    (hgd : o.guard = none) (s x : Operand) (hop : o.op = Op.call { callee := Callee.builtin Builtin.append, args := #[s, x], argTypes := #[61, 61] })
    (base m : Nat) (v : Value) (xs : List Value) (hs : a.eval s = v) (hx : a.eval x = .slice (some ⟨wr.heap.size, 0, none⟩) 1 1)
    (hown : wr.ownsRow base 5 1 v m xs) (hm : m + 1 ≤ 140737488355328) (hb : base ≤ wr.heap.size)
    (hK : ∀ v' w', w'.ownsRow base 5 1 v' (m + 1) (xs ++ [.int .u8 z]) → Below base wr w' → wpList Try.prog ops Q rest (a.put o.dst v') w') :
    wpList Try.prog ops Q (o :: rest) a (wr.alloc (.cells #[.int .u8 z] 5)) := by
  obtain ⟨i0, hi, hz0, hz1, hz2⟩ := info_parts Try.info5
  refine wpList_append_own _ hgd s x 61 hop base 5 i0 (.int .u8 0) 1 1 Try.underlying61 hi hz0 hz1 hz2 rfl (by omega) v m xs hs (hown.alloc _) ⟨wr.heap.size, 0, none⟩ 1 1 [.int .u8 z] hx rfl ?_ ?_ (by unfold maxLen; omega) (by omega) (by simp; omega) ?_
  · intro j u hj
    match j, hj with
    | 0, hj => simp at hj; subst hj; simp [Addr.add]
  · intro u hu; simp at hu; subst hu; rfl
  · intro v' w' h1 h2 _
    exact hK v' w' h1 (((Below.refl base wr).alloc hb _).grown h2 (by simp; omega) (fun k hk => (hown.lt k hk).1))

/-- what a value that owns bytes is -/
theorem ownsRow_open {w : World} {B n : Nat} {v : Value} {l : List UInt8} (h : w.ownsRow B 5 1 v n (cellsOf l)) : ∃ ad cap, v = .slice ad n cap ∧ Bytes w ad n l ∧ n = l.length ∧ (∀ x, ad = some x → B ≤ x.block ∧ x.block < w.heap.size) := by
  have hll : l.length = n := by have := h.1; rw [cellsOf_length] at this; omega
  rcases h.2 with ⟨rfl, rfl⟩ | ⟨g, cap, cur, rfl, _⟩
  · exact ⟨none, 0, rfl, ⟨hll, fun h0 => by omega⟩, hll.symm, by simp⟩
  · refine ⟨some ⟨g, 0, none⟩, cap, rfl, (ownsRow_bytes h).1, hll.symm, fun x hx => ?_⟩
    obtain rfl := Option.some.inj hx
    exact (ownsRow_bytes h).2

end Go.Proofs.Ytiafhbpklddlnaa

/- Plain facts on numbers in groups of seven bits; nothing of the program is named here. -/
namespace Go.Proofs.Ytiafhbpklddlnaa
open Go.RowKit

/-- the number that the first k groups make -/
def accTo (l : List UInt8) : Nat → Int
  | 0 => 0
  | k + 1 => accTo l k + (bt l k % 128) * 128 ^ k
theorem accTo_succ (l : List UInt8) (k : Nat) : accTo l (k + 1) = accTo l k + (bt l k % 128) * 128 ^ k := rfl
theorem accTo_lo (l : List UInt8) (k : Nat) : 0 ≤ accTo l k := by
  induction k with
  | zero => simp [accTo]
  | succ k ih =>
    have h1 : (0 : Int) ≤ bt l k % 128 := by omega
    have h2 : (0 : Int) ≤ 128 ^ k := Int.pow_nonneg (by omega)
    have := Int.mul_nonneg h1 h2
    simp only [accTo]; omega
theorem accTo_hi (l : List UInt8) (k : Nat) : accTo l k < 128 ^ k := by
  induction k with
  | zero => simp [accTo]
  | succ k ih =>
    have h1 : bt l k % 128 ≤ 127 := by omega
    have h2 : (0 : Int) ≤ 128 ^ k := Int.pow_nonneg (by omega)
    have := Int.mul_le_mul_of_nonneg_right h1 h2
    simp only [accTo, Int.pow_succ]; omega

/-- byte c at place i cannot be of a short form -/
def brokenB (i : Nat) (c : Int) : Bool := (i == 9 && decide (1 < c)) || (decide (0 < i) && c == 0)

def numFrom (l : List UInt8) : Nat → Nat → Int × Nat × Int
  | 0, _ => (0, 0, 110)
  | f + 1, i => if brokenB i (bt l i) then (0, 0, 8) else if bt l i < 128 then (accTo l (i + 1), i + 1, 0) else numFrom l f (i + 1)
def num (l : List UInt8) : Int × Nat × Int := numFrom l l.length 0

theorem andNot128 (c : Int) (h0 : 0 ≤ c) (h1 : c ≤ 255) : bits .andNot .u8 c 128 = c % 128 := by
  have key : ∀ n : Fin 256, bits .andNot .u8 ((n.val : Nat) : Int) 128 = ((n.val : Nat) : Int) % 128 := by decide +kernel
  have h := key ⟨c.toNat, by omega⟩
  simpa [Int.toNat_of_nonneg h0] using h

theorem pow128 (k : Nat) : (128 : Int) ^ k = 2 ^ (7 * k) := by
  induction k with
  | zero => rfl
  | succ k ih => rw [Int.pow_succ, ih, show 7 * (k + 1) = 7 * k + 7 from by omega, Int.pow_add]; rfl

theorem pow128_le (k m : Nat) (h : k ≤ m) : (128 : Int) ^ k ≤ 128 ^ m := by
  have hn : (128 : Nat) ^ k ≤ 128 ^ m := Nat.pow_le_pow_right (by omega) h
  have e : ∀ j : Nat, (128 : Int) ^ j = ((128 ^ j : Nat) : Int) := by
    intro j
    simp
  rw [e, e]
  exact Int.ofNat_le.2 hn
theorem pow128_9 (k : Nat) (h : k ≤ 9) : (128 : Int) ^ k ≤ 9223372036854775808 := by
  have h9 : (128 : Int) ^ 9 = 9223372036854775808 := by decide
  rw [← h9]
  exact pow128_le k 9 h
theorem pow128_8 (k : Nat) (h : k ≤ 8) : (128 : Int) ^ k ≤ 72057594037927936 := by
  have h9 : (128 : Int) ^ 8 = 72057594037927936 := by decide
  rw [← h9]
  exact pow128_le k 8 h

theorem wraps64 (n : Int) (h₀ : 0 ≤ n) (h₁ : n < 2 ^ 64) : IntKind.u64.wrap n = n := by rw [IntKind.wrap_u64]; omega

/-- the group c at place k, laid where it belongs, fits 64 bits -/
theorem group_fits (c : Int) (k : Nat) (h0 : 0 ≤ c) (hk : k ≤ 9) (h9 : k = 9 → c ≤ 1) : 0 ≤ c % 128 * 128 ^ k ∧ c % 128 * 128 ^ k ≤ 9223372036854775808 := by
  have hp : (0 : Int) ≤ 128 ^ k := Int.pow_nonneg (by omega)
  have hc : (0 : Int) ≤ c % 128 := by omega
  refine ⟨Int.mul_nonneg hc hp, ?_⟩
  by_cases hk9 : k = 9
  · subst hk9
    have e : (128 : Int) ^ 9 = 9223372036854775808 := by decide
    have := h9 rfl
    rw [e]; omega
  · have h1 := pow128_8 k (by omega)
    have h2 : c % 128 ≤ 127 := by omega
    have := Int.mul_le_mul h2 h1 hp (by omega)
    omega

theorem or_comm64 (a b : Int) : bits .or .u64 a b = bits .or .u64 b a := by simp only [bits, BitVec.or_comm]

theorem or_step (l : List UInt8) (c : Int) (k : Nat) (h0 : 0 ≤ c) (h1 : c ≤ 255) (hk : k ≤ 9) (h9 : k = 9 → c ≤ 1) :
    bits BinOp.or IntKind.u64 (accTo l k) (IntKind.u64.wrap (IntKind.u64.wrap (bits BinOp.andNot IntKind.u8 c 128) * 2 ^ (7 * k))) = accTo l k + c % 128 * 128 ^ k := by
  have hf := group_fits c k h0 hk h9
  have a0 := accTo_lo l k
  have a1 := accTo_hi l k
  have p9 := pow128_9 k hk
  rw [andNot128 c h0 h1, wraps64 (c % 128) (by omega) (by omega), ← pow128, wraps64 _ hf.1 (by omega), or_comm64,
    bits_join .u64 64 (by decide) wraps64 (7 * k) (c % 128 * 128 ^ k) (accTo l k) hf.1 (by rw [← pow128]; exact Int.mul_emod_left _ _) (by omega) a0 (by rw [← pow128]; exact a1) (by omega)]
  omega

theorem add_step (l : List UInt8) (c : Int) (k : Nat) (h0 : 0 ≤ c) (hk : k ≤ 9) (h9 : k = 9 → c ≤ 1) :
    0 ≤ accTo l k + c % 128 * 128 ^ k ∧ accTo l k + c % 128 * 128 ^ k ≤ 18446744073709551615 := by
  have hf := group_fits c k h0 hk h9
  have a0 := accTo_lo l k
  have a1 := accTo_hi l k
  have p9 := pow128_9 k hk
  omega

theorem num_broken {l : List UInt8} {n k : Nat} (h : num l = numFrom l (n - k) k) (hlt : k < n) (hb : brokenB k (bt l k) = true) : num l = (0, 0, 8) := by
  rw [h, show n - k = (n - k - 1) + 1 from by omega, numFrom, if_pos hb]
theorem num_last {l : List UInt8} {n k : Nat} (h : num l = numFrom l (n - k) k) (hlt : k < n) (hb : brokenB k (bt l k) = false) (h8 : bt l k < 128) : num l = (accTo l (k + 1), k + 1, 0) := by
  rw [h, show n - k = (n - k - 1) + 1 from by omega, numFrom, if_neg (by simp [hb]), if_pos h8]
theorem num_next {l : List UInt8} {n k : Nat} (h : num l = numFrom l (n - k) k) (hlt : k < n) (hb : brokenB k (bt l k) = false) (h8 : ¬ bt l k < 128) : num l = numFrom l (n - (k + 1)) (k + 1) := by
  rw [h, show n - k = (n - (k + 1)) + 1 from by omega, numFrom, if_neg (by simp [hb]), if_neg h8]
theorem num_short {l : List UInt8} {n k : Nat} (h : num l = numFrom l (n - k) k) (hlt : ¬ k < n) : num l = (0, 0, 110) := by
  rw [h, show n - k = 0 from by omega, numFrom]

end Go.Proofs.Ytiafhbpklddlnaa
