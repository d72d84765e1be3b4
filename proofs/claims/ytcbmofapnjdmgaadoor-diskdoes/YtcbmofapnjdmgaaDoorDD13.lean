import Derived.Test.YtcbmofapnjdmgaaDoorDD11
/- Bytes turned into a string; the walk of the comparison of bytes; append under a guard; what pieces leave, in closed form. -/
namespace Go.Proofs.YtcbmofapnjdmgaaDoor
open Go.RowKit Go.Maps



set_option maxHeartbeats 1000000 in
theorem equal_any (w : World) (a b : Option Addr) (n m c d : Nat) (l k : List UInt8) (ha : Bytes w a n l) (hb : Bytes w b m k) :
    Calls Tryd.prog 21 #[.slice a n c, .slice b m d] w fun e w' => e = .returned (.bool (decide (l = k))) ∧ w' = w := by
  have r1 := run_string w a n c l ha
  have r2 := run_string w b m d k hb
  go_enter Tryd.func21, Tryd.ntmps21
  go_wp2
  go_ret
  refine ⟨?_, rfl⟩
  simp
  rw [Bool.eq_iff_iff]
  simp

theorem wpList_append_row_g (w : World) {ops : Array Oper} {rest : List Oper} {o : Oper} {a : Act} {Q : Exit → Act → World → Prop} (hgd : Region.wanted o (yielded ops a.tmps) = true) (s x : Operand)
    (ho : o.op = .call { callee := .builtin .append, args := #[s, x], argTypes := #[32, 32] })
    (v : Value) (n : Nat) (xs : List Value) (hs : a.eval s = v) (hown : w.ownsRow 0 5 1 v n xs) (ad : Option Addr) (m c : Nat) (l : List UInt8) (hx : a.eval x = .slice ad m c) (hb : Bytes w ad m l) (hnil : ad = none → m = 0 ∧ c = 0) (hm : n + m ≤ 140737488355328)
    (h : ∀ v' w', w'.ownsRow 0 5 1 v' (n + m) (xs ++ cellsOf l) → w.grownBy w' v.ownBlock → (v'.ownBlock = v.ownBlock ∨ v'.ownBlock = some w.heap.size) → wpList Tryd.prog ops Q rest (a.put o.dst v') w') : wpList Tryd.prog ops Q (o :: rest) a w := by
  unfold wpList
  rw [if_pos hgd]
  exact .inl (wp_append_row w s x ho v n xs hs hown ad m c l hx hb hnil hm h)

/-! ### what pieces leave -/
theorem add_add (S : DG) (nm l k : List UInt8) : (S.add nm l).add nm k = S.add nm (l ++ k) := by
  unfold DG.add DG.set
  simp only [if_true, Option.getD_some, Option.isSome_some, List.append_assoc]
  congr 1
  funext x
  split <;> rfl
theorem done_add (S : DG) (nm l : List UInt8) : (S.add nm l).done = S.done.add nm l := rfl
theorem add_wr (S : DG) (nm l : List UInt8) (n : Nat) : { S.add nm l with wr := n } = { S with wr := n }.add nm l := rfl

theorem pieces_free : ∀ (k : Nat) (S : DG) (nm l : List UInt8), S.cut = false → l.length + 1 ≤ k → pieces k S nm l = ({ S with wr := S.wr + (if l = [] then 1 else (l.length + 31) / 32) }.add nm l, 0) := by
  intro k
  induction k with
  | zero => intro S nm l _ h; omega
  | succ k ih =>
    intro S nm l hc h
    rw [pieces, if_pos (by simp [DG.can, hc])]
    split
    · rename_i h32
      have e : (if l = [] then 1 else (l.length + 31) / 32) = 1 := by
        split
        · rfl
        · rename_i h0
          have : l.length ≠ 0 := fun h' => h0 (List.eq_nil_of_length_eq_zero h')
          omega
      rw [e]
      simp [DG.done, hc]
    · rename_i h32
      rw [ih _ nm (l.drop 32) (by simp [DG.add, DG.set, DG.done, hc]) (by simp; omega)]
      have hne : l.drop 32 ≠ [] := fun h' => by have := congrArg List.length h'; simp at this; omega
      have hl0 : l ≠ [] := fun h' => by rw [h'] at h32; simp at h32
      rw [if_neg hne, if_neg hl0, add_wr]
      congr 1
      have e1 : (S.done.add nm (l.take 32)).wr + ((l.drop 32).length + 31) / 32 = S.wr + (l.length + 31) / 32 := by
        simp [DG.add, DG.set, DG.done]; omega
      rw [e1]
      have e2 : { S.done with wr := S.wr + (l.length + 31) / 32 } = { S with wr := S.wr + (l.length + 31) / 32 } := by simp [DG.done, hc]
      rw [e2, add_add, List.take_append_drop]

theorem pieces_cut : ∀ (k : Nat) (S : DG) (nm l : List UInt8), S.cut = true → l.length + 1 ≤ k → S.left * 32 < l.length → (pieces k S nm l).2 = 6 ∧ (pieces k S nm l).1.bs nm = S.bs nm ++ l.take (S.left * 32) ∧ (S.left = 0 → (pieces k S nm l).1 = S) := by
  intro k
  induction k with
  | zero => intro S nm l _ h; omega
  | succ k ih =>
    intro S nm l hc h hlt
    by_cases h0 : S.left = 0
    · rw [pieces, if_neg (by simp [DG.can, hc, h0])]
      simp [h0]
    · rw [pieces, if_pos (by simp [DG.can, hc, h0]), if_neg (by omega)]
      obtain ⟨h1, h2, _⟩ := ih (S.done.add nm (l.take 32)) nm (l.drop 32) (by simp [DG.add, DG.set, DG.done, hc]) (by simp; omega) (by simp [DG.add, DG.set, DG.done, hc]; omega)
      refine ⟨h1, ?_, fun h' => absurd h' h0⟩
      rw [h2]
      have e : (S.done.add nm (l.take 32)).left = S.left - 1 := by simp [DG.add, DG.set, DG.done, hc]
      have e1 : (S.done.add nm (l.take 32)).bs nm = S.bs nm ++ l.take 32 := by simp [DG.add, DG.set, DG.done, DG.bs]
      rw [e, e1, List.append_assoc]
      congr 1
      have : S.left * 32 = 32 + (S.left - 1) * 32 := by omega
      rw [this, List.take_add]

end Go.Proofs.YtcbmofapnjdmgaaDoor
