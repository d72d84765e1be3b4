import Derived.Test.YtiafhbpklddlnaaGreatDoorE10
import Derived.Test.YtiafhbpklddlnaaGreatDoorE06
import Derived.Test.YtiafhbpklddlnaaGreatDoorE08
import Derived.Test.YtiafhbpklddlnaaGreatDoorE07
/- Bytes turned into a string; the walk of the comparison of bytes; append under a guard; what pieces leave, in closed form. -/
namespace Go.Proofs.YtiafhbpklddlnaaGreatDoor
open Go.RowKit Go.Maps



set_option maxHeartbeats 1000000 in
theorem equal_any (w : World) (a b : Option Addr) (n m c d : Nat) (l k : List UInt8) (ha : Bytes w a n l) (hb : Bytes w b m k) :
    Calls Tryz.prog 14 #[.slice a n c, .slice b m d] w fun e w' => e = .returned (.bool (decide (l = k))) ∧ w' = w := by
  have r1 := run_string w a n c l ha
  have r2 := run_string w b m d k hb
  go_enter Tryz.func14, Tryz.ntmps14
  go_wp2
  go_ret
  refine ⟨?_, rfl⟩
  simp
  rw [Bool.eq_iff_iff]
  simp

theorem wpList_append_row_g (w : World) {ops : Array Oper} {rest : List Oper} {o : Oper} {a : Act} {Q : Exit → Act → World → Prop} (hgd : Region.wanted o (yielded ops a.tmps) = true) (s x : Operand)
    (ho : o.op = .call { callee := .builtin .append, args := #[s, x], argTypes := #[33, 33] })
    (v : Value) (n : Nat) (xs : List Value) (hs : a.eval s = v) (hown : w.ownsRow 0 5 1 v n xs) (ad : Option Addr) (m c : Nat) (l : List UInt8) (hx : a.eval x = .slice ad m c) (hb : Bytes w ad m l) (hnil : ad = none → m = 0 ∧ c = 0) (hm : n + m ≤ 140737488355328)
    (h : ∀ v' w', w'.ownsRow 0 5 1 v' (n + m) (xs ++ cellsOf l) → w.grownBy w' v.ownBlock → (v'.ownBlock = v.ownBlock ∨ v'.ownBlock = some w.heap.size) → wpList Tryz.prog ops Q rest (a.put o.dst v') w') : wpList Tryz.prog ops Q (o :: rest) a w := by
  unfold wpList
  rw [if_pos hgd]
  exact .inl (wp_append_row w s x ho v n xs hs hown ad m c l hx hb hnil hm h)

/-! ### what pieces leave -/
theorem add_add (S : DG) (nm l k : List UInt8) : (S.add nm l).add nm k = S.add nm (l ++ k) := by
  unfold DG.add DG.set
  simp only [if_true, Option.getD_some, Option.isSome_some, List.append_assoc]
  congr 1
  funext x
  split <;> rfl
theorem done_add (S : DG) (nm l : List UInt8) : (S.add nm l).done = S.done.add nm l := rfl
theorem add_wr (S : DG) (nm l : List UInt8) (n : Nat) : { S.add nm l with wr := n } = { S with wr := n }.add nm l := rfl

theorem pieces_free : ∀ (k : Nat) (S : DG) (nm l : List UInt8), S.cut = false → l.length + 1 ≤ k → pieces k S nm l = ({ S with wr := S.wr + (if l = [] then 1 else (l.length + 31) / 32) }.add nm l, 0) := by
  intro k
  induction k with
  | zero => intro S nm l _ h; omega
  | succ k ih =>
    intro S nm l hc h
    rw [pieces, if_pos (by simp [DG.can, hc])]
    split
    · rename_i h32
      have e : (if l = [] then 1 else (l.length + 31) / 32) = 1 := by
        split
        · rfl
        · rename_i h0
          have : l.length ≠ 0 := fun h' => h0 (List.eq_nil_of_length_eq_zero h')
          omega
      rw [e]
      simp [DG.done, hc]
    · rename_i h32
      rw [ih _ nm (l.drop 32) (by simp [DG.add, DG.set, DG.done, hc]) (by simp; omega)]
      have hne : l.drop 32 ≠ [] := fun h' => by have := congrArg List.length h'; simp at this; omega
      have hl0 : l ≠ [] := fun h' => by rw [h'] at h32; simp at h32
      rw [if_neg hne, if_neg hl0, add_wr]
      congr 1
      have e1 : (S.done.add nm (l.take 32)).wr + ((l.drop 32).length + 31) / 32 = S.wr + (l.length + 31) / 32 := by
        simp [DG.add, DG.set, DG.done]; omega
      rw [e1]
      have e2 : { S.done with wr := S.wr + (l.length + 31) / 32 } = { S with wr := S.wr + (l.length + 31) / 32 } := by simp [DG.done, hc]
      rw [e2, add_add, List.take_append_drop]

theorem pieces_cut : ∀ (k : Nat) (S : DG) (nm l : List UInt8), S.cut = true → l.length + 1 ≤ k → S.left * 32 < l.length → (pieces k S nm l).2 = 6 ∧ (pieces k S nm l).1.bs nm = S.bs nm ++ l.take (S.left * 32) ∧ (S.left = 0 → (pieces k S nm l).1 = S) := by
  intro k
  induction k with
  | zero => intro S nm l _ h; omega
  | succ k ih =>
    intro S nm l hc h hlt
    by_cases h0 : S.left = 0
    · rw [pieces, if_neg (by simp [DG.can, hc, h0])]
      simp [h0]
    · rw [pieces, if_pos (by simp [DG.can, hc, h0]), if_neg (by omega)]
      obtain ⟨h1, h2, _⟩ := ih (S.done.add nm (l.take 32)) nm (l.drop 32) (by simp [DG.add, DG.set, DG.done, hc]) (by simp; omega) (by simp [DG.add, DG.set, DG.done, hc]; omega)
      refine ⟨h1, ?_, fun h' => absurd h' h0⟩
      rw [h2]
      have e : (S.done.add nm (l.take 32)).left = S.left - 1 := by simp [DG.add, DG.set, DG.done, hc]
      have e1 : (S.done.add nm (l.take 32)).bs nm = S.bs nm ++ l.take 32 := by simp [DG.add, DG.set, DG.done, DG.bs]
      rw [e, e1, List.append_assoc]
      congr 1
      have : S.left * 32 = 32 + (S.left - 1) * 32 := by omega
      rw [this, List.take_add]

end Go.Proofs.YtiafhbpklddlnaaGreatDoor

/- The walks of Append. -/
namespace Go.Proofs.YtiafhbpklddlnaaGreatDoor
open Go.RowKit

theorem jappend_nil (w : World) (v : Value) : Calls Tryz.prog 26 #[.pointer none, v] w fun e w' => e = .returned (.int .i64 1) ∧ w' = w := by
  go_enter Tryz.func26, Tryz.ntmps26
  go_wp2
  go_ret
  exact ⟨rfl, rfl⟩

theorem jappend_cut (w : World) (j d : Nat) (nm : ByteArray) (rs : List (List UInt8)) (sz : Nat) (F : Nat → Prop) (h : JAt w j d nm rs sz true F) (v : Value) :
    Calls Tryz.prog 26 #[.pointer (some ⟨j, 0, none⟩), v] w fun e w' => e = .returned (.int .i64 6) ∧ w' = w := by
  have c6 := h.c6
  clear h
  go_enter Tryz.func26, Tryz.ntmps26
  go_wp2
  go_ret
  exact ⟨rfl, rfl⟩

theorem jappend_long (w : World) (j d : Nat) (nm : ByteArray) (rs : List (List UInt8)) (sz : Nat) (F : Nat → Prop) (h : JAt w j d nm rs sz false F) (a : Option Addr) (m c : Nat) (hm : 262144 < m) :
    Calls Tryz.prog 26 #[.pointer (some ⟨j, 0, none⟩), .slice a m c] w fun e w' => e = .returned (.int .i64 3) ∧ w' = w := by
  have c6 := h.c6
  have i1 : (262144 : Int) < (m : Int) := by omega
  clear h
  go_enter Tryz.func26, Tryz.ntmps26
  go_wp2
  go_ret
  exact ⟨rfl, rfl⟩

/-- what lies behind an Append to a Journal that is not cut -/
def Appended (w w' : World) (j d : Nat) (nm : ByteArray) (rs : List (List UInt8)) (sz : Nat) (F : Nat → Prop) (S : DG) (G : Nat → Prop) (l : List UInt8) (e : Ending) : Prop :=
  e = .returned (.int .i64 (S.app nm.data.toList (recB l)).2) ∧ Turn (fun k => F k ∨ G k) w w' ∧ ∃ F' G', IsDisk w' d (S.app nm.data.toList (recB l)).1 G' ∧ (∀ k, F' k → F k ∨ w.heap.size ≤ k) ∧ (∀ k, G' k → G k ∨ w.heap.size ≤ k) ∧ (∀ k, F' k → ¬ G' k) ∧
    (((S.app nm.data.toList (recB l)).2 = 0 ∧ JAt w' j d nm (rs ++ [l]) (sz + (recB l).length) false F') ∨ ((S.app nm.data.toList (recB l)).2 ≠ 0 ∧ JAt w' j d nm rs sz (decide ((S.app nm.data.toList (recB l)).2 = 6)) F'))

theorem app_ok {S : DG} {nm l : List UInt8} (h : (S.app nm l).2 = 0) : l.length + (S.bs nm).length ≤ 4194304 := by
  unfold DG.app at h
  split at h
  · cases h
  · split at h
    · cases h
    · rename_i h1 h2
      simp only [not_or] at h2
      omega

set_option maxRecDepth 20000 in
set_option maxHeartbeats 4000000 in
theorem jappend_any (w : World) (j d : Nat) (nm : ByteArray) (rs : List (List UInt8)) (sz : Nat) (F : Nat → Prop) (S : DG) (G : Nat → Prop) (h : JAt w j d nm rs sz false F) (hd : IsDisk w d S G) (hFG : ∀ k, F k → ¬ G k)
    (a : Option Addr) (m c : Nat) (l : List UInt8) (hb : Bytes w a m l) (hm : m ≤ 262144) (ha : 0 < m → ∀ x, a = some x → ¬ F x.block ∧ ¬ G x.block) (hs : nm.size ≤ maxLen) (hbs : (S.bs nm.data.toList).length ≤ 4194304) (hsz : sz ≤ (S.bs nm.data.toList).length) (hn : S.n ≤ 256) (hw : S.wr < 4000000000000000000) :
    Calls Tryz.prog 26 #[.pointer (some ⟨j, 0, none⟩), .slice a m c] w fun e w' => Appended w w' j d nm rs sz F S G l e := by
  have c6 := h.c6
  have i1 : ¬ (262144 : Int) < (m : Int) := by omega
  have hll := hb.1
  have hlt := h.lt
  have hdlt := hd.lt
  go_enter Tryz.func26, Tryz.ntmps26
  go_wp2_with fail
  refine (form_any a m c l w hb (by omega)).mono ?_
  rintro e w0 ⟨g, c1, rfl, hown0, hB0⟩
  obtain ⟨w1, hw1⟩ : ∃ w1, w1 = w0.drew := ⟨_, rfl⟩
  have hown1 : w1.ownsRow w.heap.size 5 1 (.slice (some ⟨g, 0, none⟩) (recB l).length c1) (recB l).length (cellsOf (recB l)) := by rw [hw1]; exact hown0.drew
  have hB1 : Below w.heap.size w w1 := by rw [hw1]; exact ⟨hB0.os, hB0.tape, hB0.output, hB0.size, hB0.block⟩
  have c00 : w0.cell? ⟨j, 0, none⟩ = some (.pointer (some ⟨d, 0, none⟩)) := (h.below hB0).c0
  have c01 : w0.cell? ⟨j, 1, none⟩ = some (.string nm) := (h.below hB0).c1
  clear hown0 hB0
  have hJ1 := h.below hB1
  have hd1 := hd.below hB1
  have hb1 : Bytes w1 a m l := (Turn.of_below (fun _ => False) hB1).bytes hb (fun _ _ _ => id)
  obtain ⟨hbr, hgr⟩ := ownsRow_toBytes hown1
  have hgb := hgr _ rfl
  obtain ⟨_, _, e1, hnc1, _⟩ := ownsRow_shape hown1
  cases e1
  have hx2 := append_any d S G w1 nm (some ⟨g, 0, none⟩) (recB l).length c1 (recB l) hd1 hs hbr hnc1 (by simp) (fun _ x hx => by cases hx; exact ⟨fun hg => by have := hdlt _ hg; simp only at this hgb; omega, hgb.2⟩) hbs hn hw (by have := (recB_pos l).2; omega)
  have hc0 := hJ1.c0
  have hc1 := hJ1.c1
  have hjG : ¬ G j := hFG j hJ1.fj
  have hs1 := hB1.size
  obtain ⟨er, her⟩ : ∃ er, er = (S.app nm.data.toList (recB l)).2 := ⟨_, rfl⟩
  obtain ⟨N, hN⟩ : ∃ N, N = (recB l).length := ⟨_, rfl⟩
  have HE : Hid (er = (S.app nm.data.toList (recB l)).2 ∧ N = (recB l).length) := ⟨her, hN⟩
  rw [← her, ← hN] at hx2
  rw [← hN]
  clear h hd hb hown1 hbr hgr hgb hnc1 c6 hN her
  go_wp2_with fail
  rw [hw1] at hx2
  go_region_held3 (fun W => W.cell? ⟨j, 0, none⟩ = some (.pointer (some ⟨d, 0, none⟩)) ∧ W.cell? ⟨j, 1, none⟩ = some (.string nm))
    (first
      | (go_split_ands
         refine ⟨by go_keep, by go_keep⟩)
      | (go_split_ands
         exact ⟨hT2.cell c00 hjG, hT2.cell c01 hjG⟩))
    ((go_at_call 16; refine hx2.mono ?_; rintro e w2 ⟨rfl, hd2, hT2⟩))
  rw [← hw1] at hd2 hT2
  clear hx2 hw1 c00 c01
  have hJ2 := hJ1.turn hT2 hFG
  have HT2 : Hid (Turn (fun k => F k ∨ G k) w w2) := (Turn.of_below _ hB1).trans hT2 (fun i _ h => .inr h)
  by_cases h0 : er = 0
  · have hok := app_ok (S := S) (nm := nm.data.toList) (l := recB l) (by rw [← HE.out.1]; exact h0)
    have hrl := recB_pos l
    have hcnt := hJ2.cnt
    have HD2 : Hid (IsDisk w2 d (S.app nm.data.toList (recB l)).1 (grow G w1 w2)) := hd2
    have HJ2 : Hid (JAt w2 j d nm rs sz false F) := hJ2
    have Hdis : Hid (∀ k, F k → ¬ grow G w1 w2 k) := fun k hk hg => hg.elim (hFG k hk) (fun h => by have := hlt k hk; omega)
    have Hok : Hid (sz + (recB l).length ≤ 4194304 ∧ 9 + l.length ≤ (recB l).length) := ⟨by omega, hrl.1⟩
    have hx3 := add_any j 2 rs F w2 a m c l hJ2.pay hJ2.fj hJ2.lt (hT2.bytes hb1 (fun h0 x hx => (ha h0 x hx).2)) (fun h0 x hx => (ha h0 x hx).1) (by omega) (by omega)
    subst h0
    clear hJ2 hd2 hT2 hJ1 hd1 hb1 hok hrl hcnt
    go_wp2_with fail
    refine hx3.mono ?_
    rintro e w3 ⟨rfl, hp3, hT3, hR3⟩
    have c5 : w3.cell? ⟨j, 5, none⟩ = some (.int .i64 sz) := (hR3.1 5 (by decide) (by decide) (by decide)).trans HJ2.out.c5
    have f5 : w3.frozen? ⟨j, 5, none⟩ = false := (hR3.2 5).trans HJ2.out.f5
    have hsm := HJ2.out.small
    have HA : Hid (∀ z : Int, z = ((sz + (recB l).length : Nat) : Int) → JAt (w3.setCell ⟨j, 5, none⟩ (.int .i64 z)) j d nm (rs ++ [l]) (sz + (recB l).length) false (grow F w2 w3) ∧ Turn F w2 (w3.setCell ⟨j, 5, none⟩ (.int .i64 z))) := fun z hz => HJ2.out.added hp3 hT3 hR3 _ Hok.out.2 Hok.out.1 z hz
    have hNs : N ≤ 4194304 := by have := HE.out.2; have := Hok.out.1; omega
    have hlt2 := HD2.out.lt
    clear hx3 hp3 hR3
    have hs3 := hT3.size
    have hs2 := HT2.out.size
    clear hT3
    go_wp2
    go_ret
    have hA := HA.out _ (show (sz : Int) + (N : Int) = ((sz + (recB l).length : Nat) : Int) by rw [← HE.out.2]; omega)
    have hEq := HE.out.1
    refine ⟨by rw [← hEq]; rfl, HT2.out.trans hA.2 (fun i _ h => .inl h), grow F w2 w3, grow G w1 w2, HD2.out.turn hA.2 (fun k hk hf => Hdis.out k hf hk), fun k hk => hk.imp id (fun h => by omega), fun k hk => hk.imp id (fun h => by omega), fun k hk hg => hk.elim (fun h => Hdis.out k h hg) (fun h => by have := hlt2 k hg; omega), .inl ⟨hEq.symm, hA.1⟩⟩
  · have h0' : (er != 0) = true := by simpa using h0
    have c6 := hJ2.c6
    have f6 := hJ2.f6
    have HM : Hid (∀ b, JAt (w2.setCell ⟨j, 6, none⟩ (.bool b)) j d nm rs sz b F ∧ Turn F w2 (w2.setCell ⟨j, 6, none⟩ (.bool b))) := fun b => hJ2.mark b
    have HD2 : Hid (IsDisk w2 d (S.app nm.data.toList (recB l)).1 (grow G w1 w2)) := hd2
    have Hdis : Hid (∀ k, F k → ¬ grow G w1 w2 k) := fun k hk hg => hg.elim (hFG k hk) (fun h => by have := hlt k hk; omega)
    clear hJ2 hd2 hT2 hJ1 hd1 hb1
    go_wp2
    go_ret
    have hM := HM.out (er == 6)
    have hEq := HE.out.1
    refine ⟨by rw [← hEq]; rfl, HT2.out.trans hM.2 (fun i _ h => .inl h), F, grow G w1 w2, HD2.out.turn hM.2 (fun k hk hf => Hdis.out k hf hk), fun k hk => .inl hk, fun k hk => hk.imp id (fun h => by omega), Hdis.out, .inr ⟨by rw [← hEq]; exact h0, ?_⟩⟩
    rw [← hEq]
    exact hM.1

end Go.Proofs.YtiafhbpklddlnaaGreatDoor

/- Plain facts on what the reading of a short form answers. -/
namespace Go.Proofs.YtiafhbpklddlnaaGreatDoor
open Go.RowKit

theorem numFrom_le (l : List UInt8) : ∀ f i, (numFrom l f i).2.1 ≤ f + i := by
  intro f
  induction f with
  | zero => intro i; simp [numFrom]
  | succ f ih =>
    intro i
    rw [numFrom]
    split
    · simp
    · split
      · simp only; omega
      · have := ih (i + 1); omega
theorem num_le (l : List UInt8) : (num l).2.1 ≤ l.length := by have := numFrom_le l l.length 0; unfold num; omega

theorem numFrom_pos (l : List UInt8) : ∀ f i, (numFrom l f i).2.2 = 0 → i + 1 ≤ (numFrom l f i).2.1 := by
  intro f
  induction f with
  | zero => intro i; simp [numFrom]
  | succ f ih =>
    intro i
    rw [numFrom]
    split
    · simp
    · split
      · simp
      · intro h; have := ih (i + 1) h; omega
theorem num_pos (l : List UInt8) (h : (num l).2.2 = 0) : 1 ≤ (num l).2.1 := by have := numFrom_pos l l.length 0 h; unfold num; omega

theorem numFrom_err (l : List UInt8) : ∀ f i, (numFrom l f i).2.2 = 0 ∨ ((numFrom l f i).1 = 0 ∧ (numFrom l f i).2.1 = 0 ∧ ((numFrom l f i).2.2 = 8 ∨ (numFrom l f i).2.2 = 110)) := by
  intro f
  induction f with
  | zero => intro i; simp [numFrom]
  | succ f ih =>
    intro i
    rw [numFrom]
    split
    · simp
    · split
      · simp
      · exact ih (i + 1)
theorem num_err (l : List UInt8) : (num l).2.2 = 0 ∨ ((num l).1 = 0 ∧ (num l).2.1 = 0 ∧ ((num l).2.2 = 8 ∨ (num l).2.2 = 110)) := numFrom_err l l.length 0

/-- the number fits 64 bits -/
theorem numFrom_fits (l : List UInt8) : ∀ f i, i ≤ 9 → 0 ≤ (numFrom l f i).1 ∧ (numFrom l f i).1 ≤ 18446744073709551615 := by
  intro f
  induction f with
  | zero => intro i _; simp [numFrom]
  | succ f ih =>
    intro i hi
    rw [numFrom]
    split
    · simp
    · rename_i hb
      have hb' : brokenB i (bt l i) = false := by simpa using hb
      split
      · rename_i h8
        simp only [accTo_succ]
        refine add_step l (bt l i) i (bt_lo l i) hi (fun h9 => ?_)
        subst h9
        simp [brokenB] at hb'
        omega
      · rename_i h8
        refine ih (i + 1) ?_
        by_cases h9 : i = 9
        · subst h9
          simp [brokenB] at hb'
          omega
        · omega
theorem num_fits (l : List UInt8) : 0 ≤ (num l).1 ∧ (num l).1 ≤ 18446744073709551615 := numFrom_fits l l.length 0 (by omega)

end Go.Proofs.YtiafhbpklddlnaaGreatDoor

/- Plain facts: a number has one short form; nothing of the program is named here. -/
namespace Go.Proofs.YtiafhbpklddlnaaGreatDoor
open Go.RowKit

/-- the number that groups make, the lowest first -/
def val : List UInt8 → Nat
  | [] => 0
  | c :: t => c.toNat % 128 + 128 * val t

/-- groups that are a short form -/
def Canon : List UInt8 → Prop
  | [] => False
  | [c] => c.toNat < 128
  | c :: d :: t => 128 ≤ c.toNat ∧ Canon (d :: t) ∧ 0 < val (d :: t)

theorem byte_low (c : UInt8) : UInt8.ofNat c.toNat = c := by simp
theorem byte_high (c : UInt8) (h : 128 ≤ c.toNat) : UInt8.ofNat (c.toNat % 128 + 128) = c := by
  have := c.toNat_lt
  rw [show c.toNat % 128 + 128 = c.toNat from by omega]
  simp

theorem shortF_val : ∀ (p : List UInt8) (f : Nat), Canon p → p.length ≤ f + 1 → shortF f (val p) = p := by
  intro p
  induction p with
  | nil => intro f h _; exact absurd h (by simp [Canon])
  | cons c t ih =>
    intro f h hl
    cases t with
    | nil =>
      simp only [Canon] at h
      have e : val [c] = c.toNat := by simp only [val]; omega
      rw [e, shortF_low f _ h, byte_low]
    | cons d t =>
      obtain ⟨h1, h2, h3⟩ := h
      simp only [List.length_cons] at hl
      obtain ⟨f', rfl⟩ : ∃ f', f = f' + 1 := ⟨f - 1, by omega⟩
      have e : val (c :: d :: t) = c.toNat % 128 + 128 * val (d :: t) := rfl
      have hm : val (c :: d :: t) % 128 = c.toNat % 128 := by rw [e]; omega
      have hd : val (c :: d :: t) / 128 = val (d :: t) := by rw [e]; omega
      rw [shortF_high f' _ (by rw [e]; omega), hm, hd, byte_high c h1, ih f' h2 (by simp only [List.length_cons]; omega)]

theorem drop_bt (l : List UInt8) (i : Nat) (h : i < l.length) : ∃ c : UInt8, l.drop i = c :: l.drop (i + 1) ∧ bt l i = (c.toNat : Int) := by
  refine ⟨l[i], List.drop_eq_getElem_cons h, ?_⟩
  simp [bt, h]

theorem numFrom_canon (l : List UInt8) : ∀ f i x k, i ≤ 9 → f + i = l.length → numFrom l f i = (x, k, 0) →
    ∃ p, l.drop i = p ++ l.drop k ∧ p.length + i = k ∧ Canon p ∧ (0 < i → 0 < val p) ∧ x = accTo l i + 128 ^ i * (val p : Int) ∧ k ≤ 10 := by
  intro f
  induction f with
  | zero => intro i x k _ _ h; simp [numFrom] at h
  | succ f ih =>
    intro i x k hi hf h
    obtain ⟨c, hd, hc⟩ := drop_bt l i (by omega)
    rw [numFrom] at h
    split at h
    · simp at h
    · rename_i hb
      have hb' : brokenB i (bt l i) = false := by simpa using hb
      have hcl := c.toNat_lt
      split at h
      · rename_i h8
        simp only [Prod.mk.injEq, and_true] at h
        obtain ⟨rfl, rfl⟩ := h
        refine ⟨[c], by rw [hd]; rfl, by simp; omega, by simp only [Canon]; omega, fun h0 => ?_, ?_, by omega⟩
        · simp only [brokenB, hc] at hb'
          simp only [val]
          have : ¬ (c.toNat : Int) = 0 := by
            intro e0
            simp [e0] at hb'
            omega
          omega
        · rw [accTo_succ, hc]
          simp only [val]
          have : (c.toNat : Int) % 128 * 128 ^ i = 128 ^ i * ((c.toNat % 128 + 128 * 0 : Nat) : Int) := by
            rw [Int.mul_comm]
            congr 1
          omega
      · rename_i h8
        have hi9 : i + 1 ≤ 9 := by
          by_cases h9 : i = 9
          · subst h9
            simp [brokenB] at hb'
            omega
          · omega
        obtain ⟨p, h1, h2, h3, h4, h5, h6⟩ := ih (i + 1) x k hi9 (by omega) h
        have hv := h4 (by omega)
        refine ⟨c :: p, by rw [hd, h1]; rfl, by simp; omega, ?_, fun _ => by simp only [val]; omega, ?_, h6⟩
        · cases p with
          | nil => exact absurd h3 (by simp [Canon])
          | cons d t => exact ⟨by omega, h3, hv⟩
        · rw [h5, accTo_succ, hc, Int.pow_succ]
          simp only [val]
          have e1 : ((c.toNat % 128 + 128 * val p : Nat) : Int) = (c.toNat : Int) % 128 + 128 * (val p : Int) := by omega
          rw [e1, Int.mul_add, Int.mul_comm ((c.toNat : Int) % 128), Int.mul_assoc]
          omega

/-- what a reading of a short form answers is what writing it gives -/
theorem num_back (l : List UInt8) (x : Int) (k : Nat) (h : num l = (x, k, 0)) : ∃ X : Nat, x = (X : Int) ∧ short X = l.take k ∧ 1 ≤ k ∧ k ≤ 10 ∧ k ≤ l.length ∧ X < 18446744073709551616 := by
  have hn := h
  unfold num at hn
  obtain ⟨p, h1, h2, h3, _, h5, h6⟩ := numFrom_canon l l.length 0 x k (by omega) (by omega) hn
  have hf := num_fits l
  have hle := num_le l
  have hpos := num_pos l (by rw [h])
  rw [h] at hf hle hpos
  simp only at hf hle hpos
  refine ⟨val p, by rw [h5]; simp [accTo], ?_, hpos, h6, hle, ?_⟩
  · have hp : l.take k = p := by
      have : l = p ++ l.drop k := by simpa using h1
      rw [this, List.take_append_of_le_length (by omega)]
      exact List.take_of_length_le (by omega)
    rw [hp]
    exact shortF_val p 9 h3 (by omega)
  · have : x = (val p : Int) := by rw [h5]; simp [accTo]
    omega

end Go.Proofs.YtiafhbpklddlnaaGreatDoor

/- Plain facts on the wide form that is read and on a text's bounds; nothing of the program is named here. -/
namespace Go.Proofs.YtiafhbpklddlnaaGreatDoor
open Go.RowKit

/-- the number that the first k bytes make, the highest first -/
def wideVal (l : List UInt8) : Nat → Int
  | 0 => 0
  | k + 1 => wideVal l k * 256 + bt l k
theorem wideVal_succ (l : List UInt8) (k : Nat) : wideVal l (k + 1) = wideVal l k * 256 + bt l k := rfl
theorem wideVal_lo (l : List UInt8) (k : Nat) : 0 ≤ wideVal l k := by
  induction k with
  | zero => simp [wideVal]
  | succ k ih => rw [wideVal_succ]; have := bt_lo l k; omega
theorem wideVal_hi (l : List UInt8) (k : Nat) : wideVal l k < 256 ^ k := by
  induction k with
  | zero => simp [wideVal]
  | succ k ih =>
    rw [wideVal_succ, Int.pow_succ]
    have := bt_hi l k
    omega
theorem pow256_7 (k : Nat) (h : k ≤ 7) : (256 : Int) ^ k ≤ 72057594037927936 := by
  have h9 : (256 : Int) ^ 7 = 72057594037927936 := by decide
  rw [← h9]
  have hn : (256 : Nat) ^ k ≤ 256 ^ 7 := Nat.pow_le_pow_right (by omega) h
  have e : ∀ j : Nat, (256 : Int) ^ j = ((256 ^ j : Nat) : Int) := by
    intro j
    simp
  rw [e, e]
  exact Int.ofNat_le.2 hn
theorem wideVal_7 (l : List UInt8) (k : Nat) (h : k ≤ 7) : wideVal l k < 72057594037927936 := by
  have := wideVal_hi l k
  have := pow256_7 k h
  omega
theorem wideVal_fits (l : List UInt8) (k : Nat) (h : k ≤ 8) : wideVal l k ≤ 18446744073709551615 := by
  cases k with
  | zero => simp [wideVal]
  | succ k =>
    rw [wideVal_succ]
    have := wideVal_7 l k (by omega)
    have := bt_hi l k
    omega
theorem shl8 (x v : Int) (h0 : 0 ≤ x) (h1 : x < 72057594037927936) (v0 : 0 ≤ v) (v1 : v ≤ 255) : bits BinOp.or IntKind.u64 (x * 256) v = x * 256 + v :=
  bits_join .u64 64 (by decide) wraps64 8 (x * 256) v (by omega) (by omega) (by omega) v0 (by omega) (by omega)

/-- where a text begins, and ends, whose form l begins with; or why there is none -/
def txt (l : List UInt8) (most : Int) : Nat × Nat × Int :=
  if most < 0 then (0, 0, 2)
  else if (num l).2.2 ≠ 0 then (0, 0, (num l).2.2)
  else if most < (num l).1 then (0, 0, 3)
  else if ((l.length - (num l).2.1 : Nat) : Int) < (num l).1 then (0, 0, 110)
  else ((num l).2.1, (num l).2.1 + (num l).1.toNat, 0)

theorem txt_arg (l : List UInt8) (most : Int) (h : most < 0) : txt l most = (0, 0, 2) := by rw [txt, if_pos h]
theorem txt_num (l : List UInt8) (most : Int) (h : ¬ most < 0) (hn : (num l).2.2 ≠ 0) : txt l most = (0, 0, (num l).2.2) := by rw [txt, if_neg h, if_pos hn]
theorem txt_long (l : List UInt8) (most : Int) (h : ¬ most < 0) (hn : (num l).2.2 = 0) (hl : most < (num l).1) : txt l most = (0, 0, 3) := by rw [txt, if_neg h, if_neg (by simpa using hn), if_pos hl]
theorem txt_short (l : List UInt8) (most : Int) (h : ¬ most < 0) (hn : (num l).2.2 = 0) (hl : ¬ most < (num l).1) (hs : ((l.length - (num l).2.1 : Nat) : Int) < (num l).1) : txt l most = (0, 0, 110) := by
  rw [txt, if_neg h, if_neg (by simpa using hn), if_neg hl, if_pos hs]
theorem txt_ok (l : List UInt8) (most : Int) (h : ¬ most < 0) (hn : (num l).2.2 = 0) (hl : ¬ most < (num l).1) (hs : ¬ ((l.length - (num l).2.1 : Nat) : Int) < (num l).1) : txt l most = ((num l).2.1, (num l).2.1 + (num l).1.toNat, 0) := by
  rw [txt, if_neg h, if_neg (by simpa using hn), if_neg hl, if_neg hs]

theorem txt_bounds (l : List UInt8) (most : Int) : (txt l most).1 ≤ (txt l most).2.1 ∧ (txt l most).2.1 ≤ l.length := by
  have h1 := num_le l
  have h2 := num_fits l
  unfold txt
  split
  · simp
  · split
    · simp
    · split
      · simp
      · split
        · simp
        · simp only
          omega

end Go.Proofs.YtiafhbpklddlnaaGreatDoor
