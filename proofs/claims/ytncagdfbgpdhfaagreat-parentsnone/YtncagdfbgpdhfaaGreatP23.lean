import Derived.Test.YtncagdfbgpdhfaaGreatP20
import Derived.Test.YtncagdfbgpdhfaaGreatP22
import Derived.Test.YtncagdfbgpdhfaaGreatP02
import Derived.Test.YtncagdfbgpdhfaaGreatP12
/- The walks of Append. -/
namespace Go.Proofs.YtncagdfbgpdhfaaGreat
open Go.RowKit

/-- what lies behind an Append to a Journal that is not cut -/
def Appended (w w' : World) (j d : Nat) (nm : ByteArray) (rs : List (List UInt8)) (sz : Nat) (F : Nat → Prop) (S : DG) (G : Nat → Prop) (l : List UInt8) (e : Ending) : Prop :=
  e = .returned (.int .i64 (S.app nm.data.toList (recB l)).2) ∧ Turn (fun k => F k ∨ G k) w w' ∧ ∃ F' G', IsDisk w' d (S.app nm.data.toList (recB l)).1 G' ∧ (∀ k, F' k → F k ∨ w.heap.size ≤ k) ∧ (∀ k, G' k → G k ∨ w.heap.size ≤ k) ∧ (∀ k, F' k → ¬ G' k) ∧
    (((S.app nm.data.toList (recB l)).2 = 0 ∧ JAt w' j d nm (rs ++ [l]) (sz + (recB l).length) false F') ∨ ((S.app nm.data.toList (recB l)).2 ≠ 0 ∧ JAt w' j d nm rs sz (decide ((S.app nm.data.toList (recB l)).2 = 6)) F'))

theorem app_ok {S : DG} {nm l : List UInt8} (h : (S.app nm l).2 = 0) : l.length + (S.bs nm).length ≤ 4194304 := by
  unfold DG.app at h
  split at h
  · cases h
  · split at h
    · cases h
    · rename_i h1 h2
      simp only [not_or] at h2
      omega

set_option maxRecDepth 20000 in
set_option maxHeartbeats 4000000 in
theorem jappend_any (w : World) (j d : Nat) (nm : ByteArray) (rs : List (List UInt8)) (sz : Nat) (F : Nat → Prop) (S : DG) (G : Nat → Prop) (h : JAt w j d nm rs sz false F) (hd : IsDisk w d S G) (hFG : ∀ k, F k → ¬ G k)
    (a : Option Addr) (m c : Nat) (l : List UInt8) (hb : Bytes w a m l) (hm : m ≤ 262144) (ha : 0 < m → ∀ x, a = some x → ¬ F x.block ∧ ¬ G x.block) (hs : nm.size ≤ maxLen) (hbs : (S.bs nm.data.toList).length ≤ 4194304) (hsz : sz ≤ (S.bs nm.data.toList).length) (hn : S.n ≤ 256) (hw : S.wr < 4000000000000000000) :
    Calls Tryz.prog 78 #[.pointer (some ⟨j, 0, none⟩), .slice a m c] w fun e w' => Appended w w' j d nm rs sz F S G l e := by
  have c6 := h.c6
  have i1 : ¬ (262144 : Int) < (m : Int) := by omega
  have hll := hb.1
  have hlt := h.lt
  have hdlt := hd.lt
  go_enter Tryz.func78, Tryz.ntmps78
  go_wp2_with fail
  refine (form_any a m c l w hb (by omega)).mono ?_
  rintro e w0 ⟨g, c1, rfl, hown0, hB0⟩
  obtain ⟨w1, hw1⟩ : ∃ w1, w1 = w0.drew := ⟨_, rfl⟩
  have hown1 : w1.ownsRow w.heap.size 5 1 (.slice (some ⟨g, 0, none⟩) (recB l).length c1) (recB l).length (cellsOf (recB l)) := by rw [hw1]; exact hown0.drew
  have hB1 : Below w.heap.size w w1 := by rw [hw1]; exact ⟨hB0.os, hB0.tape, hB0.output, hB0.size, hB0.block⟩
  have c00 : w0.cell? ⟨j, 0, none⟩ = some (.pointer (some ⟨d, 0, none⟩)) := (h.below hB0).c0
  have c01 : w0.cell? ⟨j, 1, none⟩ = some (.string nm) := (h.below hB0).c1
  clear hown0 hB0
  have hJ1 := h.below hB1
  have hd1 := hd.below hB1
  have hb1 : Bytes w1 a m l := (Turn.of_below (fun _ => False) hB1).bytes hb (fun _ _ _ => id)
  obtain ⟨hbr, hgr⟩ := ownsRow_toBytes hown1
  have hgb := hgr _ rfl
  obtain ⟨_, _, e1, hnc1, _⟩ := ownsRow_shape hown1
  cases e1
  have hx2 := append_any d S G w1 nm (some ⟨g, 0, none⟩) (recB l).length c1 (recB l) hd1 hs hbr hnc1 (by simp) (fun _ x hx => by cases hx; exact ⟨fun hg => by have := hdlt _ hg; simp only at this hgb; omega, hgb.2⟩) hbs hn hw (by have := (recB_pos l).2; omega)
  have hc0 := hJ1.c0
  have hc1 := hJ1.c1
  have hjG : ¬ G j := hFG j hJ1.fj
  have hs1 := hB1.size
  obtain ⟨er, her⟩ : ∃ er, er = (S.app nm.data.toList (recB l)).2 := ⟨_, rfl⟩
  obtain ⟨N, hN⟩ : ∃ N, N = (recB l).length := ⟨_, rfl⟩
  have HE : Hid (er = (S.app nm.data.toList (recB l)).2 ∧ N = (recB l).length) := ⟨her, hN⟩
  rw [← her, ← hN] at hx2
  rw [← hN]
  clear h hd hb hown1 hbr hgr hgb hnc1 c6 hN her
  go_wp2_with fail
  rw [hw1] at hx2
  go_region_held3 (fun W => W.cell? ⟨j, 0, none⟩ = some (.pointer (some ⟨d, 0, none⟩)) ∧ W.cell? ⟨j, 1, none⟩ = some (.string nm))
    (first
      | (go_split_ands
         refine ⟨by go_keep, by go_keep⟩)
      | (go_split_ands
         exact ⟨hT2.cell c00 hjG, hT2.cell c01 hjG⟩))
    ((go_at_call 107; refine hx2.mono ?_; rintro e w2 ⟨rfl, hd2, hT2⟩))
  rw [← hw1] at hd2 hT2
  clear hx2 hw1 c00 c01
  have hJ2 := hJ1.turn hT2 hFG
  have HT2 : Hid (Turn (fun k => F k ∨ G k) w w2) := (Turn.of_below _ hB1).trans hT2 (fun i _ h => .inr h)
  by_cases h0 : er = 0
  · have hok := app_ok (S := S) (nm := nm.data.toList) (l := recB l) (by rw [← HE.out.1]; exact h0)
    have hrl := recB_pos l
    have hcnt := hJ2.cnt
    have HD2 : Hid (IsDisk w2 d (S.app nm.data.toList (recB l)).1 (grow G w1 w2)) := hd2
    have HJ2 : Hid (JAt w2 j d nm rs sz false F) := hJ2
    have Hdis : Hid (∀ k, F k → ¬ grow G w1 w2 k) := fun k hk hg => hg.elim (hFG k hk) (fun h => by have := hlt k hk; omega)
    have Hok : Hid (sz + (recB l).length ≤ 4194304 ∧ 9 + l.length ≤ (recB l).length) := ⟨by omega, hrl.1⟩
    have hx3 := add_any j 2 rs F w2 a m c l hJ2.pay hJ2.fj hJ2.lt (hT2.bytes hb1 (fun h0 x hx => (ha h0 x hx).2)) (fun h0 x hx => (ha h0 x hx).1) (by omega) (by omega)
    subst h0
    clear hJ2 hd2 hT2 hJ1 hd1 hb1 hok hrl hcnt
    go_wp2_with fail
    refine hx3.mono ?_
    rintro e w3 ⟨rfl, hp3, hT3, hR3⟩
    have c5 : w3.cell? ⟨j, 5, none⟩ = some (.int .i64 sz) := (hR3.1 5 (by decide) (by decide) (by decide)).trans HJ2.out.c5
    have f5 : w3.frozen? ⟨j, 5, none⟩ = false := (hR3.2 5).trans HJ2.out.f5
    have hsm := HJ2.out.small
    have HA : Hid (∀ z : Int, z = ((sz + (recB l).length : Nat) : Int) → JAt (w3.setCell ⟨j, 5, none⟩ (.int .i64 z)) j d nm (rs ++ [l]) (sz + (recB l).length) false (grow F w2 w3) ∧ Turn F w2 (w3.setCell ⟨j, 5, none⟩ (.int .i64 z))) := fun z hz => HJ2.out.added hp3 hT3 hR3 _ Hok.out.2 Hok.out.1 z hz
    have hNs : N ≤ 4194304 := by have := HE.out.2; have := Hok.out.1; omega
    have hlt2 := HD2.out.lt
    clear hx3 hp3 hR3
    have hs3 := hT3.size
    have hs2 := HT2.out.size
    clear hT3
    go_wp2
    go_ret
    have hA := HA.out _ (show (sz : Int) + (N : Int) = ((sz + (recB l).length : Nat) : Int) by rw [← HE.out.2]; omega)
    have hEq := HE.out.1
    refine ⟨by rw [← hEq]; rfl, HT2.out.trans hA.2 (fun i _ h => .inl h), grow F w2 w3, grow G w1 w2, HD2.out.turn hA.2 (fun k hk hf => Hdis.out k hf hk), fun k hk => hk.imp id (fun h => by omega), fun k hk => hk.imp id (fun h => by omega), fun k hk hg => hk.elim (fun h => Hdis.out k h hg) (fun h => by have := hlt2 k hg; omega), .inl ⟨hEq.symm, hA.1⟩⟩
  · have h0' : (er != 0) = true := by simpa using h0
    have c6 := hJ2.c6
    have f6 := hJ2.f6
    have HM : Hid (∀ b, JAt (w2.setCell ⟨j, 6, none⟩ (.bool b)) j d nm rs sz b F ∧ Turn F w2 (w2.setCell ⟨j, 6, none⟩ (.bool b))) := fun b => hJ2.mark b
    have HD2 : Hid (IsDisk w2 d (S.app nm.data.toList (recB l)).1 (grow G w1 w2)) := hd2
    have Hdis : Hid (∀ k, F k → ¬ grow G w1 w2 k) := fun k hk hg => hg.elim (hFG k hk) (fun h => by have := hlt k hk; omega)
    clear hJ2 hd2 hT2 hJ1 hd1 hb1
    go_wp2
    go_ret
    have hM := HM.out (er == 6)
    have hEq := HE.out.1
    refine ⟨by rw [← hEq]; rfl, HT2.out.trans hM.2 (fun i _ h => .inl h), F, grow G w1 w2, HD2.out.turn hM.2 (fun k hk hf => Hdis.out k hf hk), fun k hk => .inl hk, fun k hk => hk.imp id (fun h => by omega), Hdis.out, .inr ⟨by rw [← hEq]; exact h0, ?_⟩⟩
    rw [← hEq]
    exact hM.1

end Go.Proofs.YtncagdfbgpdhfaaGreat

/- Plain: what a read of each kind makes of the bytes that are left and of the error: the rest, the error, the number told, the bytes told. -/
namespace Go.Proofs.YtncagdfbgpdhfaaGreat
open Go.RowKit

end Go.Proofs.YtncagdfbgpdhfaaGreat

/- Plain: what was written is read as the same; of a shorter beginning the read is refused with 110. Nothing of the program is named here. -/
namespace Go.Proofs.YtncagdfbgpdhfaaGreat
open Go.RowKit

theorem shortF_canon : ∀ (f x : Nat), x < 128 ^ (f + 1) → Canon (shortF f x) ∧ val (shortF f x) = x := by
  intro f
  induction f with
  | zero =>
    intro x hx
    have hx' : x < 128 := by simpa using hx
    have e : (UInt8.ofNat x).toNat = x := by rw [UInt8.toNat_ofNat']; omega
    simp only [shortF, Canon, val, e]
    omega
  | succ f ih =>
    intro x hx
    by_cases h : x < 128
    · have e : (UInt8.ofNat x).toNat = x := by rw [UInt8.toNat_ofNat']; omega
      rw [shortF_low _ _ h]
      simp only [Canon, val, e]
      omega
    · rw [shortF_high f x h]
      obtain ⟨h1, h2⟩ := ih (x / 128) (by rw [Nat.pow_succ] at hx; exact Nat.div_lt_of_lt_mul (by rw [Nat.mul_comm]; exact hx))
      have e : (UInt8.ofNat (x % 128 + 128)).toNat = x % 128 + 128 := by rw [UInt8.toNat_ofNat']; omega
      constructor
      · cases hs : shortF f (x / 128) with
        | nil => rw [hs] at h1; exact absurd h1 (by simp [Canon])
        | cons d t => rw [hs] at h1 h2; exact ⟨by rw [e]; omega, h1, by rw [h2]; omega⟩
      · simp only [val, e, h2]; omega
theorem short_canon (x : Nat) (hx : x < 18446744073709551616) : Canon (short x) ∧ val (short x) = x :=
  shortF_canon 9 x (by have : (18446744073709551616 : Nat) ≤ 128 ^ (9 + 1) := by decide
                       omega)

theorem drop_cons {l : List UInt8} {i : Nat} {c : UInt8} {t : List UInt8} (h : l.drop i = c :: t) : bt l i = (c.toNat : Int) ∧ l.drop (i + 1) = t := by
  have hi : i < l.length := by
    by_cases hi : i < l.length
    · exact hi
    · rw [List.drop_eq_nil_of_le (by omega)] at h; cases h
  obtain ⟨c', h1, h2⟩ := drop_bt l i hi
  rw [h1] at h
  simp only [List.cons.injEq] at h
  rw [h.1] at h2
  exact ⟨h2, h.2⟩

theorem canon_num : ∀ (p : List UInt8), Canon p → ∀ (i f : Nat) (l rest : List UInt8), l.drop i = p ++ rest → p.length ≤ f → i ≤ 9 → (0 < i → 0 < val p) → val p * 128 ^ i < 18446744073709551616 →
    numFrom l f i = (accTo l i + 128 ^ i * (val p : Int), i + p.length, 0) := by
  intro p
  induction p with
  | nil => intro h; exact absurd h (by simp [Canon])
  | cons c t ih =>
    intro hp i f l rest hd hf hi hv hlim
    obtain ⟨f', rfl⟩ : ∃ f', f = f' + 1 := ⟨f - 1, by simp at hf; omega⟩
    obtain ⟨hbt, hd'⟩ := drop_cons hd
    have hcl := c.toNat_lt
    cases t with
    | nil =>
      simp only [Canon] at hp
      have hval : val [c] = c.toNat := by simp only [val]; omega
      rw [hval] at hlim hv
      have hb : brokenB i (bt l i) = false := by
        rw [hbt]
        simp only [brokenB]
        have h9 : i = 9 → c.toNat ≤ 1 := by
          intro h9; subst h9
          have : (128 : Nat) ^ 9 = 9223372036854775808 := by decide
          rw [this] at hlim
          omega
        have h0 : 0 < i → ¬ c.toNat = 0 := fun h => by have := hv h; omega
        by_cases h1 : i = 9
        · have := h9 h1
          have := h0 (by omega)
          simp [h1]
          omega
        · by_cases h2 : 0 < i
          · have := h0 h2
            simp [h1]
            omega
          · simp [h1]
            omega
      rw [numFrom, if_neg (by simp [hb]), if_pos (by rw [hbt]; omega), accTo_succ, hbt, hval]
      simp only [List.length_singleton, Prod.mk.injEq, and_true]
      have : (c.toNat : Int) % 128 = (c.toNat : Int) := by omega
      rw [this, Int.mul_comm]
    | cons d t =>
      obtain ⟨h1, h2, h3⟩ := hp
      have hval : val (c :: d :: t) = c.toNat % 128 + 128 * val (d :: t) := rfl
      have hi8 : i ≤ 8 := by
        by_cases h9 : i = 9
        · subst h9
          have h128 : (128 : Nat) ^ 9 = 9223372036854775808 := by decide
          rw [h128, hval] at hlim
          omega
        · omega
      have hb : brokenB i (bt l i) = false := by
        rw [hbt]
        simp only [brokenB]
        have : ¬ i = 9 := by omega
        simp [this]
        omega
      have hlim' : val (d :: t) * 128 ^ (i + 1) < 18446744073709551616 := by
        have hle : val (d :: t) * 128 ^ (i + 1) ≤ val (c :: d :: t) * 128 ^ i := by
          rw [Nat.pow_succ, Nat.mul_comm (128 ^ i) 128, ← Nat.mul_assoc]
          exact Nat.mul_le_mul_right _ (by rw [hval]; omega)
        omega
      rw [numFrom, if_neg (by simp [hb]), if_neg (by rw [hbt]; omega), ih h2 (i + 1) f' l rest hd' (by simp at hf ⊢; omega) (by omega) (fun _ => h3) hlim', accTo_succ, hbt, hval, Int.pow_succ]
      simp only [List.length_cons, Prod.mk.injEq, and_true]
      refine ⟨?_, by omega⟩
      have e1 : ((c.toNat % 128 + 128 * val (d :: t) : Nat) : Int) = (c.toNat : Int) % 128 + 128 * (val (d :: t) : Int) := by omega
      rw [e1, Int.mul_add, Int.mul_comm ((c.toNat : Int) % 128), Int.mul_assoc]
      omega

theorem num_short_app (x : Nat) (hx : x < 18446744073709551616) (rest : List UInt8) : num (short x ++ rest) = ((x : Int), (short x).length, 0) := by
  obtain ⟨h1, h2⟩ := short_canon x hx
  unfold num
  rw [canon_num (short x) h1 0 _ (short x ++ rest) rest rfl (by simp) (by omega) (fun h => by omega) (by rw [h2]; omega), h2]
  simp [accTo]

theorem wideVal_wide (x : Nat) (rest : List UInt8) : ∀ k, k ≤ 8 → x < 256 ^ 8 → wideVal (wide x ++ rest) k = ((x / 256 ^ (8 - k) : Nat) : Int) := by
  intro k
  induction k with
  | zero => intro _ hx; rw [Nat.sub_zero, Nat.div_eq_of_lt hx]; rfl
  | succ k ih =>
    intro hk hx
    have hb : bt (wide x ++ rest) k = ((x / 256 ^ (7 - k) % 256 : Nat) : Int) := by
      have h1 : bt (wide x ++ rest) k = bt (wide x) k := by
        unfold bt
        rw [List.getD_eq_getElem?_getD, List.getD_eq_getElem?_getD, List.getElem?_append_left (by unfold wide; rw [wideTo_len]; omega)]
      rw [h1]
      exact wideTo_bt x k 8 (by omega)
    rw [wideVal_succ, ih (by omega) hx, hb, show 8 - k = (7 - k) + 1 from by omega, show 8 - (k + 1) = 7 - k from by omega, Nat.pow_succ, ← Nat.div_div_eq_div_mul]
    omega

end Go.Proofs.YtncagdfbgpdhfaaGreat

/- Plain: what records the bytes of a file are; that records come back, and that a beginning of one is told as such. Nothing of the program is named here. -/
namespace Go.Proofs.YtncagdfbgpdhfaaGreat
open Go.RowKit

/-- what bytes begin with: a beginning of a record, or what is wrong, or a record, and how many bytes it has -/
inductive P1 where
  | short
  | wrong
  | one (l : List UInt8) (k : Nat)

def pay1 (l : List UInt8) : List UInt8 := (l.take (txt l 262144).2.1).drop (txt l 262144).1
def rec1 (l : List UInt8) : P1 :=
  if (txt l 262144).2.2 = 110 then .short
  else if (txt l 262144).2.2 ≠ 0 then .wrong
  else if l.length - (txt l 262144).2.1 < 8 then .short
  else if wideVal ((l.drop (txt l 262144).2.1).take 8) 8 ≠ (hashN (pay1 l) : Int) then .wrong
  else .one (pay1 l) ((txt l 262144).2.1 + 8)

/-- the records of bytes, how many bytes they have, and whether what is left is wrong -/
def parse : Nat → List UInt8 → List (List UInt8) × Nat × Bool
  | 0, _ => ([], 0, false)
  | f + 1, l => if l = [] then ([], 0, false) else
    match rec1 l with
    | .short => ([], 0, false)
    | .wrong => ([], 0, true)
    | .one p k => (p :: (parse f (l.drop k)).1, k + (parse f (l.drop k)).2.1, (parse f (l.drop k)).2.2)

theorem rec1_one {l p : List UInt8} {k : Nat} (h : rec1 l = .one p k) : p = pay1 l ∧ k = (txt l 262144).2.1 + 8 ∧ k ≤ l.length ∧ 9 + p.length ≤ k ∧ (txt l 262144).2.2 = 0 ∧ p.length ≤ 262144 := by
  unfold rec1 at h
  split at h
  · cases h
  · split at h
    · cases h
    · split at h
      · cases h
      · split at h
        · cases h
        · rename_i h1 h2 h3 h4
          cases h
          have h2' : (txt l 262144).2.2 = 0 := by simpa using h2
          obtain ⟨b1, b2⟩ := txt_bounds l 262144
          have hn : (num l).2.2 = 0 := by
            by_cases hn : (num l).2.2 = 0
            · exact hn
            · rw [txt_num l 262144 (by decide) hn] at h2'; exact absurd h2' hn
          have hl : ¬ (262144 : Int) < (num l).1 := fun hl => by rw [txt_long l 262144 (by decide) hn hl] at h2'; cases h2'
          have hs : ¬ ((l.length - (num l).2.1 : Nat) : Int) < (num l).1 := fun hs => by rw [txt_short l 262144 (by decide) hn hl hs] at h2'; cases h2'
          have ht := txt_ok l 262144 (by decide) hn hl hs
          have hp := num_pos l hn
          have hlen : (pay1 l).length = (txt l 262144).2.1 - (txt l 262144).1 := by
            unfold pay1; rw [List.length_drop, List.length_take]; omega
          have hge : 1 ≤ (txt l 262144).1 := by rw [ht]; exact hp
          have hf := (num_fits l).1
          have hd : (txt l 262144).2.1 = (txt l 262144).1 + (num l).1.toNat := by rw [ht]
          refine ⟨rfl, rfl, by omega, by omega, h2', by omega⟩

theorem parse_more : ∀ (f g : Nat) (l : List UInt8), l.length + 1 ≤ f → l.length + 1 ≤ g → parse f l = parse g l := by
  intro f
  induction f with
  | zero => intro g l h; omega
  | succ f ih =>
    intro g l hf hg
    obtain ⟨g, rfl⟩ : ∃ i, g = i + 1 := ⟨g - 1, by omega⟩
    rw [parse]
    conv => rhs; rw [parse]
    split
    · rfl
    · cases h : rec1 l with
      | short => rfl
      | wrong => rfl
      | one p k =>
        have h1 := rec1_one h
        have h2 := ih g (l.drop k) (by rw [List.length_drop]; omega) (by rw [List.length_drop]; omega)
        simp only [h2]

/-- the records of bytes -/
def parseL (l : List UInt8) : List (List UInt8) × Nat × Bool := parse (l.length + 1) l
theorem parseL_nil : parseL [] = ([], 0, false) := by simp [parseL, parse]
theorem parseL_short {l : List UInt8} (h : rec1 l = .short) : parseL l = ([], 0, false) := by
  unfold parseL; rw [parse, h]; split <;> rfl
theorem parseL_wrong {l : List UInt8} (h0 : l ≠ []) (h : rec1 l = .wrong) : parseL l = ([], 0, true) := by
  unfold parseL; rw [parse, h, if_neg h0]
theorem parseL_one {l p : List UInt8} {k : Nat} (h0 : l ≠ []) (h : rec1 l = .one p k) : parseL l = (p :: (parseL (l.drop k)).1, k + (parseL (l.drop k)).2.1, (parseL (l.drop k)).2.2) := by
  have h1 := rec1_one h
  unfold parseL
  rw [parse, h, if_neg h0]
  simp only
  rw [parse_more l.length ((l.drop k).length + 1) (l.drop k) (by rw [List.length_drop]; omega) (Nat.le_refl _)]

/-! ### records come back -/
theorem txt_rec (l rest : List UInt8) (hl : l.length ≤ 262144) : txt (recB l ++ rest) 262144 = ((short l.length).length, (short l.length).length + l.length, 0) := by
  have hn : num (recB l ++ rest) = ((l.length : Int), (short l.length).length, 0) := by
    unfold recB; rw [List.append_assoc]; exact num_short_app l.length (by omega) _
  have hlen : (recB l ++ rest).length = (short l.length).length + l.length + 8 + rest.length := by rw [List.length_append, recB_len]
  rw [txt_ok _ 262144 (by decide) (by rw [hn]) (by rw [hn]; simp only; omega) (by rw [hn, hlen]; simp only; omega), hn]
  simp
theorem pay_rec (l rest : List UInt8) (hl : l.length ≤ 262144) : pay1 (recB l ++ rest) = l := by
  unfold pay1
  rw [txt_rec l rest hl]
  unfold recB
  have e : short l.length ++ (l ++ wide (hashN l)) ++ rest = (short l.length ++ l) ++ (wide (hashN l) ++ rest) := by simp
  rw [e, List.take_left' (by simp), List.drop_left' rfl]
theorem rec1_rec (l rest : List UInt8) (hl : l.length ≤ 262144) : rec1 (recB l ++ rest) = .one l (recB l).length := by
  have ht := txt_rec l rest hl
  have hp := pay_rec l rest hl
  have hw : wideVal (((recB l ++ rest).drop ((short l.length).length + l.length)).take 8) 8 = (hashN l : Int) := by
    have e : recB l ++ rest = (short l.length ++ l) ++ (wide (hashN l) ++ rest) := by unfold recB; simp
    rw [e, List.drop_left' (by simp), List.take_left' (wide_len _)]
    have := wideVal_wide (hashN l) [] 8 (by omega) (by have := hashN_lt l; omega)
    rw [List.append_nil] at this
    rw [this]; simp
  have hlen : (recB l ++ rest).length = (short l.length).length + l.length + 8 + rest.length := by rw [List.length_append, recB_len]
  unfold rec1
  rw [hp, ht]
  simp only
  rw [if_neg (by decide), if_neg (by simp), if_neg (by rw [hlen]; omega), if_neg (by rw [hw]; simp), recB_len]

theorem recB_ne (l : List UInt8) : recB l ≠ [] := fun e => by have := (recB_pos l).1; rw [e] at this; simp at this

/-- the bytes of a row of records -/
def fileB (rs : List (List UInt8)) : List UInt8 := (rs.map recB).flatten
theorem fileB_snoc (rs : List (List UInt8)) (l : List UInt8) : fileB (rs ++ [l]) = fileB rs ++ recB l := by simp [fileB]
theorem parseL_file : ∀ (rs : List (List UInt8)) (tail : List UInt8), (∀ r ∈ rs, r.length ≤ 262144) → parseL tail = ([], 0, false) → parseL (fileB rs ++ tail) = (rs, (fileB rs).length, false) := by
  intro rs
  induction rs with
  | nil => intro tail _ h; simpa [fileB] using h
  | cons r rs ih =>
    intro tail hr ht
    have e : fileB (r :: rs) ++ tail = recB r ++ (fileB rs ++ tail) := by simp [fileB]
    have hlr := hr r (by simp)
    have h1 := rec1_rec r (fileB rs ++ tail) hlr
    rw [e, parseL_one (by simp [recB_ne]) h1, List.drop_left' rfl, ih tail (fun r h => hr r (by simp [h])) ht]
    simp [fileB]
theorem parseL_whole (rs : List (List UInt8)) (hr : ∀ r ∈ rs, r.length ≤ 262144) : parseL (fileB rs) = (rs, (fileB rs).length, false) := by
  have := parseL_file rs [] hr parseL_nil
  rwa [List.append_nil] at this
end Go.Proofs.YtncagdfbgpdhfaaGreat
