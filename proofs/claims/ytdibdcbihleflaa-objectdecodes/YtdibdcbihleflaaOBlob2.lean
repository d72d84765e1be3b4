/- What the calls of the layer answer of a blob. -/
import Derived.Test.YtdibdcbihleflaaOWakes
import Derived.Test.YtdibdcbihleflaaStr
import Derived.Test.YtdibdcbihleflaaRefHash
import Derived.Lib.SliceRun
namespace Go.Proofs.Ytdibdcbihleflaa
open Go.RowKit

set_option maxHeartbeats 1000000 in
theorem equal_any (w : World) (a b : Option Addr) (n m c d : Nat) (l k : List UInt8) (ha : Bytes w a n l) (hb : Bytes w b m k) :
    Calls Try.prog 12 #[.slice a n c, .slice b m d] w fun e w' => e = .returned (.bool (decide (l = k))) ∧ w' = w := by
  have r1 := run_string w a n c l ha
  have r2 := run_string w b m d k hb
  go_enter Try.func12, Try.ntmps12
  go_wp2
  go_ret
  refine ⟨?_, rfl⟩
  simp
  rw [Bool.eq_iff_iff]
  simp
theorem equal_yes (w : World) (a b : Option Addr) (n m c d : Nat) (l : List UInt8) (ha : Bytes w a n l) (hb : Bytes w b m l) :
    Calls Try.prog 12 #[.slice a n c, .slice b m d] w fun e w' => e = .returned (.bool true) ∧ w' = w :=
  (equal_any w a b n m c d l l ha hb).mono fun e w' h => ⟨by rw [h.1]; simp, h.2⟩

set_option maxHeartbeats 1000000 in
theorem clone_any (a : Option Addr) (n c : Nat) (l : List UInt8) (w : World) (hb : Bytes w a n l) (hnil : a = none → n = 0 ∧ c = 0) (hbig : n ≤ 140737488355328) :
    Calls Try.prog 61 #[.slice a n c] w fun e w' => ∃ v, e = .returned v ∧ w'.ownsRow w.heap.size 5 1 v n (cellsOf l) ∧ Below w.heap.size w w' := by
  have q22 : ∀ (w : World) (a : Option Addr) (n c n' c' : Nat), (binOp .eql 22 (.slice a n c) (.slice none n' c')).run Try.prog w = .ok (.bool a.isNone) w := fun w a n c n' c' => Lib.run_eql_slice_nil w _ _ a n c n' c' Try.underlying22
  cases a with
  | none =>
    obtain ⟨rfl, rfl⟩ := hnil rfl
    have hl : l = [] := List.eq_nil_of_length_eq_zero hb.1
    subst hl
    go_enter Try.func61, Try.ntmps61
    go_wp2
    go_ret
    exact ⟨_, rfl, World.ownsRow_nil _ _ _ _, Below.refl _ _⟩
  | some a =>
    have hB0 : Below w.heap.size w (w.alloc (.cells #[] 5)) := (Below.refl _ _).alloc (Nat.le_refl _) _
    have hb0 : Bytes (w.alloc (.cells #[] 5)) (some a) n l := bytes_below hb hB0
    have hr0 : (w.alloc (.cells #[] 5)).ownsRow w.heap.size 5 1 (.slice (some ⟨w.heap.size, 0, none⟩) 0 0) 0 [] := World.ownsRow_made w #[] 0 (Nat.le_refl _) (by unfold maxLen; omega) rfl
    go_enter Try.func61, Try.ntmps61
    go_wp2_with (at_builtin; refine wpList_app _ w.heap.size (by simp) rfl _ _ rfl (.slice (some ⟨w.heap.size, 0, none⟩) 0 0) 0 [] rfl hr0 (some a) n c l rfl hb0 hnil (by omega) ?_; intro v' w1 hown hgrow _; obtain ⟨a', c', rfl, hnc, hnn⟩ := row_shape hown)
    go_ret
    simp only [Nat.zero_add, List.nil_append] at *
    refine ⟨_, rfl, hown, hB0.grown hgrow (by simp) (by intro k hk; cases hk; exact Nat.le_refl _)⟩

theorem Check_blob (a : Option Addr) (n c : Nat) (w : World) : Calls Try.prog 31 #[.iface 25 (.agg #[.slice a n c])] w fun e w' => e = .returned (.int .i64 (blobErr n)) ∧ Below w.heap.size w w' := by
  go_enter Try.func31, Try.ntmps31
  go_wp2_with (go_at_call 50; refine (check_blob a n c _).mono ?_; rintro e w1 ⟨rfl, hB⟩)
  go_ret
  exact ⟨rfl, hB⟩
theorem okind_blob (v : Value) (w : World) : Calls Try.prog 58 #[.iface 25 v] w fun e w' => e = .returned (.int .i64 1) ∧ w' = w := by
  have h1 := as_blob v
  go_enter Try.func58, Try.ntmps58
  go_wp2
  go_ret
  exact ⟨rfl, rfl⟩
theorem Kind_blob (v : Value) (w : World) : Calls Try.prog 32 #[.iface 25 v] w fun e w' => e = .returned (.int .i64 1) ∧ w' = w := by
  go_enter Try.func32, Try.ntmps32
  go_wp2_with (go_at_call 58; refine (okind_blob v _).mono ?_; rintro e w1 ⟨rfl, rfl⟩)
  go_ret
  exact ⟨rfl, rfl⟩
theorem Encode_blob_long (a : Option Addr) (n c : Nat) (w : World) (hn : 4096 < n) : Calls Try.prog 29 #[.iface 25 (.agg #[.slice a n c])] w fun e w' => e = .returned (.tuple #[.slice none 0 0, .int .i64 3]) ∧ Below w.heap.size w w' := by
  have c1 := check_blob a n c w
  rw [show blobErr n = 3 by unfold blobErr; rw [if_pos (by omega)]] at c1
  go_enter Try.func29, Try.ntmps29
  go_wp2_with (go_at_call 50; refine c1.mono ?_; rintro e w1 ⟨rfl, hB1⟩)
  go_ret2
  exact ⟨rfl, hB1⟩
def idOf (l : List UInt8) : Int := if hashTo l l.length = 0 then 1 else hashTo l l.length
theorem id_ne (l : List UInt8) : idOf l ≠ 0 := by unfold idOf; split <;> omega
theorem Id_any (a : Option Addr) (n c : Nat) (l : List UInt8) (w : World) (hb : Bytes w a n l) (hm : n ≤ maxLen) : Calls Try.prog 24 #[.slice a n c] w fun e w' => e = .returned (.int .u64 (idOf l)) ∧ w' = w := by
  have hh := hash_any a n c l w hb hm
  have e0 : idOf l = if hashTo l n = 0 then 1 else hashTo l n := by unfold idOf; rw [hb.1]
  rw [e0]
  generalize hashTo l n = h at hh
  by_cases h0 : h = 0
  · subst h0
    go_enter Try.func24, Try.ntmps24
    go_wp2_with (go_at_call 51; refine hh.mono ?_; rintro e w1 ⟨rfl, rfl⟩)
    go_ret
    exact ⟨rfl, rfl⟩
  · have h1 : (h == 0) = false := beq_eq_false_iff_ne.2 h0
    go_enter Try.func24, Try.ntmps24
    go_wp2_with (go_at_call 51; refine hh.mono ?_; rintro e w1 ⟨rfl, rfl⟩)
    go_ret
    exact ⟨rfl, rfl⟩
theorem refId_any (a : Option Addr) (n c : Nat) (l : List UInt8) (w : World) (hb : Bytes w a n l) (hm : n ≤ maxLen) : Calls Try.prog 25 #[.slice a n c] w fun e w' => e = .returned (.int .u64 (idOf l)) ∧ w' = w := by
  have hh := refHash_any a n c l w hb hm
  have e0 : idOf l = if hashTo l n = 0 then 1 else hashTo l n := by unfold idOf; rw [hb.1]
  rw [e0]
  generalize hashTo l n = h at hh
  by_cases h0 : h = 0
  · subst h0
    go_enter Try.func25, Try.ntmps25
    go_wp2_with (go_at_call 52; refine hh.mono ?_; rintro e w1 ⟨rfl, rfl⟩)
    go_ret
    exact ⟨rfl, rfl⟩
  · have h1 : (h == 0) = false := beq_eq_false_iff_ne.2 h0
    go_enter Try.func25, Try.ntmps25
    go_wp2_with (go_at_call 52; refine hh.mono ?_; rintro e w1 ⟨rfl, rfl⟩)
    go_ret
    exact ⟨rfl, rfl⟩
/-- a row of bytes of the call's own -/
structure OwnB (B : Nat) (l : List UInt8) (v : Value) (w : World) : Prop where
  row : w.ownsRow B 5 1 v l.length (cellsOf l)
theorem OwnB.shape {B : Nat} {l : List UInt8} {v : Value} {w : World} {n : Nat} (h : OwnB B l v w) (hl : l.length = n) : ∃ ad c, v = .slice ad n c ∧ (ad = none → n = 0 ∧ c = 0) := by
  subst hl
  obtain ⟨ad, c, rfl, _, h2⟩ := row_shape h.row
  exact ⟨ad, c, rfl, h2⟩
theorem OwnB.bytes {B : Nat} {l : List UInt8} {ad : Option Addr} {c : Nat} {w : World} {n : Nat} (h : OwnB B l (.slice ad n c) w) (hl : l.length = n) : Bytes w ad n l := by
  subst hl
  exact row_bytes h.row
theorem encode_own (a : Option Addr) (n c : Nat) (l : List UInt8) (w : World) (hb : Bytes w a n l) (hnil : a = none → n = 0 ∧ c = 0) (hm : n ≤ 4096) :
    Calls Try.prog 57 #[.iface 25 (.agg #[.slice a n c])] w fun e w' => ∃ ad cp, e = .returned (.slice ad (n + 1) cp) ∧ OwnB w.heap.size (98 :: l) (.slice ad (n + 1) cp) w' ∧ Below w.heap.size w w' :=
  (encode_blob a n c l w hb hnil (by omega)).mono fun e w' ⟨v, he, ho, hB⟩ => by
    obtain ⟨ad, cp, rfl, _⟩ := OwnB.shape ⟨ho⟩ (n := n + 1) (by simp [hb.1])
    exact ⟨ad, cp, he, ⟨ho⟩, hB⟩
theorem Of_blob (a : Option Addr) (n c : Nat) (l : List UInt8) (w : World) (hb : Bytes w a n l) (hnil : a = none → n = 0 ∧ c = 0) (hm : n ≤ 4096) :
    Calls Try.prog 30 #[.iface 25 (.agg #[.slice a n c])] w fun e w' => e = .returned (.tuple #[.int .u64 (idOf (98 :: l)), .int .i64 0]) ∧ Below w.heap.size w w' := by
  have c1 := check_blob a n c w
  rw [show blobErr n = 0 by unfold blobErr; rw [if_neg (by omega)]] at c1
  have hlL : (98 :: l).length = n + 1 := by simp [hb.1]
  go_enter Try.func30, Try.ntmps30
  go_wp2_with first
    | (go_at_call 50; refine c1.mono ?_; rintro e w1 ⟨rfl, hB1⟩)
    | (go_at_call 57; refine (encode_own a n c l _ (bytes_below hb hB1) hnil hm).mono ?_; rintro e w2 ⟨ad, cp, rfl, ho, hB2⟩; have hby := ho.bytes hlL; clear ho)
    | (go_at_call 24; refine (Id_any ad _ cp _ _ hby (by unfold maxLen; omega)).mono ?_; rintro e w3 ⟨rfl, rfl⟩)
  go_ret2
  exact ⟨rfl, hB1.trans (hB2.mono hB1.size)⟩
theorem Of_blob_long (a : Option Addr) (n c : Nat) (w : World) (hn : 4096 < n) : Calls Try.prog 30 #[.iface 25 (.agg #[.slice a n c])] w fun e w' => e = .returned (.tuple #[.int .u64 0, .int .i64 3]) ∧ Below w.heap.size w w' := by
  have c1 := check_blob a n c w
  rw [show blobErr n = 3 by unfold blobErr; rw [if_pos (by omega)]] at c1
  go_enter Try.func30, Try.ntmps30
  go_wp2_with (go_at_call 50; refine c1.mono ?_; rintro e w1 ⟨rfl, hB1⟩)
  go_ret2
  exact ⟨rfl, hB1⟩
theorem Same_blob_long (a : Option Addr) (n c : Nat) (x : Value) (w : World) (hn : 4096 < n) : Calls Try.prog 34 #[.iface 25 (.agg #[.slice a n c]), x] w fun e w' => e = .returned (.bool false) ∧ Below w.heap.size w w' := by
  have c1 := check_blob a n c w
  rw [show blobErr n = 3 by unfold blobErr; rw [if_pos (by omega)]] at c1
  go_enter Try.func34, Try.ntmps34
  go_wp2_with (go_at_call 50; refine c1.mono ?_; rintro e w1 ⟨rfl, hB1⟩)
  go_ret
  exact ⟨rfl, hB1⟩
theorem Same_blob (a : Option Addr) (n c : Nat) (l : List UInt8) (w : World) (hb : Bytes w a n l) (hnil : a = none → n = 0 ∧ c = 0) (hm : n ≤ 4096) : Calls Try.prog 34 #[.iface 25 (.agg #[.slice a n c]), .iface 25 (.agg #[.slice a n c])] w fun e w' => e = .returned (.bool true) ∧ Below w.heap.size w w' := by
  have c1 := fun w => check_blob a n c w
  rw [show blobErr n = 0 by unfold blobErr; rw [if_neg (by omega)]] at c1
  have HL : Hid ((98 :: l).length = n + 1) := by show _ = _; simp [hb.1]
  go_enter Try.func34, Try.ntmps34
  go_wp2_with first
    | (go_at_call 50; refine (c1 w).mono ?_; rintro e w1 ⟨rfl, hB1⟩)
    | (go_at_call 50; refine (c1 _).mono ?_; clear c1; rintro e w2 ⟨rfl, hB2⟩; have hB : Below w.heap.size w w2 := hB1.trans (hB2.mono hB1.size); have hb2 := bytes_below hb hB; clear hB1 hB2)
    | (go_at_call 57; refine (encode_own a n c l w2 hb2 hnil hm).mono ?_; rintro e w3 ⟨ad, cp, rfl, ho, hB3⟩; have hy3 := ho.bytes HL.out; have hb3 := bytes_below hb2 hB3; clear hb2 ho)
    | (go_at_call 57; refine (encode_own a n c l _ hb3 hnil hm).mono ?_; rintro e w4 ⟨ad4, cp4, rfl, ho, hB4⟩; have hy4 := ho.bytes HL.out; have hy3' := bytes_below hy3 hB4; clear hb3 hy3 ho)
    | (go_at_call 12; refine (equal_yes _ ad ad4 _ _ cp cp4 _ hy3' hy4).mono ?_; rintro e w5 ⟨rfl, rfl⟩)
  go_ret
  exact ⟨rfl, hB.trans ((hB3.trans (hB4.mono hB3.size)).mono hB.size)⟩
theorem links_blob (a : Option Addr) (n c : Nat) (w : World) : Calls Try.prog 59 #[.iface 25 (.agg #[.slice a n c])] w fun e w' => e = .returned (.slice none 0 0) ∧ Below w.heap.size w w' := by
  have h1 := no_tree 25 (by decide) (.agg #[.slice a n c])
  have h2 := no_commit 25 (by decide) (.agg #[.slice a n c])
  unfold zTree at h1
  unfold zCommit at h2
  go_enter Try.func59, Try.ntmps59
  go_wp2
  go_ret
  exact ⟨rfl, Below.refl _ _⟩
theorem Links_blob (a : Option Addr) (n c : Nat) (w : World) : Calls Try.prog 33 #[.iface 25 (.agg #[.slice a n c])] w fun e w' => e = .returned (.slice none 0 0) ∧ Below w.heap.size w w' := by
  have c1 := check_blob a n c w
  unfold blobErr at c1
  by_cases h : 4096 < n
  · rw [if_pos h] at c1
    go_enter Try.func33, Try.ntmps33
    go_wp2_with (go_at_call 50; refine c1.mono ?_; rintro e w1 ⟨rfl, hB1⟩)
    go_ret
    exact ⟨rfl, hB1⟩
  · rw [if_neg h] at c1
    go_enter Try.func33, Try.ntmps33
    go_wp2_with first
      | (go_at_call 50; refine c1.mono ?_; rintro e w1 ⟨rfl, hB1⟩)
      | (go_at_call 59; refine (links_blob a n c _).mono ?_; rintro e w2 ⟨rfl, hB2⟩)
    go_ret
    exact ⟨rfl, hB1.trans (hB2.mono hB1.size)⟩
end Go.Proofs.Ytdibdcbihleflaa
