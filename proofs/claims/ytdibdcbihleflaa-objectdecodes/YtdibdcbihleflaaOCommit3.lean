/- What the layer answers of a commit. -/
import Derived.Test.YtdibdcbihleflaaOCommit2
import Derived.Test.YtdibdcbihleflaaOTree4
namespace Go.Proofs.Ytdibdcbihleflaa
open Go.RowKit

attribute [local go_sem] Oper.semAt_some

abbrev coV (t : Int) (pa : Option Addr) (pn pc : Nat) (au : ByteArray) (d : Int) (tx : ByteArray) : Value := .iface 42 (cmt t pa pn pc au d tx)
theorem no_blob_com (v : Value) : ∀ xT w, (Instr.typeAssert (.iface 42 v) xT 25 true).run Try.prog w = .ok (.tuple #[.agg #[.slice none 0 0], .bool false]) w := no_blob 42 (by decide) v
theorem no_tree_com (v : Value) : ∀ xT w, (Instr.typeAssert (.iface 42 v) xT 35 true).run Try.prog w = .ok (.tuple #[.agg #[.slice none 0 0], .bool false]) w := no_tree 42 (by decide) v
theorem com_fits {t : Int} {ps : List Int} {au tx : ByteArray} (h : comErr t ps au tx = 0) : t ≠ 0 ∧ ps.length ≤ 8 ∧ au.size ≤ 64 ∧ tx.size ≤ 1024 := by
  have ht : ∀ (s : ByteArray) (m : Nat), txtErr s m = 0 → s.size ≤ m := fun s m h => by
    unfold txtErr at h
    split at h
    · omega
    · omega
  unfold comErr at h
  split at h
  · omega
  · rename_i h0
    split at h
    · rename_i h1; exact absurd h h1
    · rename_i h1
      have h1' : parErr ps = 0 := by simpa using h1
      split at h
      · rename_i h2; exact absurd h h2
      · rename_i h2
        have h2' : txtErr au 64 = 0 := by simpa using h2
        refine ⟨h0, ?_, ht _ _ h2', ht _ _ h⟩
        unfold parErr at h1'
        split at h1'
        · omega
        · omega
theorem comB_len {t : Int} {ps : List Int} {au tx : ByteArray} (d : Int) (h : comErr t ps au tx = 0) : (comB t ps au d tx).length ≤ 16384 := by
  obtain ⟨_, h1, h2, h3⟩ := com_fits h
  have a1 := short_len ps.length
  have a2 := short_len au.size
  have a3 := short_len tx.size
  have a4 := parsB_len ps ps.length (Nat.le_refl _)
  rw [List.take_length] at a4
  have a5 : au.data.toList.length = au.size := by simp
  have a6 : tx.data.toList.length = tx.size := by simp
  simp only [comB, List.length_append, List.length_singleton, wide_len, a4, a5, a6]
  omega
theorem check_com (t : Int) (pa : Option Addr) (pn pc : Nat) (ps : List Int) (au : ByteArray) (d : Int) (tx : ByteArray) (w : World) (h : Com w t pa pn pc ps au d tx) : Calls Try.prog 50 #[(coV t pa pn pc au d tx)] w fun e w' => e = .returned (.int .i64 (comErr t ps au tx)) ∧ Below w.heap.size w w' := by
  have h1 := no_blob_com (cmt t pa pn pc au d tx)
  have h2 := no_tree_com (cmt t pa pn pc au d tx)
  have h3 := as_commit (cmt t pa pn pc au d tx)
  have hB0 : Below w.heap.size w (w.alloc (.cells #[.int .u64 t, .slice pa pn pc, .string au, .int .i64 d, .string tx] 42)) := (Below.refl _ w).alloc (Nat.le_refl _) _
  have hc := checkCommit_any t pa pn pc ps au d tx _ (h.below hB0)
  go_enter Try.func50, Try.ntmps50
  go_wp2_with (go_at_call 75; refine hc.mono ?_; rintro e w1 ⟨rfl, hB⟩)
  go_ret
  exact ⟨rfl, hB0.trans (hB.mono (by simp))⟩
theorem Check_com (t : Int) (pa : Option Addr) (pn pc : Nat) (ps : List Int) (au : ByteArray) (d : Int) (tx : ByteArray) (w : World) (h : Com w t pa pn pc ps au d tx) : Calls Try.prog 31 #[(coV t pa pn pc au d tx)] w fun e w' => e = .returned (.int .i64 (comErr t ps au tx)) ∧ Below w.heap.size w w' := by
  have hc := check_com t pa pn pc ps au d tx w h
  go_enter Try.func31, Try.ntmps31
  go_wp2_with (go_at_call 50; refine hc.mono ?_; rintro e w1 ⟨rfl, hB⟩)
  go_ret
  exact ⟨rfl, hB⟩
theorem okind_com (v : Value) (w : World) : Calls Try.prog 58 #[.iface 42 v] w fun e w' => e = .returned (.int .i64 3) ∧ w' = w := by
  have h1 := no_blob_com v
  have h2 := no_tree_com v
  have h3 := as_commit v
  go_enter Try.func58, Try.ntmps58
  go_wp2
  go_ret
  exact ⟨rfl, rfl⟩
theorem Kind_com (v : Value) (w : World) : Calls Try.prog 32 #[.iface 42 v] w fun e w' => e = .returned (.int .i64 3) ∧ w' = w := by
  go_enter Try.func32, Try.ntmps32
  go_wp2_with (go_at_call 58; refine (okind_com v _).mono ?_; rintro e w1 ⟨rfl, rfl⟩)
  go_ret
  exact ⟨rfl, rfl⟩

set_option maxRecDepth 20000 in
set_option maxHeartbeats 1000000 in
theorem encode_com (t : Int) (pa : Option Addr) (pn pc : Nat) (ps : List Int) (au : ByteArray) (d : Int) (tx : ByteArray) (w : World) (h : Com w t pa pn pc ps au d tx) (h0 : comErr t ps au tx = 0) :
    Calls Try.prog 57 #[(coV t pa pn pc au d tx)] w fun e w' => ∃ ad m cp, e = .returned (.slice ad m cp) ∧ (comB t ps au d tx).length = m ∧ OwnB w.heap.size (comB t ps au d tx) (.slice ad m cp) w' ∧ Below w.heap.size w w' := by
  obtain ⟨_, hn, hau, htx⟩ := com_fits h0
  have hpn := h.par.1
  have hmf : ∀ (fn : Fn) (first cap : Array Value) (w : World), (Instr.makeFunc fn first cap).run Try.prog w = .ok (.func fn first cap) w := fun _ _ _ _ => rfl
  have h1 := no_blob_com (cmt t pa pn pc au d tx)
  have h2 := no_tree_com (cmt t pa pn pc au d tx)
  have h3 := as_commit (cmt t pa pn pc au d tx)
  have HO := ((out_new w).alloc (.cells #[.int .u64 t, .slice pa pn pc, .string au, .int .i64 d, .string tx] 42)).alloc (.cells #[.int .u8 99] 5)
  have hO2 : Box5 ((w.alloc (.cells #[.slice none 0 0] 22)).alloc (.cells #[.int .u64 t, .slice pa pn pc, .string au, .int .i64 d, .string tx] 42)) (w.heap.size + 1) (.int .u64 t) (.slice pa pn pc) (.string au) (.int .i64 d) (.string tx) := by
    have := Box5.new (w.alloc (.cells #[.slice none 0 0] 22)) (.int .u64 t) (.slice pa pn pc) (.string au) (.int .i64 d) (.string tx)
    rw [World.size_alloc] at this
    exact this
  have hby := bytes_new ((w.alloc (.cells #[.slice none 0 0] 22)).alloc (.cells #[.int .u64 t, .slice pa pn pc, .string au, .int .i64 d, .string tx] 42)) [99] _ rfl
  have hp := put_any2 w w.heap.size [] (some ⟨w.heap.size + 1 + 1, 0, none⟩) 1 1 [99] _ HO (by rw [World.size_alloc, World.size_alloc] at hby; exact hby) (fun h => by cases h) (by simp)
  clear HO
  have hK := hO2.kept ((Below.refl _ _).alloc (Nat.le_refl _) (.cells #[.int .u8 99] 5))
  clear hO2 hby
  go_enter Try.func57, Try.ntmps57
  go_wp2_with first
    | (go_at_call 76; refine hp.mono ?_; rintro e w1 ⟨rfl, hO1, hk1⟩; obtain ⟨c0, c1, c2, c3, c4⟩ := (hk1.box5 hK (by omega)).cell; have HO1 : Hid (Out w w.heap.size [99] w1) := hO1; clear hp hO1 hk1)
    | (go_at_call 78; refine (putCommit_any w w.heap.size t pa pn pc ps au d tx _ HO1.out h (by omega) hau htx).mono ?_; rintro e w2 ⟨rfl, hO2, _⟩; obtain ⟨v, hv, ho⟩ := hO2.box; have cv := hv.cell; have HO2 : Hid (OwnB w.heap.size (comB t ps au d tx) v w2 ∧ Below w.heap.size w w2) := ⟨⟨ho⟩, hO2.bel⟩; obtain ⟨ad, cp, hvv, _⟩ := HO2.out.1.shape rfl; subst hvv; clear hO2 HO1 ho hv)
  go_ret
  exact ⟨ad, _, cp, rfl, rfl, HO2.out.1, HO2.out.2⟩
theorem Encode_com (t : Int) (pa : Option Addr) (pn pc : Nat) (ps : List Int) (au : ByteArray) (d : Int) (tx : ByteArray) (w : World) (h : Com w t pa pn pc ps au d tx) (h0 : comErr t ps au tx = 0) :
    Calls Try.prog 29 #[(coV t pa pn pc au d tx)] w fun e w' => ∃ v, e = .returned (.tuple #[v, .int .i64 0]) ∧ OwnB w.heap.size (comB t ps au d tx) v w' ∧ Below w.heap.size w w' := by
  have c1 := check_com t pa pn pc ps au d tx w h
  rw [h0] at c1
  have he := fun w h => encode_com t pa pn pc ps au d tx w h h0
  generalize comB t ps au d tx = T at *
  go_enter Try.func29, Try.ntmps29
  go_wp2_with first
    | (go_at_call 50; refine c1.mono ?_; clear c1; rintro e w1 ⟨rfl, hB1⟩)
    | (go_at_call 57; refine (he _ (h.below hB1)).mono ?_; clear he; rintro e w2 ⟨ad, m, cp, rfl, hm, ho, hB2⟩; have HO : Hid (OwnB w1.heap.size T (.slice ad m cp) w2) := ho; clear ho hm)
  go_ret2
  exact ⟨_, rfl, ⟨row_lower HO.out.row hB1.size⟩, hB1.trans (hB2.mono hB1.size)⟩
theorem Encode_com_bad (t : Int) (pa : Option Addr) (pn pc : Nat) (ps : List Int) (au : ByteArray) (d : Int) (tx : ByteArray) (w : World) (h : Com w t pa pn pc ps au d tx) (h0 : comErr t ps au tx ≠ 0) :
    Calls Try.prog 29 #[(coV t pa pn pc au d tx)] w fun e w' => e = .returned (.tuple #[.slice none 0 0, .int .i64 (comErr t ps au tx)]) ∧ Below w.heap.size w w' := by
  have c1 := check_com t pa pn pc ps au d tx w h
  have h0' : (comErr t ps au tx == 0) = false := beq_eq_false_iff_ne.2 h0
  generalize comErr t ps au tx = E at *
  go_enter Try.func29, Try.ntmps29
  go_wp2_with (go_at_call 50; refine c1.mono ?_; clear c1; rintro e w1 ⟨rfl, hB1⟩)
  go_ret2
  exact ⟨rfl, hB1⟩
theorem Of_com (t : Int) (pa : Option Addr) (pn pc : Nat) (ps : List Int) (au : ByteArray) (d : Int) (tx : ByteArray) (w : World) (h : Com w t pa pn pc ps au d tx) (h0 : comErr t ps au tx = 0) :
    Calls Try.prog 30 #[(coV t pa pn pc au d tx)] w fun e w' => e = .returned (.tuple #[.int .u64 (idOf (comB t ps au d tx)), .int .i64 0]) ∧ Below w.heap.size w w' := by
  have c1 := check_com t pa pn pc ps au d tx w h
  rw [h0] at c1
  have hle := comB_len d h0
  have he := fun w h => encode_com t pa pn pc ps au d tx w h h0
  generalize comB t ps au d tx = T at *
  go_enter Try.func30, Try.ntmps30
  go_wp2_with first
    | (go_at_call 50; refine c1.mono ?_; clear c1; rintro e w1 ⟨rfl, hB1⟩)
    | (go_at_call 57; refine (he _ (h.below hB1)).mono ?_; clear he; rintro e w2 ⟨ad, m, cp, rfl, hm, ho, hB2⟩; have hby := ho.bytes hm; have hm2 : m ≤ maxLen := (by unfold maxLen; omega); clear ho hm)
    | (go_at_call 24; refine (Id_any ad m cp T _ hby hm2).mono ?_; rintro e w3 ⟨rfl, h3⟩; subst h3)
  go_ret2
  exact ⟨rfl, hB1.trans (hB2.mono hB1.size)⟩
theorem Of_com_bad (t : Int) (pa : Option Addr) (pn pc : Nat) (ps : List Int) (au : ByteArray) (d : Int) (tx : ByteArray) (w : World) (h : Com w t pa pn pc ps au d tx) (h0 : comErr t ps au tx ≠ 0) :
    Calls Try.prog 30 #[(coV t pa pn pc au d tx)] w fun e w' => e = .returned (.tuple #[.int .u64 0, .int .i64 (comErr t ps au tx)]) ∧ Below w.heap.size w w' := by
  have c1 := check_com t pa pn pc ps au d tx w h
  have h0' : (comErr t ps au tx == 0) = false := beq_eq_false_iff_ne.2 h0
  generalize comErr t ps au tx = E at *
  go_enter Try.func30, Try.ntmps30
  go_wp2_with (go_at_call 50; refine c1.mono ?_; clear c1; rintro e w1 ⟨rfl, hB1⟩)
  go_ret2
  exact ⟨rfl, hB1⟩
theorem Same_com_bad (t : Int) (pa : Option Addr) (pn pc : Nat) (ps : List Int) (au : ByteArray) (d : Int) (tx : ByteArray) (w : World) (h : Com w t pa pn pc ps au d tx) (x : Value) (h0 : comErr t ps au tx ≠ 0) :
    Calls Try.prog 34 #[(coV t pa pn pc au d tx), x] w fun e w' => e = .returned (.bool false) ∧ Below w.heap.size w w' := by
  have c1 := check_com t pa pn pc ps au d tx w h
  have h0' : (comErr t ps au tx == 0) = false := beq_eq_false_iff_ne.2 h0
  generalize comErr t ps au tx = E at *
  go_enter Try.func34, Try.ntmps34
  go_wp2_with (go_at_call 50; refine c1.mono ?_; clear c1; rintro e w1 ⟨rfl, hB1⟩)
  go_ret
  exact ⟨rfl, hB1⟩
theorem Same_com (t : Int) (pa : Option Addr) (pn pc : Nat) (ps : List Int) (au : ByteArray) (d : Int) (tx : ByteArray) (w : World) (h : Com w t pa pn pc ps au d tx) (h0 : comErr t ps au tx = 0) :
    Calls Try.prog 34 #[(coV t pa pn pc au d tx), (coV t pa pn pc au d tx)] w fun e w' => e = .returned (.bool true) ∧ Below w.heap.size w w' := by
  have c1 := fun w h => check_com t pa pn pc ps au d tx w h
  rw [h0] at c1
  have he := fun w h => encode_com t pa pn pc ps au d tx w h h0
  generalize comB t ps au d tx = T at *
  go_enter Try.func34, Try.ntmps34
  go_wp2_with first
    | (go_at_call 50; refine (c1 w h).mono ?_; rintro e w1 ⟨rfl, hB1⟩)
    | (go_at_call 50; refine (c1 _ (h.below hB1)).mono ?_; clear c1; rintro e w2 ⟨rfl, hB2⟩; have hB : Below w.heap.size w w2 := hB1.trans (hB2.mono hB1.size); have hb2 := h.below hB; clear hB1 hB2)
    | (go_at_call 57; refine (he w2 hb2).mono ?_; rintro e w3 ⟨ad, m, cp, rfl, hm, ho, hB3⟩; have hy3 := ho.bytes hm; have hb3 := hb2.below hB3; clear hb2 ho hm)
    | (go_at_call 57; refine (he _ hb3).mono ?_; clear he; rintro e w4 ⟨ad4, m4, cp4, rfl, hm4, ho, hB4⟩; have hy4 := ho.bytes hm4; have hy3' := bytes_below hy3 hB4; clear hb3 hy3 ho hm4)
    | (go_at_call 12; refine (equal_yes _ ad ad4 m m4 cp cp4 T hy3' hy4).mono ?_; rintro e w5 ⟨rfl, h5⟩; subst h5)
  go_ret
  exact ⟨rfl, hB.trans ((hB3.trans (hB4.mono hB3.size)).mono hB.size)⟩
end Go.Proofs.Ytdibdcbihleflaa
