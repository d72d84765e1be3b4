/- A blob: its types, its copy, the document's bytes. -/
import Derived.Test.YtdibdcbihleflaaOSays
namespace Go.Proofs.Ytdibdcbihleflaa
open Go.RowKit

theorem blob_speaks (a : Option Addr) (n c : Nat) (l : List UInt8) (w : World) (hb : Bytes w a n l) (hnil : a = none → n = 0 ∧ c = 0) :
    Speaks (.iface 25 (.agg #[.slice a n c])) 1 (if 4096 < n then [] else 98 :: l) (blobErr n) [] w := by
  unfold blobErr
  by_cases h : 4096 < n
  · rw [if_pos h, if_pos h]
    refine ⟨fun W _ => ?_, fun W _ => (Kind_blob _ W).mono fun e w' h => ⟨h.1, h.2 ▸ Below.refl _ _⟩, fun W _ => (Same_blob_long a n c _ W h).mono fun e w' h => ⟨by rw [h.1, show ((3 : Int) == 0) = false from rfl], h.2⟩, fun W _ => ?_, fun W _ => (Of_blob_long a n c W h).mono fun e w' h => ⟨by rw [h.1, if_neg (by omega)], h.2⟩, fun W _ => ?_⟩
    · have := Check_blob a n c W
      unfold blobErr at this
      rw [if_pos h] at this
      exact this
    · exact (Encode_blob_long a n c W h).mono fun e w' h => ⟨_, h.1, ⟨World.ownsRow_nil _ _ _ _⟩, h.2⟩
    · exact (Links_blob a n c W).mono fun e w' h => ⟨_, h.1, World.ownsRow_nil _ _ _ _, h.2⟩
  · rw [if_neg h, if_neg h]
    refine ⟨fun W _ => ?_, fun W _ => (Kind_blob _ W).mono fun e w' h => ⟨h.1, h.2 ▸ Below.refl _ _⟩, fun W hB => (Same_blob a n c l W (bytes_below hb hB) hnil (by omega)).mono fun e w' h => ⟨by rw [h.1, show ((0 : Int) == 0) = true from rfl], h.2⟩, fun W hB => ?_, fun W hB => (Of_blob a n c l W (bytes_below hb hB) hnil (by omega)).mono fun e w' h => ⟨by rw [h.1, if_pos rfl], h.2⟩, fun W _ => ?_⟩
    · have := Check_blob a n c W
      unfold blobErr at this
      rw [if_neg h] at this
      exact this
    · exact (Encode_blob a n c l W (bytes_below hb hB) hnil (by omega)).mono fun e w' ⟨v, h1, h2, h3⟩ => ⟨v, h1, ⟨h2⟩, h3⟩
    · exact (Links_blob a n c W).mono fun e w' h => ⟨_, h.1, World.ownsRow_nil _ _ _ _, h.2⟩

theorem asBlob_any (a : Option Addr) (n c : Nat) (w : World) : Calls Try.prog 38 #[.iface 25 (.agg #[.slice a n c])] w fun e w' => e = .returned (.tuple #[.agg #[.slice a n c], .bool true]) ∧ Below w.heap.size w w' := by
  have h1 := as_blob (.agg #[.slice a n c])
  go_enter Try.func38, Try.ntmps38
  go_wp2
  refine bodyPost_ret (v := .tuple #[.agg #[.slice a n c], .bool true]) (by simp [results, Try.results38, go_sem]) rfl ⟨rfl, ((Below.refl _ w).alloc (Nat.le_refl _) _).alloc (by simp) _⟩
theorem Blob_any (a : Option Addr) (n c : Nat) (w : World) : Calls Try.prog 13 #[.iface 25 (.agg #[.slice a n c])] w fun e w' => e = .returned (.tuple #[.agg #[.slice a n c], .bool true]) ∧ Below w.heap.size w w' := by
  have hB0 : Below w.heap.size w (w.alloc (.cells #[.slice none 0 0] 25)) := (Below.refl _ w).alloc (Nat.le_refl _) _
  go_enter Try.func13, Try.ntmps13
  go_wp2_with (go_at_call 38; refine (asBlob_any a n c _).mono ?_; rintro e w1 ⟨rfl, hB⟩; have hb : Boxed w1 w.heap.size 25 (.slice none 0 0) := ((hB.block w.heap.size (by simp)).trans (World.alloc_heap_new _ _)); have cb := hb.cell; have fb := hb.frozen)
  have c2 := (hb.set (.slice a n c)).cell
  refine bodyPost_ret (v := .tuple #[.agg #[.slice a n c], .bool true]) (by simp [results, Try.results13, go_sem, c2]) rfl ⟨rfl, (hB0.trans (hB.mono (by simp))).setCell (p := ⟨w.heap.size, 0, none⟩) (Nat.le_refl _) _⟩
theorem asTree_not (t : TypeId) (v : Value) (ht : t ≠ 35) (w : World) : Calls Try.prog 39 #[.iface t v] w fun e w' => e = .returned (.tuple #[.agg #[.slice none 0 0], .bool false]) ∧ Below w.heap.size w w' := by
  have h1 : ∀ xT w, (Instr.typeAssert (.iface t v) xT 35 true).run Try.prog w = .ok (.tuple #[.agg #[.slice none 0 0], .bool false]) w := no_tree t ht v
  go_enter Try.func39, Try.ntmps39
  go_wp2
  refine bodyPost_ret (v := .tuple #[.agg #[.slice none 0 0], .bool false]) (by simp [results, Try.results39, go_sem]) rfl ⟨rfl, ((Below.refl _ w).alloc (Nat.le_refl _) _).alloc (by simp) _⟩
theorem Tree_not (t : TypeId) (v : Value) (ht : t ≠ 35) (w : World) : Calls Try.prog 14 #[.iface t v] w fun e w' => e = .returned (.tuple #[.agg #[.slice none 0 0], .bool false]) ∧ Below w.heap.size w w' := by
  have hB0 : Below w.heap.size w (w.alloc (.cells #[.slice none 0 0] 35)) := (Below.refl _ w).alloc (Nat.le_refl _) _
  go_enter Try.func14, Try.ntmps14
  go_wp2_with (go_at_call 39; refine (asTree_not t v ht _).mono ?_; rintro e w1 ⟨rfl, hB⟩; have hb : Boxed w1 w.heap.size 35 (.slice none 0 0) := ((hB.block w.heap.size (by simp)).trans (World.alloc_heap_new _ _)); have cb := hb.cell; have fb := hb.frozen)
  have c2 := (hb.set (.slice none 0 0)).cell
  refine bodyPost_ret (v := .tuple #[.agg #[.slice none 0 0], .bool false]) (by simp [results, Try.results14, go_sem, c2]) rfl ⟨rfl, (hB0.trans (hB.mono (by simp))).setCell (p := ⟨w.heap.size, 0, none⟩) (Nat.le_refl _) _⟩
theorem asBlob_not (t : TypeId) (v : Value) (ht : t ≠ 25) (w : World) : Calls Try.prog 38 #[.iface t v] w fun e w' => e = .returned (.tuple #[.agg #[.slice none 0 0], .bool false]) ∧ Below w.heap.size w w' := by
  have h1 : ∀ xT w, (Instr.typeAssert (.iface t v) xT 25 true).run Try.prog w = .ok (.tuple #[.agg #[.slice none 0 0], .bool false]) w := no_blob t ht v
  go_enter Try.func38, Try.ntmps38
  go_wp2
  refine bodyPost_ret (v := .tuple #[.agg #[.slice none 0 0], .bool false]) (by simp [results, Try.results38, go_sem]) rfl ⟨rfl, ((Below.refl _ w).alloc (Nat.le_refl _) _).alloc (by simp) _⟩
theorem Blob_not (t : TypeId) (v : Value) (ht : t ≠ 25) (w : World) : Calls Try.prog 13 #[.iface t v] w fun e w' => e = .returned (.tuple #[.agg #[.slice none 0 0], .bool false]) ∧ Below w.heap.size w w' := by
  have hB0 : Below w.heap.size w (w.alloc (.cells #[.slice none 0 0] 25)) := (Below.refl _ w).alloc (Nat.le_refl _) _
  go_enter Try.func13, Try.ntmps13
  go_wp2_with (go_at_call 38; refine (asBlob_not t v ht _).mono ?_; rintro e w1 ⟨rfl, hB⟩; have hb : Boxed w1 w.heap.size 25 (.slice none 0 0) := ((hB.block w.heap.size (by simp)).trans (World.alloc_heap_new _ _)); have cb := hb.cell; have fb := hb.frozen)
  have c2 := (hb.set (.slice none 0 0)).cell
  refine bodyPost_ret (v := .tuple #[.agg #[.slice none 0 0], .bool false]) (by simp [results, Try.results13, go_sem, c2]) rfl ⟨rfl, (hB0.trans (hB.mono (by simp))).setCell (p := ⟨w.heap.size, 0, none⟩) (Nat.le_refl _) _⟩
theorem asCommit_not (t : TypeId) (v : Value) (ht : t ≠ 42) (w : World) : Calls Try.prog 40 #[.iface t v] w fun e w' => e = .returned (.tuple #[zC, .bool false]) ∧ Below w.heap.size w w' := by
  have h1 : ∀ xT w, (Instr.typeAssert (.iface t v) xT 42 true).run Try.prog w = .ok (.tuple #[.agg #[.int .u64 0, .slice none 0 0, .string ⟨#[]⟩, .int .i64 0, .string ⟨#[]⟩], .bool false]) w := no_commit t ht v
  go_enter Try.func40, Try.ntmps40
  go_wp2
  refine bodyPost_ret (v := .tuple #[zC, .bool false]) (by simp [results, Try.results40, go_sem]) rfl ⟨rfl, ((Below.refl _ w).alloc (Nat.le_refl _) _).alloc (by simp) _⟩
theorem Commit_not (t : TypeId) (v : Value) (ht : t ≠ 42) (w : World) : Calls Try.prog 15 #[.iface t v] w fun e w' => e = .returned (.tuple #[zC, .bool false]) ∧ Below w.heap.size w w' := by
  have hB0 : Below w.heap.size w (w.alloc (.cells #[.int .u64 0, .slice none 0 0, .string ⟨#[]⟩, .int .i64 0, .string ⟨#[]⟩] 42)) := (Below.refl _ w).alloc (Nat.le_refl _) _
  go_enter Try.func15, Try.ntmps15
  go_wp2_with (go_at_call 40; refine (asCommit_not t v ht _).mono ?_; rintro e w1 ⟨rfl, hB⟩; have hb : Box5 w1 w.heap.size (.int .u64 0) (.slice none 0 0) (.string ⟨#[]⟩) (.int .i64 0) (.string ⟨#[]⟩) := ((hB.block w.heap.size (by simp)).trans (World.alloc_heap_new _ _)); obtain ⟨cb0, cb1, cb2, cb3, cb4⟩ := hb.cell; obtain ⟨fb0, fb1, fb2, fb3, fb4⟩ := hb.frozen)
  obtain ⟨d0, d1, d2, d3, d4⟩ := (hb.all (.int .u64 0) (.slice none 0 0) (.string ⟨#[]⟩) (.int .i64 0) (.string ⟨#[]⟩)).cell
  refine bodyPost_ret (v := .tuple #[zC, .bool false]) (by simp [results, Try.results15, go_sem, d0, d1, d2, d3, d4]) rfl ⟨rfl, below5 (hB0.trans (hB.mono (by simp))) (Nat.le_refl _) _ _ _ _ _⟩

theorem fresh_blob (a : Option Addr) (n c : Nat) (l : List UInt8) (w : World) (hb : Bytes w a n l) (hnil : a = none → n = 0 ∧ c = 0) (hn : n ≤ 1099511627776) :
    Calls Try.prog 41 #[.iface 25 (.agg #[.slice a n c])] w fun e w' => ∃ ad cp, e = .returned (.iface 25 (.agg #[.slice ad n cp])) ∧ OwnB w.heap.size l (.slice ad n cp) w' ∧ Below w.heap.size w w' := by
  have h1 := as_blob (.agg #[.slice a n c])
  have hB0 : Below w.heap.size w (w.alloc (.cells #[.slice a n c] 25)) := (Below.refl _ w).alloc (Nat.le_refl _) _
  have hll := hb.1
  have hcl : Calls Try.prog 61 #[.slice a n c] (w.alloc (.cells #[.slice a n c] 25)) fun e w' => ∃ ad cp, e = .returned (.slice ad n cp) ∧ Hid (w'.ownsRow (w.heap.size + 1) 5 1 (.slice ad n cp) n (cellsOf l) ∧ Below (w.heap.size + 1) (w.alloc (.cells #[.slice a n c] 25)) w') ∧ Boxed w' w.heap.size 25 (.slice a n c) := by
    refine (clone_any a n c l _ (bytes_below hb hB0) hnil (by omega)).mono fun e w' ⟨v, he, ho, hB⟩ => ?_
    have hbx : Boxed w' w.heap.size 25 (.slice a n c) := (hB.block w.heap.size (by simp)).trans (World.alloc_heap_new _ _)
    rw [World.size_alloc] at ho hB
    obtain ⟨ad, cp, rfl, _⟩ := row_shape ho
    exact ⟨ad, cp, he, ⟨ho, hB⟩, hbx⟩
  go_enter Try.func41, Try.ntmps41
  go_wp2_with (go_at_call 61; refine hcl.mono ?_; clear hcl; rintro e w1 ⟨ad, cp, rfl, HO, hbx⟩; have cb := hbx.cell; have fb := hbx.frozen; have c2 := (hbx.set (.slice ad n cp)).cell)
  go_ret
  obtain ⟨ho, hB⟩ := HO.out
  refine ⟨ad, cp, rfl, ⟨?_⟩, (hB0.trans (hB.mono (by omega))).setCell (p := ⟨w.heap.size, 0, none⟩) (Nat.le_refl _) _⟩
  rw [hll]
  refine row_lower (ho.kept (row := some w.heap.size) (grownBy_setCell' w1 w.heap.size _) ?_) (by omega)
  exact .inr fun e => by have := (row_block ho w.heap.size e).1; omega
theorem Copy_blob (a : Option Addr) (n c : Nat) (l : List UInt8) (w : World) (hb : Bytes w a n l) (hnil : a = none → n = 0 ∧ c = 0) (hn : n ≤ 1099511627776) :
    Calls Try.prog 16 #[.iface 25 (.agg #[.slice a n c])] w fun e w' => ∃ ad cp, e = .returned (.iface 25 (.agg #[.slice ad n cp])) ∧ OwnB w.heap.size l (.slice ad n cp) w' ∧ Below w.heap.size w w' := by
  go_enter Try.func16, Try.ntmps16
  go_wp2_with (go_at_call 41; refine (fresh_blob a n c l _ hb hnil hn).mono ?_; rintro e w1 ⟨ad, cp, rfl, hO, hB⟩)
  go_ret
  exact ⟨ad, cp, rfl, hO, hB⟩

theorem refCheckBlob_any (a : Option Addr) (n c : Nat) (w : World) : Calls Try.prog 36 #[.slice a n c] w fun e w' => e = .returned (.int .i64 (blobErr n)) ∧ w' = w := by
  unfold blobErr
  by_cases h : 4096 < n
  · have i1 : (4096 : Int) < n := by omega
    rw [if_pos h]
    go_enter Try.func36, Try.ntmps36
    go_wp2
    go_ret
    exact ⟨rfl, rfl⟩
  · have i1 : ¬ (4096 : Int) < n := by omega
    rw [if_neg h]
    go_enter Try.func36, Try.ntmps36
    go_wp2
    go_ret
    exact ⟨rfl, rfl⟩
def blobN (n : Nat) : Nat := if 4096 < n then 0 else n + 1
theorem refBlob_any (a : Option Addr) (n c : Nat) (l : List UInt8) (w : World) (hb : Bytes w a n l) (hnil : a = none → n = 0 ∧ c = 0) :
    Calls Try.prog 10 #[.slice a n c] w fun e w' => ∃ ad cp, e = .returned (.tuple #[.slice ad (blobN n) cp, .int .i64 (blobErr n)]) ∧ Bytes w' ad (blobN n) (if 4096 < n then [] else 98 :: l) ∧ Below w.heap.size w w' := by
  have hck := refCheckBlob_any a n c w
  unfold blobErr at hck ⊢
  unfold blobN
  by_cases h : 4096 < n
  · rw [if_pos h] at hck
    rw [if_pos h, if_pos h, if_pos h]
    go_enter Try.func10, Try.ntmps10
    go_wp2_with (go_at_call 36; refine hck.mono ?_; rintro e w1 ⟨rfl, h1⟩; subst h1)
    go_ret2
    exact ⟨none, 0, rfl, ⟨rfl, fun h => absurd h (by omega)⟩, Below.refl _ _⟩
  · rw [if_neg h] at hck
    rw [if_neg h, if_neg h, if_neg h]
    have hB0 : Below w.heap.size w (w.alloc (.cells #[.int .u8 98] 5)) := (Below.refl _ w).alloc (Nat.le_refl _) _
    have hr0 : (w.alloc (.cells #[.int .u8 98] 5)).ownsRow w.heap.size 5 1 (.slice (some ⟨w.heap.size, 0, none⟩) 1 1) 1 (cellsOf [98]) := World.ownsRow_lit w #[.int .u8 98] 1 (Nat.le_refl _) (by unfold maxLen; omega) rfl
    have hb0 := bytes_below hb hB0
    have hll := hb.1
    go_enter Try.func10, Try.ntmps10
    go_wp2_with first
      | (go_at_call 36; refine hck.mono ?_; clear hck; rintro e w1 ⟨rfl, h1⟩; subst h1)
      | (at_builtin; refine wpList_app _ _ (by simp) rfl _ _ rfl _ 1 _ rfl hr0 a n c l rfl hb0 hnil (by omega) ?_; intro v' w2 hown hgrow _; have hO : OwnB w1.heap.size (98 :: l) v' w2 := ⟨by have h := hown; rw [← cellsOf_append] at h; simp only [List.length_cons, hll, List.singleton_append] at h ⊢; rw [Nat.add_comm n 1]; exact h⟩; obtain ⟨ad, cp, hv, _⟩ := hO.shape (n := n + 1) (by simp [hll]); subst hv; clear hown)
    go_ret2
    exact ⟨ad, cp, rfl, hO.bytes (by simp [hll]), hB0.grown hgrow (by simp) (by intro k hk; cases hk; exact Nat.le_refl _)⟩
end Go.Proofs.Ytdibdcbihleflaa
