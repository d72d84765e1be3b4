/- The walks of the statements' own comparison of a read with what is wanted. -/
import Derived.Test.YtkfmihbbmafolaaTold
namespace Go.Proofs.Ytkfmihbbmafolaa
open Go.RowKit

theorem below2 (w : World) (o1 o2 : Obj) : Below w.heap.size w ((w.alloc o1).alloc o2) := ((Below.refl _ _).alloc (Nat.le_refl _) _).alloc (by simp) _
theorem Rd.low {w w' : World} {r g p : Nat} {x : Int} {L : List UInt8} (h : Rd w r g p x L) (hB : Below w.heap.size w w') : Rd w' r g p x L :=
  h.kept (grownBy_of_below hB) (by simp) (by simp)
theorem Rd.lt {w : World} {r g p : Nat} {x : Int} {L : List UInt8} (h : Rd w r g p x L) : r < w.heap.size := World.block_lt_of_cell? w _ h.c0

theorem rdPost_from {w W w' : World} {r g : Nat} {L : List UInt8} {o : Out} (hB : Below w.heap.size w W) (h : RdPost W r g L o w') : RdPost w r g L o w' := by
  obtain ⟨p, h1, h2, h3⟩ := h
  exact ⟨p, h1, h2, grownBy_trans (grownBy_wide (grownBy_of_below hB)) h3⟩

theorem outB_num (m x : Int) (l : List UInt8) : 0 ≤ (outOf 0 m l x).num ∧ (outOf 0 m l x).num ≤ 255 := by
  unfold outOf
  split
  · simp [Out.no]
  · rw [if_pos rfl]
    unfold outB
    split
    · simp [Out.no]
    · exact ⟨bt_lo _ _, bt_hi _ _⟩

set_option maxHeartbeats 400000 in
theorem told_byte (w : World) (r g p : Nat) (x m v : Int) (q : Option Addr) (d1 d2 : Nat) (L : List UInt8) (h : Rd w r g p x L) (hv : v = (outOf 0 m (L.drop p) x).num) :
    Calls Try.prog 26 #[.pointer (some ⟨r, 0, none⟩), .agg #[.int .i64 0, .int .i64 m], .agg #[.int .u64 v, .slice q d1 d2]] w fun e w' => e = .returned (.bool true) ∧ RdPost w r g L (outOf 0 m (L.drop p) x) w' := by
  have hb := outB_num m x (L.drop p)
  rw [← hv] at hb
  have hrl := h.lt
  have Hv : Hid (v = (outOf 0 m (L.drop p) x).num) := hv
  have hne : (some (w.heap.size + 1) : Option Nat) ≠ some r := by simp; omega
  clear hv
  obtain ⟨v0, v1⟩ := hb
  have wv : IntKind.u64.wrap v = v := wraps64 v v0 (by omega)
  go_enter Try.func26, Try.ntmps26
  go_wp2_with fail
  go_region_held3 (fun W => W.cell? ⟨w.heap.size + 1, 0, none⟩ = some (.int .u64 v)) (first | assumption | (simp [go_sem]; done) | (simp; done))
    (first | (go_at_call 31; refine (byte_u _ r g p x m L (Rd.low h (Below.drew (below2 w _ _)))).mono ?_; rw [← Hv.out]; rintro e w1 ⟨rfl, hpost⟩; have hc1 : w1.cell? ⟨w.heap.size + 1, 0, none⟩ = some (.int .u64 v) := (by obtain ⟨_, _, _, hg⟩ := hpost; exact hg.cell (by assumption) hne)))
  go_wp2
  go_ret
  exact ⟨by simp, rdPost_from (Below.drew (below2 w _ _)) hpost⟩

set_option maxHeartbeats 400000 in
theorem told_uint (w : World) (r g p : Nat) (x m v : Int) (q : Option Addr) (d1 d2 : Nat) (L : List UInt8) (h : Rd w r g p x L) (hv : v = (outOf 1 m (L.drop p) x).num) :
    Calls Try.prog 26 #[.pointer (some ⟨r, 0, none⟩), .agg #[.int .i64 1, .int .i64 m], .agg #[.int .u64 v, .slice q d1 d2]] w fun e w' => e = .returned (.bool true) ∧ RdPost w r g L (outOf 1 m (L.drop p) x) w' := by
  have hrl := h.lt
  have Hv : Hid (v = (outOf 1 m (L.drop p) x).num) := hv
  have hne : (some (w.heap.size + 1) : Option Nat) ≠ some r := by simp; omega
  clear hv
  go_enter Try.func26, Try.ntmps26
  go_wp2_with fail
  go_region_held3 (fun W => W.cell? ⟨w.heap.size + 1, 0, none⟩ = some (.int .u64 v)) (first | assumption | (simp [go_sem]; done) | (simp; done))
    (first | (go_at_call 32; refine (uint_u _ r g p x m L (Rd.low h (Below.drew (below2 w _ _)))).mono ?_; rw [← Hv.out]; rintro e w1 ⟨rfl, hpost⟩; have hc1 : w1.cell? ⟨w.heap.size + 1, 0, none⟩ = some (.int .u64 v) := (by obtain ⟨_, _, _, hg⟩ := hpost; exact hg.cell (by assumption) hne)))
  go_wp2
  go_ret
  exact ⟨by simp, rdPost_from (Below.drew (below2 w _ _)) hpost⟩

set_option maxHeartbeats 400000 in
theorem told_word (w : World) (r g p : Nat) (x m v : Int) (q : Option Addr) (d1 d2 : Nat) (L : List UInt8) (h : Rd w r g p x L) (hv : v = (outOf 2 m (L.drop p) x).num) :
    Calls Try.prog 26 #[.pointer (some ⟨r, 0, none⟩), .agg #[.int .i64 2, .int .i64 m], .agg #[.int .u64 v, .slice q d1 d2]] w fun e w' => e = .returned (.bool true) ∧ RdPost w r g L (outOf 2 m (L.drop p) x) w' := by
  have hrl := h.lt
  have Hv : Hid (v = (outOf 2 m (L.drop p) x).num) := hv
  have hne : (some (w.heap.size + 1) : Option Nat) ≠ some r := by simp; omega
  clear hv
  go_enter Try.func26, Try.ntmps26
  go_wp2_with fail
  go_region_held3 (fun W => W.cell? ⟨w.heap.size + 1, 0, none⟩ = some (.int .u64 v)) (first | assumption | (simp [go_sem]; done) | (simp; done))
    (first | (go_at_call 33; refine (word_u _ r g p x m L (Rd.low h (Below.drew (below2 w _ _)))).mono ?_; rw [← Hv.out]; rintro e w1 ⟨rfl, hpost⟩; have hc1 : w1.cell? ⟨w.heap.size + 1, 0, none⟩ = some (.int .u64 v) := (by obtain ⟨_, _, _, hg⟩ := hpost; exact hg.cell (by assumption) hne)))
  go_wp2
  go_ret
  exact ⟨by simp, rdPost_from (Below.drew (below2 w _ _)) hpost⟩

theorem Bytes.two {w : World} {a : Option Addr} {n : Nat} {l : List UInt8} (h : Bytes w a n l) (o1 o2 : Obj) : Bytes ((w.alloc o1).alloc o2).drew a n l := by
  refine ⟨h.1, fun h0 => ?_⟩
  obtain ⟨b, off, rfl, hc⟩ := h.2 h0
  exact ⟨b, off, rfl, fun i hi => by rw [(below2 w o1 o2).drew.cell (World.block_lt_of_cell? w _ (hc i hi))]; exact hc i hi⟩

set_option maxHeartbeats 400000 in
theorem told_text (w : World) (r g p : Nat) (x m v : Int) (q : Option Addr) (d1 d2 : Nat) (L : List UInt8) (h : Rd w r g p x L) (hm : m ≤ 9223372036854775807) (hq : Bytes w q d1 (outOf 3 m (L.drop p) x).bytes) (hqr : ∀ y, q = some y → y.block ≠ r) :
    Calls Try.prog 26 #[.pointer (some ⟨r, 0, none⟩), .agg #[.int .i64 3, .int .i64 m], .agg #[.int .u64 v, .slice q d1 d2]] w fun e w' => e = .returned (.bool true) ∧ RdPost w r g L (outOf 3 m (L.drop p) x) w' := by
  have hrl := h.lt
  have hne : (some (w.heap.size + 1) : Option Nat) ≠ some r := by simp; omega
  have hne0 : (some w.heap.size : Option Nat) ≠ some r := by simp; omega
  obtain ⟨bs, hbs⟩ : ∃ bs, bs = (outOf 3 m (L.drop p) x).bytes := ⟨_, rfl⟩
  have Hbs : Hid (bs = (outOf 3 m (L.drop p) x).bytes) := hbs
  rw [← hbs] at hq
  have Hq : Hid (∀ o1 o2, Bytes ((w.alloc o1).alloc o2).drew q d1 bs) := hq.two
  have Hqr : Hid (∀ y, q = some y → (some r : Option Nat) ≠ some y.block) := fun y hy e => hqr y hy (Option.some.inj e).symm
  have hrun := fun o1 o2 => run_string ((w.alloc o1).alloc o2).drew q d1 d2 bs (Hq.out o1 o2)
  clear hbs hq hqr
  go_enter Try.func26, Try.ntmps26
  go_wp2_with fail
  go_region_held3 (fun W => W.cell? ⟨w.heap.size, 1, none⟩ = some (.int .i64 m) ∧ W.cell? ⟨w.heap.size + 1, 1, none⟩ = some (.slice q d1 d2) ∧ Sem.run Try.prog (convert 22 9 (.slice q d1 d2)) W = .ok (.string ⟨bs.toArray⟩) W)
    (first | assumption | exact ⟨by simp [go_sem], by simp [go_sem], hrun _ _⟩ | exact hk1)
    (first | (go_at_call 34; refine (text_u _ r g p x m L (Rd.low h (Below.drew (below2 w _ _))) hm).mono ?_; rw [← Hbs.out]; rintro e w1 ⟨rfl, hpost⟩; have hk1 : w1.cell? ⟨w.heap.size, 1, none⟩ = some (.int .i64 m) ∧ w1.cell? ⟨w.heap.size + 1, 1, none⟩ = some (.slice q d1 d2) ∧ Sem.run Try.prog (convert 22 9 (.slice q d1 d2)) w1 = .ok (.string ⟨bs.toArray⟩) w1 := (by obtain ⟨_, _, _, hg⟩ := hpost; exact ⟨hg.cell (by simp [go_sem]) hne0, hg.cell (by simp [go_sem]) hne, run_string w1 q d1 d2 bs ((Hq.out _ _).kept hg Hqr.out)⟩)))
  go_wp2
  go_ret
  exact ⟨by simp, rdPost_from (Below.drew (below2 w _ _)) hpost⟩

set_option maxHeartbeats 400000 in
theorem told_raw (w : World) (r g p : Nat) (x m v : Int) (q : Option Addr) (d1 d2 : Nat) (L : List UInt8) (h : Rd w r g p x L) (hL : L.length ≤ 281474976710656) (hq : Bytes w q d1 (outOf 4 m (L.drop p) x).bytes) (hqr : ∀ y, q = some y → y.block ≠ r) :
    Calls Try.prog 26 #[.pointer (some ⟨r, 0, none⟩), .agg #[.int .i64 4, .int .i64 m], .agg #[.int .u64 v, .slice q d1 d2]] w fun e w' => e = .returned (.bool true) ∧ RdPost w r g L (outOf 4 m (L.drop p) x) w' := by
  have hrl := h.lt
  have hne : (some (w.heap.size + 1) : Option Nat) ≠ some r := by simp; omega
  have hne0 : (some w.heap.size : Option Nat) ≠ some r := by simp; omega
  obtain ⟨bs, hbs⟩ : ∃ bs, bs = (outOf 4 m (L.drop p) x).bytes := ⟨_, rfl⟩
  have Hbs : Hid (bs = (outOf 4 m (L.drop p) x).bytes) := hbs
  rw [← hbs] at hq
  have Hq : Hid (∀ o1 o2, Bytes ((w.alloc o1).alloc o2).drew q d1 bs) := hq.two
  have Hqr : Hid (∀ y, q = some y → (some r : Option Nat) ≠ some y.block) := fun y hy e => hqr y hy (Option.some.inj e).symm
  clear hbs hq hqr
  go_enter Try.func26, Try.ntmps26
  go_wp2_with fail
  go_region_held3 (fun W => W.cell? ⟨w.heap.size, 1, none⟩ = some (.int .i64 m) ∧ W.cell? ⟨w.heap.size + 1, 1, none⟩ = some (.slice q d1 d2))
    (first | assumption | exact ⟨by simp [go_sem], by simp [go_sem]⟩ | exact hk1)
    (first | (go_at_call 35; refine (raw_u _ r g p x m L (Rd.low h (Below.drew (below2 w _ _))) hL).mono ?_; rw [← Hbs.out]; rintro e w1 ⟨ad, n1, c1, rfl, hb1, hpost⟩; have hk1 : w1.cell? ⟨w.heap.size, 1, none⟩ = some (.int .i64 m) ∧ w1.cell? ⟨w.heap.size + 1, 1, none⟩ = some (.slice q d1 d2) := (by obtain ⟨_, _, _, hg⟩ := hpost; exact ⟨hg.cell (by simp [go_sem]) hne0, hg.cell (by simp [go_sem]) hne⟩); have hq1 : Bytes w1 q d1 bs := (by obtain ⟨_, _, _, hg⟩ := hpost; exact (Hq.out _ _).kept hg Hqr.out)) | (go_at_call 14; refine (same_yes _ ad q n1 d1 c1 d2 bs bs hb1 hq1 rfl).mono ?_; rintro e w2 ⟨rfl, rfl⟩))
  go_wp2
  go_ret
  exact ⟨rfl, rdPost_from (Below.drew (below2 w _ _)) hpost⟩

theorem told_any (w : World) (r g p : Nat) (x k m v : Int) (q : Option Addr) (d1 d2 : Nat) (L : List UInt8) (h : Rd w r g p x L) (hm : m ≤ 9223372036854775807) (hL : L.length ≤ 281474976710656) (k0 : 0 ≤ k) (k4 : k ≤ 4)
    (hv : v = (outOf k m (L.drop p) x).num) (hq : Bytes w q d1 (outOf k m (L.drop p) x).bytes) (hqr : ∀ y, q = some y → y.block ≠ r) :
    Calls Try.prog 26 #[.pointer (some ⟨r, 0, none⟩), .agg #[.int .i64 k, .int .i64 m], .agg #[.int .u64 v, .slice q d1 d2]] w fun e w' => e = .returned (.bool true) ∧ RdPost w r g L (outOf k m (L.drop p) x) w' := by
  have hk : k = 0 ∨ k = 1 ∨ k = 2 ∨ k = 3 ∨ k = 4 := by omega
  rcases hk with rfl | rfl | rfl | rfl | rfl
  · exact told_byte w r g p x m v q d1 d2 L h hv
  · exact told_uint w r g p x m v q d1 d2 L h hv
  · exact told_word w r g p x m v q d1 d2 L h hv
  · exact told_text w r g p x m v q d1 d2 L h hm hq hqr
  · exact told_raw w r g p x m v q d1 d2 L h hL hq hqr

end Go.Proofs.Ytkfmihbbmafolaa
