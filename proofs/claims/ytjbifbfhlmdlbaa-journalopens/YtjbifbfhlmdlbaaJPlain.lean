/- What a Journal of the program is in memory, and the walks of its calls that read: Len, Size, Record. -/
import Derived.Test.YtjbifbfhlmdlbaaPay
import Derived.Test.YtjbifbfhlmdlbaaDiskPut
namespace Go.Proofs.Ytjbifbfhlmdlbaa
open Go.RowKit

/-- block j of w is a Journal over the disk in block d, of that file: its records, how many bytes they have, whether it is cut -/
structure JAt (w : World) (j d : Nat) (nm : ByteArray) (rs : List (List UInt8)) (sz : Nat) (cut : Bool) (Fp : Nat → Prop) : Prop where
  c0 : w.cell? ⟨j, 0, none⟩ = some (.pointer (some ⟨d, 0, none⟩))
  c1 : w.cell? ⟨j, 1, none⟩ = some (.string nm)
  pay : IsPay w j 2 rs Fp
  c5 : w.cell? ⟨j, 5, none⟩ = some (.int .i64 sz)
  c6 : w.cell? ⟨j, 6, none⟩ = some (.bool cut)
  f5 : w.frozen? ⟨j, 5, none⟩ = false
  f6 : w.frozen? ⟨j, 6, none⟩ = false
  fj : Fp j
  lt : ∀ k, Fp k → k < w.heap.size
  cnt : rs.length * 9 + rs.flatten.length ≤ sz
  small : sz ≤ 4194304

theorem IsPay.kept {w w' : World} {p o : Nat} {rs : List (List UInt8)} {Fp : Nat → Prop} (h : IsPay w p o rs Fp) (hp : Fp p) (hk : ∀ k, Fp k → w'.heap[k]? = w.heap[k]?) : IsPay w' p o rs Fp := by
  obtain ⟨g, na, full, A, v, xs, h, h1, h2⟩ := h
  exact ⟨g, na, full, A, v, xs, h.kept (hk p hp) (fun k h => hk k (h1 k h)) (fun k h => hk k (h2 k h)), h1, h2⟩

theorem JAt.kept {w w' : World} {j d : Nat} {nm : ByteArray} {rs : List (List UInt8)} {sz : Nat} {cut : Bool} {Fp : Nat → Prop} (h : JAt w j d nm rs sz cut Fp) (hs : w.heap.size ≤ w'.heap.size) (hk : ∀ k, Fp k → w'.heap[k]? = w.heap[k]?) : JAt w' j d nm rs sz cut Fp :=
  { h with
    c0 := by rw [World.cell?_of_block (hk j h.fj)]; exact h.c0
    c1 := by rw [World.cell?_of_block (hk j h.fj)]; exact h.c1
    pay := h.pay.kept h.fj hk
    c5 := by rw [World.cell?_of_block (hk j h.fj)]; exact h.c5
    c6 := by rw [World.cell?_of_block (hk j h.fj)]; exact h.c6
    f5 := by rw [World.frozen?_of_block (hk j h.fj)]; exact h.f5
    f6 := by rw [World.frozen?_of_block (hk j h.fj)]; exact h.f6
    lt := fun k hf => Nat.lt_of_lt_of_le (h.lt k hf) hs }
theorem JAt.turn {w w' : World} {j d : Nat} {nm : ByteArray} {rs : List (List UInt8)} {sz : Nat} {cut : Bool} {Fp Gp : Nat → Prop} (h : JAt w j d nm rs sz cut Fp) (ht : Turn Gp w w') (hd : ∀ k, Fp k → ¬ Gp k) : JAt w' j d nm rs sz cut Fp :=
  h.kept ht.size (fun k hk => ht.block k (h.lt k hk) (hd k hk))
theorem JAt.below {w w' : World} {j d : Nat} {nm : ByteArray} {rs : List (List UInt8)} {sz : Nat} {cut : Bool} {Fp : Nat → Prop} (h : JAt w j d nm rs sz cut Fp) (hB : Below w.heap.size w w') : JAt w' j d nm rs sz cut Fp :=
  h.turn (Turn.of_below (fun _ => False) hB) (fun _ _ => id)

set_option maxHeartbeats 1000000 in
theorem jsize_any (w : World) (j d : Nat) (nm : ByteArray) (rs : List (List UInt8)) (sz : Nat) (cut : Bool) (Fp : Nat → Prop) (h : JAt w j d nm rs sz cut Fp) :
    Calls Try.prog 14 #[.pointer (some ⟨j, 0, none⟩)] w fun e w' => e = .returned (.int .i64 sz) ∧ w' = w := by
  have c5 := h.c5
  clear h
  go_enter Try.func14, Try.ntmps14
  go_wp2
  go_ret
  exact ⟨rfl, rfl⟩

theorem jsize_nil (w : World) : Calls Try.prog 14 #[.pointer none] w fun e w' => e = .returned (.int .i64 0) ∧ w' = w := by
  go_enter Try.func14, Try.ntmps14
  go_wp2
  go_ret
  exact ⟨rfl, rfl⟩

set_option maxHeartbeats 1000000 in
theorem jlen_any (w : World) (j d : Nat) (nm : ByteArray) (rs : List (List UInt8)) (sz : Nat) (cut : Bool) (Fp : Nat → Prop) (h : JAt w j d nm rs sz cut Fp) :
    Calls Try.prog 21 #[.pointer (some ⟨j, 0, none⟩)] w fun e w' => e = .returned (.int .i64 rs.length) ∧ w' = w := by
  obtain ⟨g, na, full, A, v, xs, hp, _⟩ := h.pay
  have cl := hp.cl
  obtain ⟨va, vc, rfl⟩ : ∃ va vc, v = .slice va rs.length vc := by
    rcases hp.row.2 with ⟨rfl, h1⟩ | ⟨b, cap, cur, rfl, _⟩
    · exact ⟨none, 0, by rw [h1]⟩
    · exact ⟨_, _, rfl⟩
  clear h hp
  go_enter Try.func21, Try.ntmps21
  go_wp2
  go_ret
  exact ⟨rfl, rfl⟩

theorem jlen_nil (w : World) : Calls Try.prog 21 #[.pointer none] w fun e w' => e = .returned (.int .i64 0) ∧ w' = w := by
  go_enter Try.func21, Try.ntmps21
  go_wp2
  go_ret
  exact ⟨rfl, rfl⟩

theorem jrecord_nil (w : World) (k : Int) : Calls Try.prog 19 #[.pointer none, .int .i64 k] w fun e w' => e = .returned (.tuple #[.slice none 0 0, .int .i64 1]) ∧ w' = w := by
  go_enter Try.func19, Try.ntmps19
  go_wp2
  go_ret2
  exact ⟨rfl, rfl⟩

set_option maxHeartbeats 1000000 in
theorem jrecord_no (w : World) (j d : Nat) (nm : ByteArray) (rs : List (List UInt8)) (sz : Nat) (cut : Bool) (Fp : Nat → Prop) (h : JAt w j d nm rs sz cut Fp) (k : Int) (hk : k < 0 ∨ (rs.length : Int) ≤ k) :
    Calls Try.prog 19 #[.pointer (some ⟨j, 0, none⟩), .int .i64 k] w fun e w' => e = .returned (.tuple #[.slice none 0 0, .int .i64 4]) ∧ Below w.heap.size w w' := by
  obtain ⟨g, na, full, A, v, xs, hp, _⟩ := h.pay
  have cl := hp.cl
  obtain ⟨va, vc, rfl⟩ : ∃ va vc, v = .slice va rs.length vc := by
    rcases hp.row.2 with ⟨rfl, h1⟩ | ⟨b, cap, cur, rfl, _⟩
    · exact ⟨none, 0, by rw [h1]⟩
    · exact ⟨_, _, rfl⟩
  clear h hp
  by_cases h0 : k < 0
  · go_enter Try.func19, Try.ntmps19
    go_wp2
    go_ret2
    exact ⟨rfl, Below.refl _ _⟩
  · have h1 : (rs.length : Int) ≤ k := by omega
    clear hk
    go_enter Try.func19, Try.ntmps19
    go_wp2
    go_ret2
    exact ⟨rfl, Below.refl _ _⟩

set_option maxHeartbeats 1000000 in
theorem jrecord_yes (w : World) (j d : Nat) (nm : ByteArray) (rs : List (List UInt8)) (sz : Nat) (cut : Bool) (Fp : Nat → Prop) (h : JAt w j d nm rs sz cut Fp) (k : Nat) (hk : k < rs.length) :
    Calls Try.prog 19 #[.pointer (some ⟨j, 0, none⟩), .int .i64 k] w fun e w' => ∃ a c, e = .returned (.tuple #[.slice a (rc rs k).length c, .int .i64 0]) ∧ Bytes w' a (rc rs k).length (rc rs k) ∧ Below w.heap.size w w' := by
  obtain ⟨g, na, full, A, v, xs, hp, _⟩ := h.pay
  have cl := hp.cl
  have hcl := hp.cell
  obtain ⟨a, c, hx, hac, hnil, hb⟩ := hp.bytes k hk
  have hle := offs_le rs k hk
  have hcnt := h.cnt
  have hsm := h.small
  rcases hcl with ⟨_, e⟩ | ⟨b, cap, rfl, _, _, hc⟩
  · rw [e] at hk; simp at hk
  · have hck := hc k _ hx
    clear hc h hp hx
    have i0 : ¬ (k : Int) < 0 := by omega
    have i1 : ¬ (rs.length : Int) ≤ (k : Int) := by omega
    have i2 : (k : Int) < (rs.length : Int) := by omega
    obtain ⟨m, hm⟩ : ∃ m, m = (rc rs k).length := ⟨_, rfl⟩
    rw [← hm] at hck hb hac hnil hle ⊢
    clear hm
    go_enter Try.func19, Try.ntmps19
    go_wp2_with fail
    refine (clone_any a m c (rc rs k) _ hb hnil (by omega)).mono ?_
    rintro e w2 ⟨a', c', rfl, hown, hB, _, _⟩
    go_wp2
    go_ret2
    exact ⟨a', c', rfl, (ownsRow_toBytes hown).1, hB⟩

end Go.Proofs.Ytjbifbfhlmdlbaa
