/- The walks of strings.Builder's WriteByte and WriteString, of a builder that the call itself has made. -/
import Derived.Test.YtghjbghhciofnaaDoorQApp
import Derived.Shelf.Strings.Builder1
namespace Go.Proofs.YtghjbghhciofnaaDoor
open Go.RowKit

/-- the builder in block b, of a call that began at w0, holds these bytes -/
abbrev BldAt (B b : Nat) (l : List UInt8) (W : World) : Prop := Lib.IsBuilder 53 5 B b (cellsOf l) W

set_option maxRecDepth 100000 in
set_option maxHeartbeats 1000000 in
theorem copyCheck_any (B b : Nat) (l : List UInt8) (w : World) (h : BldAt B b l w) :
    Calls Tryd.prog 46 #[.pointer (some ⟨b, 0, none⟩)] w fun e w' => e = .returned (.tuple #[]) ∧ Lib.BuilderAt 53 5 B b (.pointer (some ⟨b, 0, none⟩)) (cellsOf l) w' ∧ Below B w w' := by
  have hsz : (Tryd.prog.info? 53).map (·.size) = some 2 := by kernel_rfl
  obtain ⟨j, hj, hjs⟩ := Option.map_eq_some_iff.1 hsz
  rcases h with h | h
  · have h0 := h.cell0
    have hsh := h.shape
    have hfz := h.frozen0
    have HB : Hid (Lib.BuilderAt 53 5 B b (.pointer none) (cellsOf l) w) := h
    clear h
    go_enter Tryd.func46, Tryd.ntmps46
    go_wp2
    rw [Lib.run_to_unsafe w ⟨b, 0, none⟩ Tryd.underlying50 Tryd.underlying85 hj (by rw [hjs]; decide) hsh (Nat.zero_lt_succ 1)]
    simp only [Result.andThen]
    rw [Oper.upon_value]
    go_wp2
    rw [run_callFunc_extern Tryd.func60 (by kernel_rfl) (by kernel_rfl) (by kernel_rfl) (e := Extern.AbiNoEscape.same) (by kernel_rfl)]
    rw [Lib.run_noEscape]
    simp only [Result.andThen]
    rw [Oper.upon_value]
    go_wp2
    rw [Lib.run_from_unsafe w ⟨b, 0, none⟩ Tryd.underlying85 Tryd.underlying50 hj hsh (by kernel_rfl)]
    simp only [Result.andThen]
    rw [Oper.upon_value]
    go_wp2
    go_end0
    exact ⟨rfl, HB.out.used _, (Below.refl B w).setCell (p := ⟨b, 0, none⟩) HB.out.1 _⟩
  · have h0 := h.cell0
    have HB : Hid (Lib.BuilderAt 53 5 B b (.pointer (some ⟨b, 0, none⟩)) (cellsOf l) w) := h
    clear h
    go_enter Tryd.func46, Tryd.ntmps46
    go_wp2
    rw [Lib.run_neq_ptr_same w _ Tryd.underlying50 hj]
    go_wp2
    go_end0
    exact ⟨rfl, HB.out, Below.refl B _⟩

theorem bld_block {B b : Nat} {p : Value} {l : List UInt8} {W : World} (h : Lib.BuilderAt 53 5 B b p (cellsOf l) W) :
    ∃ v, W.heap[b]? = some (.cells #[p, v] 53 (0, 0)) ∧ W.ownsRow B 5 1 v l.length (cellsOf l) ∧ v.ownBlock ≠ some b ∧ b < W.heap.size := by
  obtain ⟨_, v, hv, ho, hn⟩ := h
  exact ⟨v, hv, by rw [cellsOf_length] at ho; exact ho, hn, (Array.getElem?_eq_some_iff.1 hv).1⟩

theorem bld_put {B b : Nat} {v v' : Value} {l m : List UInt8} {w w2 : World} {n : Nat} (hBb : B ≤ b) (hb2 : w2.heap[b]? = some (.cells #[.pointer (some ⟨b, 0, none⟩), v] 53 (0, 0))) (hn : n = m.length) (ho : w2.ownsRow B 5 1 v' (l.length + n) (cellsOf l ++ cellsOf m)) (hB : Below B w w2) :
    w2.cell? ⟨b, 0, none⟩ = some (.pointer (some ⟨b, 0, none⟩)) ∧ w2.cell? ⟨b, 1, none⟩ = some v ∧ w2.frozen? ⟨b, 1, none⟩ = false ∧ Hid (BldAt B b (l ++ m) (w2.setCell ⟨b, 1, none⟩ v') ∧ Below B w (w2.setCell ⟨b, 1, none⟩ v')) :=
  ⟨by rw [Lib.cell_of_heap hb2]; rfl, by rw [Lib.cell_of_heap hb2]; rfl, Lib.frozen_of_heap hb2 1, .inr (Lib.BuilderAt.put hBb hb2 (by rw [cellsOf_length, List.length_append, cellsOf_append, ← hn]; exact ho) (by decide)), hB.setCell (p := ⟨b, 1, none⟩) hBb _⟩

set_option maxRecDepth 100000 in
set_option maxHeartbeats 2000000 in
theorem writeByte_any (B b : Nat) (l : List UInt8) (c : UInt8) (w : World) (h : BldAt B b l w) (hl : l.length + 1 ≤ 140737488355328) (hB : B ≤ w.heap.size) :
    Calls Tryd.prog 26 #[.pointer (some ⟨b, 0, none⟩), .int .u8 (c.toNat : Int)] w fun e w' => e = .returned .nilIface ∧ BldAt B b (l ++ [c]) w' ∧ Below B w w' := by
  go_enter Tryd.func26, Tryd.ntmps26
  go_wp2_with first
    | (go_at_call 46; refine (copyCheck_any B b l _ h).mono ?_; rintro e w1 ⟨rfl, h1, hb1⟩; have hBb := h1.1; obtain ⟨v, hbk, hown, hne, hlt⟩ := bld_block h1; have hw1 := hb1.size; have c0 : w1.cell? ⟨b, 0, none⟩ = some (.pointer (some ⟨b, 0, none⟩)) := (by rw [Lib.cell_of_heap hbk]; rfl); have c1 : w1.cell? ⟨b, 1, none⟩ = some v := (by rw [Lib.cell_of_heap hbk]; rfl))
    | (at_builtin; refine wpList_app _ B (by simp; omega) rfl _ _ rfl v l.length _ rfl (hown.alloc _) (some ⟨w1.heap.size, 0, none⟩) 1 1 [c] rfl (bytes_new w1 [c] _ rfl) (fun h => by cases h) (by omega) ?_; intro v' w2 hown2 hgr2 hat2; have hb2 := (hgr2.block b (by simp; omega) (fun e => hne e.symm)).trans ((Lib.alloc_old w1 _ b hlt).trans hbk); obtain ⟨d0, d1, f1, HF⟩ := bld_put hBb hb2 rfl hown2 ((hb1.alloc (by omega) _).grown hgr2 (by simp; omega) (fun k hk => (hown.lt k hk).1)); obtain ⟨ad, cp, rfl, _⟩ := row_shape hown2; clear hown2 hgr2 hat2 h1 hb1 hown hbk hb2)
  go_ret
  exact ⟨rfl, HF.out⟩

set_option maxRecDepth 100000 in
set_option maxHeartbeats 2000000 in
theorem writeString_any (B b : Nat) (l : List UInt8) (s : ByteArray) (w : World) (h : BldAt B b l w) (hl : l.length + s.size ≤ 140737488355328) (hB : B ≤ w.heap.size) :
    Calls Tryd.prog 25 #[.pointer (some ⟨b, 0, none⟩), .string s] w fun e w' => e = .returned (.tuple #[.int .i64 s.size, .nilIface]) ∧ BldAt B b (l ++ bs s) w' ∧ Below B w w' := by
  obtain ⟨i0, hi, hz0, hz1, hz2⟩ := info_parts Tryd.info5
  go_enter Tryd.func25, Tryd.ntmps25
  go_wp2_with first
    | (go_at_call 46; refine (copyCheck_any B b l _ h).mono ?_; rintro e w1 ⟨rfl, h1, hb1⟩; have hBb := h1.1; obtain ⟨v, hbk, hown, hne, hlt⟩ := bld_block h1; have hw1 := hb1.size; have c0 : w1.cell? ⟨b, 0, none⟩ = some (.pointer (some ⟨b, 0, none⟩)) := (by rw [Lib.cell_of_heap hbk]; rfl); have c1 : w1.cell? ⟨b, 1, none⟩ = some v := (by rw [Lib.cell_of_heap hbk]; rfl))
    | (at_builtin; refine Lib.wpList_append_own_string _ rfl _ _ 51 9 rfl B 5 i0 Tryd.underlying51 Tryd.underlying9 hi hz0 hz1 hz2 v l.length _ rfl hown s rfl (by unfold maxLen; omega) (by omega) (by omega) ?_; intro v' w2 hown2 hgr2 hat2; have hb2 := (hgr2.block b hlt (fun e => hne e.symm)).trans hbk; obtain ⟨d0, d1, f1, HF⟩ := bld_put hBb hb2 (bs_len s).symm hown2 (hb1.grown hgr2 (by omega) (fun k hk => (hown.lt k hk).1)); obtain ⟨ad, cp, rfl, _⟩ := row_shape hown2; clear hown2 hgr2 hat2 h1 hb1 hown hbk hb2)
  go_ret2
  exact ⟨rfl, HF.out⟩
end Go.Proofs.YtghjbghhciofnaaDoor
