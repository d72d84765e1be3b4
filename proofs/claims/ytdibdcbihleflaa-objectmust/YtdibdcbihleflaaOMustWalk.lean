/- The walk of the law ObjectMust. -/
import Derived.Test.YtdibdcbihleflaaOSame
import Derived.Deep.RegionHeld3
namespace Go.Proofs.Ytdibdcbihleflaa
open Go.RowKit

theorem Box5.alloc {W : World} {B : Nat} {a b c d e : Value} (h : Box5 W B a b c d e) (o : Obj) : Box5 (W.alloc o) B a b c d e := h.kept ((Below.refl _ _).alloc (Nat.le_refl _) _)
theorem below_of_drew {W X : World} (h : Below W.drew.heap.size W.drew X) : Below W.heap.size W X := ⟨h.os, h.tape, h.output, h.size, h.block⟩
theorem below_drew {n0 : Nat} {w W : World} (h : Below n0 w W) : Below n0 w W.drew := ⟨h.os, h.tape, h.output, h.size, h.block⟩
/-- the three objects of the law, laid -/
structure Laid (w : World) (a : Option Addr) (n c : Nat) (la : Option Addr) (ln lc : Nat) (t : Int) (pa : Option Addr) (pn pc : Nat) (au : ByteArray) (d : Int) (tx : ByteArray) (B7 B8 B9 : Nat) (W : World) : Prop where
  p : Box5 W w.heap.size (.int .u64 t) (.slice pa pn pc) (.string au) (.int .i64 d) (.string tx)
  x : Boxed W B7 25 (.slice a n c)
  y : Boxed W B8 35 (.slice la ln lc)
  z : Box5 W B9 (.int .u64 t) (.slice pa pn pc) (.string au) (.int .i64 d) (.string tx)
  bel : Below w.heap.size w W
theorem Laid.kept {w : World} {a : Option Addr} {n c : Nat} {la : Option Addr} {ln lc : Nat} {t : Int} {pa : Option Addr} {pn pc : Nat} {au : ByteArray} {d : Int} {tx : ByteArray} {B7 B8 B9 : Nat} {W W' : World} (h : Laid w a n c la ln lc t pa pn pc au d tx B7 B8 B9 W) (hB : Below W.heap.size W W') : Laid w a n c la ln lc t pa pn pc au d tx B7 B8 B9 W' :=
  ⟨h.p.kept hB, (hB.block _ h.x.lt).trans h.x, (hB.block _ h.y.lt).trans h.y, h.z.kept hB, h.bel.trans (hB.mono h.bel.size)⟩

theorem al3 (W : World) (o1 o2 o3 : Obj) : (((W.alloc o1).alloc o2).alloc o3).heap[W.heap.size + 1 + 1]? = some o3 := by
  have := World.alloc_heap_new ((W.alloc o1).alloc o2) o3
  rw [World.size_alloc, World.size_alloc] at this; exact this
theorem al2 (W : World) (o1 o2 o3 : Obj) : (((W.alloc o1).alloc o2).alloc o3).heap[W.heap.size + 1]? = some o2 := by
  have := World.alloc_heap_new (W.alloc o1) o2
  rw [World.size_alloc] at this
  exact (Below.heap_alloc _ _ _ (by simp)).trans this
theorem al1 (W : World) (o1 o2 o3 : Obj) : (((W.alloc o1).alloc o2).alloc o3).heap[W.heap.size]? = some o1 :=
  (Below.heap_alloc _ _ _ (by simp; omega)).trans ((Below.heap_alloc _ _ _ (by simp)).trans (World.alloc_heap_new W o1))
theorem field_tree (v : Value) (W : World) : (Instr.field 35 (.agg #[v]) 0).run Try.prog W = .ok v W := by
  kernel_rfl
theorem laid3 {w w1 : World} {a : Option Addr} {n c : Nat} {la : Option Addr} {ln lc : Nat} {t : Int} {pa : Option Addr} {pn pc : Nat} {au : ByteArray} {d : Int} {tx : ByteArray} {B7 B8 B9 : Nat} (hb : Box5 w1 w.heap.size (.int .u64 t) (.slice pa pn pc) (.string au) (.int .i64 d) (.string tx)) (hB : Below w.heap.size w w1) (o1 o2 o3 : Obj)
    (hx : Boxed (((w1.alloc o1).alloc o2).alloc o3) B7 25 (.slice a n c)) (hy : Boxed (((w1.alloc o1).alloc o2).alloc o3) B8 35 (.slice la ln lc)) (hz : Box5 (((w1.alloc o1).alloc o2).alloc o3) B9 (.int .u64 t) (.slice pa pn pc) (.string au) (.int .i64 d) (.string tx)) :
    Laid w a n c la ln lc t pa pn pc au d tx B7 B8 B9 (((w1.alloc o1).alloc o2).alloc o3).drew := by
  have hs := hB.size
  exact ⟨((hb.alloc o1).alloc o2).alloc o3, hx, hy, hz, below_drew (((hB.alloc hs o1).alloc (by simp; omega) o2).alloc (by simp; omega) o3)⟩

set_option maxRecDepth 20000 in
set_option maxHeartbeats 4000000 in
theorem objectMust_walk (a : Option Addr) (n c : Nat) (la : Option Addr) (ln lc : Nat) (es : List Ent) (t : Int) (pa : Option Addr) (pn pc : Nat) (ps : List Int) (au : ByteArray) (d : Int) (tx : ByteArray) (w : World)
    (hE : Ents w la ln es) (hP : Ids w pa pn ps) (hln : ln ≤ 9223372036854775807) (hpn : pn ≤ 9223372036854775807) :
    Calls Try.prog 8 #[.slice a n c, .slice la ln lc, cmt t pa pn pc au d tx] w fun e w' => e = .returned (.bool true) ∧ Below w.heap.size w w' := by
  have hB0 : Below w.heap.size w (w.alloc (.cells #[.int .u64 t, .slice pa pn pc, .string au, .int .i64 d, .string tx] 42)) := (Below.refl _ w).alloc (Nat.le_refl _) _
  have b0 := Box5.new w (.int .u64 t) (.slice pa pn pc) (.string au) (.int .i64 d) (.string tx)
  go_enter Try.func8, Try.ntmps8
  go_wp2_with (go_at_call 9; refine (wakes_any _).mono ?_; rintro e w1 ⟨rfl, hB1⟩; have HB1 : Hid (Below w.heap.size w w1) := hB0.trans (hB1.mono hB0.size); have b1 := b0.kept hB1; clear hB0 hB1 b0)
  rename_i K hK
  suffices hK' : ∀ (u2 u3 u4 u6 u7 u8 u9 u10 u11 u12 u13 u14 u15 u16 u17 u18 u19 u20 u21 u22 u23 u24 u25 u26 u27 u28 u29 u30 u31 u32 u33 u34 u35 u36 u37 u38 u39 u40 u41 u42 u43 u44 u45 u46 u47 u48 u49 u50 u51 u52 u53 u54 : Value) (W3 : World), (∃ B7 B8 B9 : Nat, u7 = .pointer (some ⟨B7, 0, none⟩) ∧ u8 = .pointer (some ⟨B8, 0, none⟩) ∧ u9 = .pointer (some ⟨B9, 0, none⟩) ∧ Laid w a n c la ln lc t pa pn pc au d tx B7 B8 B9 W3) → K { tmps := #[.slice a n c, .slice la ln lc, u2, u3, u4, .pointer (some ⟨w.heap.size, 0, none⟩), u6, u7, u8, u9, u10, u11, u12, u13, u14, u15, u16, u17, u18, u19, u20, u21, u22, u23, u24, u25, u26, u27, u28, u29, u30, u31, u32, u33, u34, u35, u36, u37, u38, u39, u40, u41, u42, u43, u44, u45, u46, u47, u48, u49, u50, u51, u52, u53, u54], defers := [] } W3 by
    have HK : Hid _ := hK'
    clear hK hK'
    have HBx : Hid (Box5 w1 w.heap.size (.int .u64 t) (.slice pa pn pc) (.string au) (.int .i64 d) (.string tx)) := b1
    obtain ⟨c0, c1, c2, c3, c4⟩ := b1.cell
    have A1 := fun o => (b1.alloc o).cell
    have A2 := fun o o' => ((b1.alloc o).alloc o').cell
    have A3 := fun o o' o'' => (((b1.alloc o).alloc o').alloc o'').cell
    clear b1
    simp only [forall_and] at A1 A2 A3
    obtain ⟨a10, a11, a12, a13, a14⟩ := A1
    obtain ⟨a20, a21, a22, a23, a24⟩ := A2
    obtain ⟨a30, a31, a32, a33, a34⟩ := A3
    go_region
    · exact HK.out _ _ _ _ _ _ _ _ _ _ _ _ _ _ _ _ _ _ _ _ _ _ _ _ _ _ _ _ _ _ _ _ _ _ _ _ _ _ _ _ _ _ _ _ _ _ _ _ _ _ _ _ _ ⟨w1.heap.size, (w1.heap.size + 1), (w1.heap.size + 1 + 1), rfl, rfl, rfl, laid3 HBx.out HB1.out (.cells #[.slice a n c] 25) (.cells #[.slice la ln lc] 35) (.cells #[.int .u64 t, .slice pa pn pc, .string au, .int .i64 d, .string tx] 42) (al1 w1 _ _ _) (al2 w1 _ _ _) (al3 w1 _ _ _)⟩
    · exact HK.out _ _ _ _ _ _ _ _ _ _ _ _ _ _ _ _ _ _ _ _ _ _ _ _ _ _ _ _ _ _ _ _ _ _ _ _ _ _ _ _ _ _ _ _ _ _ _ _ _ _ _ _ _ ⟨w1.heap.size, (w1.heap.size + 1 + 1), (w1.heap.size + 1), rfl, rfl, rfl, laid3 HBx.out HB1.out (.cells #[.slice a n c] 25) (.cells #[.int .u64 t, .slice pa pn pc, .string au, .int .i64 d, .string tx] 42) (.cells #[.slice la ln lc] 35) (al1 w1 _ _ _) (al3 w1 _ _ _) (al2 w1 _ _ _)⟩
    · exact HK.out _ _ _ _ _ _ _ _ _ _ _ _ _ _ _ _ _ _ _ _ _ _ _ _ _ _ _ _ _ _ _ _ _ _ _ _ _ _ _ _ _ _ _ _ _ _ _ _ _ _ _ _ _ ⟨(w1.heap.size + 1), w1.heap.size, (w1.heap.size + 1 + 1), rfl, rfl, rfl, laid3 HBx.out HB1.out (.cells #[.slice la ln lc] 35) (.cells #[.slice a n c] 25) (.cells #[.int .u64 t, .slice pa pn pc, .string au, .int .i64 d, .string tx] 42) (al2 w1 _ _ _) (al1 w1 _ _ _) (al3 w1 _ _ _)⟩
    · exact HK.out _ _ _ _ _ _ _ _ _ _ _ _ _ _ _ _ _ _ _ _ _ _ _ _ _ _ _ _ _ _ _ _ _ _ _ _ _ _ _ _ _ _ _ _ _ _ _ _ _ _ _ _ _ ⟨(w1.heap.size + 1 + 1), w1.heap.size, (w1.heap.size + 1), rfl, rfl, rfl, laid3 HBx.out HB1.out (.cells #[.slice la ln lc] 35) (.cells #[.int .u64 t, .slice pa pn pc, .string au, .int .i64 d, .string tx] 42) (.cells #[.slice a n c] 25) (al3 w1 _ _ _) (al1 w1 _ _ _) (al2 w1 _ _ _)⟩
    · exact HK.out _ _ _ _ _ _ _ _ _ _ _ _ _ _ _ _ _ _ _ _ _ _ _ _ _ _ _ _ _ _ _ _ _ _ _ _ _ _ _ _ _ _ _ _ _ _ _ _ _ _ _ _ _ ⟨(w1.heap.size + 1), (w1.heap.size + 1 + 1), w1.heap.size, rfl, rfl, rfl, laid3 HBx.out HB1.out (.cells #[.int .u64 t, .slice pa pn pc, .string au, .int .i64 d, .string tx] 42) (.cells #[.slice a n c] 25) (.cells #[.slice la ln lc] 35) (al2 w1 _ _ _) (al3 w1 _ _ _) (al1 w1 _ _ _)⟩
    · exact HK.out _ _ _ _ _ _ _ _ _ _ _ _ _ _ _ _ _ _ _ _ _ _ _ _ _ _ _ _ _ _ _ _ _ _ _ _ _ _ _ _ _ _ _ _ _ _ _ _ _ _ _ _ _ ⟨(w1.heap.size + 1 + 1), (w1.heap.size + 1), w1.heap.size, rfl, rfl, rfl, laid3 HBx.out HB1.out (.cells #[.int .u64 t, .slice pa pn pc, .string au, .int .i64 d, .string tx] 42) (.cells #[.slice la ln lc] 35) (.cells #[.slice a n c] 25) (al3 w1 _ _ _) (al2 w1 _ _ _) (al1 w1 _ _ _)⟩
  intro u2 u3 u4 u6 u7 u8 u9 u10 u11 u12 u13 u14 u15 u16 u17 u18 u19 u20 u21 u22 u23 u24 u25 u26 u27 u28 u29 u30 u31 u32 u33 u34 u35 u36 u37 u38 u39 u40 u41 u42 u43 u44 u45 u46 u47 u48 u49 u50 u51 u52 u53 u54 W3 ⟨B7, B8, B9, e7, e8, e9, hLd⟩
  subst e7 e8 e9
  refine hK _ _ ?_
  clear hK
  have HL : Hid (Laid w a n c la ln lc t pa pn pc au d tx B7 B8 B9 W3) := hLd
  have cx := hLd.x.cell
  clear hLd b1
  have f1 := fun W => falls_tree 25 (by decide) (.agg #[.slice a n c]) W
  have f2 := fun W => falls_commit 25 (by decide) (.agg #[.slice a n c]) W
  have f3 := fun W => falls_commit 35 (by decide) (.agg #[.slice la ln lc]) W
  have f4 := fun W => falls_tree 42 (by decide) (cmt t pa pn pc au d tx) W
  go_wp2_with first
    | (go_at_call 35; refine (f1 _).mono ?_; clear f1; rintro e y1 ⟨rfl, g1⟩; have H1 : Hid _ := HL.out.kept g1; have cx1 := (HL.out.kept g1).x.cell; clear g1)
    | (go_at_call 35; refine (f2 _).mono ?_; clear f2; rintro e y2 ⟨rfl, g2⟩; have H2 : Hid _ := H1.out.kept g2; have cy2 := (H1.out.kept g2).y.cell; clear g2)
    | (go_at_call 35; refine (f3 _).mono ?_; clear f3; rintro e y3 ⟨rfl, g3⟩; have H3 : Hid _ := H2.out.kept g3; obtain ⟨z0, z1, z2, z3, z4⟩ := (H2.out.kept g3).z.cell; clear g3)
    | (go_at_call 35; refine (f4 _).mono ?_; clear f4; rintro e y4 ⟨rfl, g4⟩; have H4 : Hid _ := H3.out.kept g4; clear g4)
  have m1 := fun W => must_tree_any la ln lc W
  have m2 := fun W => must_commit_any t pa pn pc au d tx W
  have HE : Hid (∀ W, Below w.heap.size w W → Calls Try.prog 18 #[.slice la ln lc, .slice la ln lc] W fun e w' => e = .returned (.bool true) ∧ Below W.heap.size W w') := fun W hB => entries_same W la ln lc lc es (hE.kept hB) hln
  have HC : Hid (∀ W, Below w.heap.size w W → Calls Try.prog 21 #[cmt t pa pn pc au d tx, cmt t pa pn pc au d tx] W fun e w' => e = .returned (.bool true) ∧ Below W.heap.size W w') := fun W hB => commits_same t pa pn pc au d tx W ps (hP.kept hB) hpn
  have cy4 := H4.out.y.cell
  have hfd := field_tree
  clear hE hP
  go_region_with (first
    | (go_at_call 19; refine (m1 _).mono ?_; rintro e y5 ⟨rfl, g5⟩; have H5 : Hid (Laid w a n c la ln lc t pa pn pc au d tx B7 B8 B9 y5) := (by first | exact H4.out.kept g5 | exact H4.out.kept (below_of_drew g5)); clear g5)
    | (go_at_call 18; refine (HE.out _ (by first | exact H5.out.bel | exact below_drew H5.out.bel)).mono ?_; rintro e y6 ⟨rfl, g6⟩; have H6 : Hid (Laid w a n c la ln lc t pa pn pc au d tx B7 B8 B9 y6) := (by first | exact H5.out.kept g6 | exact H5.out.kept (below_of_drew g6)); obtain ⟨s0, s1, s2, s3, s4⟩ := H6.out.z.cell; obtain ⟨r0, r1, r2, r3, r4⟩ := H6.out.p.cell; clear g6)
    | (go_at_call 22; refine (m2 _).mono ?_; rintro e y7 ⟨rfl, g7⟩; have H7 : Hid (Laid w a n c la ln lc t pa pn pc au d tx B7 B8 B9 y7) := (by first | exact H6.out.kept g7 | exact H6.out.kept (below_of_drew g7)); obtain ⟨r0', r1', r2', r3', r4'⟩ := H7.out.p.cell; clear g7)
    | (go_at_call 21; refine (HC.out _ (by first | exact H7.out.bel | exact below_drew H7.out.bel)).mono ?_; rintro e y8 ⟨rfl, g8⟩; have H8 : Hid (Laid w a n c la ln lc t pa pn pc au d tx B7 B8 B9 y8) := (by first | exact H7.out.kept g8 | exact H7.out.kept (below_of_drew g8)); clear g8)
    | (go_at_call 9; refine (wakes_any _).mono ?_; rintro e y9 ⟨rfl, g9⟩; have H9 : Hid (Laid w a n c la ln lc t pa pn pc au d tx B7 B8 B9 y9) := (by first | exact H8.out.kept g9 | exact H8.out.kept (below_of_drew g9)); clear g9))
  all_goals
    go_wp2
    go_ret
    exact ⟨rfl, H9.out.bel⟩
end Go.Proofs.Ytdibdcbihleflaa
