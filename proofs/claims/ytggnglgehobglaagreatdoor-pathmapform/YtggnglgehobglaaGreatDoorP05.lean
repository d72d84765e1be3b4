import Derived.Test.YtggnglgehobglaaGreatDoorP04
import Derived.WalkMore
/- The walk of Path. -/
namespace Go.Proofs.YtggnglgehobglaaGreatDoor
open Go.RowKit Go.Shelf

attribute [local go_sem] Oper.semAt_some

/-! what Path's loop finds, over pieces -/
def walkP : List (Nat × List UInt8) → Nat → Nat × Nat
  | [], _ => (0, 0)
  | x :: r, i => if i = 16 then (3, x.1) else if okName x.2 then walkP r (i + 1) else ((spot x.2).1, x.1 + (spot x.2).2)
theorem walkP_offs (ns : List (List UInt8)) (i p : Nat) : pathFrom ns i p = walkP (offs p ns) i := by
  induction ns generalizing i p with
  | nil => rfl
  | cons n r ih => simp only [pathFrom, offs, walkP, ih]
def OkAll {s : ByteArray} (pre : List (Pc s)) : Prop := pre.length ≤ 16 ∧ ∀ x ∈ pre, okName (bs x.1.2) = true
theorem walkP_pre {s : ByteArray} (pre : List (Pc s)) (rest : List (Nat × List UInt8)) (i : Nat) (h : ∀ x ∈ pre, okName (bs x.1.2) = true) (hi : i + pre.length ≤ 16) : walkP (pre.map Pc.at ++ rest) i = walkP rest (i + pre.length) := by
  induction pre generalizing i with
  | nil => rfl
  | cons x r ih =>
    simp only [List.map_cons, List.cons_append, walkP]
    rw [List.length_cons] at hi
    rw [if_neg (by omega), if_pos (show okName (Pc.at x).2 = true from h x (by simp)), ih (i + 1) (fun y hy => h y (by simp [hy])) (by omega), List.length_cons]
    congr 1; omega
theorem OkAll.done {s : ByteArray} {xs : List (Pc s)} (h : OkAll xs) (hs : xs.map Pc.at = pcs (bs s)) (hz : s.size ≤ 200) : pathSpot (bs s) = (0, 0) := by
  unfold pathSpot
  rw [if_neg (by rw [bs_len]; omega), walkP_offs]
  show walkP (pcs (bs s)) 0 = _
  have := walkP_pre xs [] 0 h.2 (by have := h.1; omega)
  rw [← hs, ← List.append_nil (List.map Pc.at xs), this]; rfl
/-- what is found at a piece that is none -/
def lackP {s : ByteArray} (q : List (Pc s)) (x : Pc s) : Nat × Nat := if q.length = 16 then (3, x.1.1) else ((spot (bs x.1.2)).1, x.1.1 + (spot (bs x.1.2)).2)
theorem OkAll.stop {s : ByteArray} {q : List (Pc s)} {x : Pc s} (h : OkAll q) (hx : q.length = 16 ∨ okName (bs x.1.2) = false) {rest : List (Nat × List UInt8)} (hs : (q ++ [x]).map Pc.at ++ rest = pcs (bs s)) (hz : s.size ≤ 200) : pathSpot (bs s) = lackP q x := by
  unfold pathSpot
  rw [if_neg (by rw [bs_len]; omega), walkP_offs]
  show walkP (pcs (bs s)) 0 = _
  rw [← hs, List.map_append, List.append_assoc, walkP_pre q _ 0 h.2 (by have := h.1; omega), Nat.zero_add]
  simp only [List.map_cons, List.map_nil, List.singleton_append, walkP, lackP]
  by_cases h16 : q.length = 16
  · rw [if_pos h16, if_pos h16]; rfl
  · rw [if_neg h16, if_neg h16]
    have := hx.resolve_left h16
    show (if okName (bs x.1.2) = true then _ else _) = _
    rw [this]
    rfl

theorem box2_own {β : Type} (B : Nat) (u0 u1 : β → Value) : Own (fun s W => Box2 W B (u0 s) (u1 s)) := fun s X Y row hs hg hrow =>
  (hg.block B hs.lt (fun e' => by obtain ⟨_, ho, hc⟩ := hrow B e'.symm; rw [show X.heap[B]? = _ from hs] at ho; cases ho; cases hc)).trans hs
theorem KeepsOthers.of_below {W W' : World} (h : Below W.heap.size W W') : KeepsOthers W W' := ⟨h.size, fun k _ hk _ => (h.block k (Array.getElem?_eq_some_iff.1 hk).1).trans hk⟩

theorem box2_keep {X Y : World} {row : Option Nat} {B b0 : Nat} {u0 u1 : Value} (h : Box2 X B u0 u1) (hg : X.grownBy Y row) (hr : ∀ r, row = some r → b0 ≤ r ∧ ∃ o : Obj, X.heap[r]? = some o ∧ o.isCells = false) : Box2 Y B u0 u1 :=
  box2_own (β := Unit) B (fun _ => u0) (fun _ => u1) () X Y row h hg (fun r e => (hr r e).2)
theorem boxed_keep {X Y : World} {row : Option Nat} {B b0 : Nat} {t : TypeId} {u : Value} (h : Boxed X B t u) (hg : X.grownBy Y row) (hr : ∀ r, row = some r → b0 ≤ r ∧ ∃ o : Obj, X.heap[r]? = some o ∧ o.isCells = false) : Boxed Y B t u :=
  boxed_own (β := Unit) B t (fun _ => u) () X Y row h hg (fun r e => (hr r e).2)
theorem below_keep {w X Y : World} {row : Option Nat} {n0 b0 : Nat} (h : Below n0 w X) (hn : n0 ≤ w.heap.size) (hb : n0 ≤ b0) (hg : X.grownBy Y row) (hr : ∀ r, row = some r → b0 ≤ r ∧ ∃ o : Obj, X.heap[r]? = some o ∧ o.isCells = false) : Below n0 w Y :=
  ownFrom_below (β := Unit) hn hb () X Y row h hg hr
structure PathI {s : ByteArray} (w : World) (pre : List (Pc s)) (W : World) : Prop where
  r : Box2 W w.heap.size (.int .i64 0) (.int .i64 0)
  l : Box2 W (w.heap.size + 1) (.int .i64 0) (.int .i64 0)
  n : Boxed W (w.heap.size + 2) 3 (.int .i64 (pre.length : Int))
  p : Boxed W (w.heap.size + 3) 9 (.string s)
  b : Below w.heap.size w W
  ok : OkAll pre
structure PathXs {s : ByteArray} (w : World) (c : Code) (q : List (Pc s)) (x : Pc s) (W : World) : Prop where
  r : Box2 W w.heap.size (.int .i64 0) (.int .i64 0)
  l : Box2 W (w.heap.size + 1) (.int .i64 ((lackP q x).1 : Int)) (.int .i64 ((lackP q x).2 : Int))
  b : Below w.heap.size w W
  ok : OkAll q
  no : q.length = 16 ∨ okName (bs x.1.2) = false
  c : c = .exit 0
def PathX {s : ByteArray} (w : World) (c : Code) (pre : List (Pc s)) (W : World) : Prop := ∃ q x, pre = q ++ [x] ∧ PathXs w c q x W
theorem pathI_own {s : ByteArray} (w : World) (b0 : Nat) (h0 : w.heap.size ≤ b0) : OwnFrom b0 (PathI (s := s) w) := fun _ _ _ _ hs hg hr =>
  ⟨box2_keep hs.r hg hr, box2_keep hs.l hg hr, boxed_keep hs.n hg hr, boxed_keep hs.p hg hr, below_keep hs.b (Nat.le_refl _) h0 hg hr, hs.ok⟩
theorem pathX_own {s : ByteArray} (w : World) (b0 : Nat) (h0 : w.heap.size ≤ b0) (c : Code) : OwnFrom b0 (PathX (s := s) w c) := fun _ _ _ _ hs hg hr => by
  obtain ⟨q, x, e, hs⟩ := hs
  exact ⟨q, x, e, box2_keep hs.r hg hr, box2_keep hs.l hg hr, below_keep hs.b (Nat.le_refl _) h0 hg hr, hs.ok, hs.no, hs.c⟩

theorem PathI.kept {s : ByteArray} {w W W' : World} {pre : List (Pc s)} (h : PathI w pre W) (hB : Below W.heap.size W W') : PathI w pre W' :=
  ⟨h.r.kept hB, h.l.kept hB, (hB.block _ h.n.lt).trans h.n, (hB.block _ h.p.lt).trans h.p, h.b.trans (hB.mono h.b.size), h.ok⟩
theorem PathI.alloc {s : ByteArray} {w W : World} {pre : List (Pc s)} (h : PathI w pre W) (o : Obj) : PathI w pre (W.alloc o) := h.kept ((Below.refl _ _).alloc (Nat.le_refl _) _)
/-- the cells that a round reads and writes -/
structure PathC (w : World) (k : Int) (W : World) : Prop where
  n : W.cell? ⟨w.heap.size + 1 + 1, 0, none⟩ = some (.int .i64 k)
  fn : W.frozen? ⟨w.heap.size + 1 + 1, 0, none⟩ = false
  l0 : W.cell? ⟨w.heap.size + 1, 0, none⟩ = some (.int .i64 0)
  l1 : W.cell? ⟨w.heap.size + 1, 1, none⟩ = some (.int .i64 0)
  f0 : W.frozen? ⟨w.heap.size + 1, 0, none⟩ = false
  f1 : W.frozen? ⟨w.heap.size + 1, 1, none⟩ = false
theorem PathI.cells {s : ByteArray} {w W : World} {pre : List (Pc s)} (h : PathI w pre W) : PathC w (pre.length : Int) W := ⟨h.n.cell, h.n.frozen, h.l.cell.1, h.l.cell.2, h.l.frozen.1, h.l.frozen.2⟩
theorem box2_at (W : World) (a b : Value) : (W.alloc (.cells #[a, b] 48)).cell? ⟨W.heap.size, 0, none⟩ = some a ∧ (W.alloc (.cells #[a, b] 48)).cell? ⟨W.heap.size, 1, none⟩ = some b := (Box2.new W a b).cell

theorem KeepsOthers.then_set {W W1 : World} (hB : Below W.heap.size W W1) (o : Obj) (a : Addr) (v : Value) : KeepsOthers W ((W1.alloc o).setCell a v) :=
  ((KeepsOthers.of_below hB).trans (KeepsOthers.alloc _ _)).trans (KeepsOthers.setCell _ _ _)
theorem PathI.on {s : ByteArray} {w W W1 : World} {pre : List (Pc s)} {L b0 : Nat} (h : PathI w pre W) (hB : Below W.heap.size W W1) (o : Obj) (x : Pc s) (hL : L = pre.length) (h16 : L ≤ 16) (hn : ¬ L = 16) (hx : okName (bs x.1.2) = true) :
    KeepsFrom b0 W ((W1.alloc o).setCell ⟨w.heap.size + 1 + 1, 0, none⟩ (.int .i64 ((L : Int) + 1))) ∧ KpB (w.heap.size + 3) W ((W1.alloc o).setCell ⟨w.heap.size + 1 + 1, 0, none⟩ (.int .i64 ((L : Int) + 1))) ∧ PathI w (pre ++ [x]) ((W1.alloc o).setCell ⟨w.heap.size + 1 + 1, 0, none⟩ (.int .i64 ((L : Int) + 1))) := by
  have hI := (h.kept hB).alloc o
  have hK := KeepsOthers.then_set hB o ⟨w.heap.size + 1 + 1, 0, none⟩ (.int .i64 ((L : Int) + 1))
  have hp : Boxed ((W1.alloc o).setCell ⟨w.heap.size + 1 + 1, 0, none⟩ (.int .i64 ((L : Int) + 1))) (w.heap.size + 3) 9 (.string s) := hI.p.other (by omega) _
  refine ⟨hK.from _, ⟨hK.walks, hp.trans h.p.symm⟩, hI.r.other (by omega) _, hI.l.other (by omega) _, ?_, hp, hI.b.setCell (p := ⟨w.heap.size + 1 + 1, 0, none⟩) (by show w.heap.size ≤ w.heap.size + 1 + 1; omega) _, ?_, ?_⟩
  · have := hI.n.set (.int .i64 ((L : Int) + 1))
    rw [List.length_append, List.length_singleton, ← hL]
    exact this
  · rw [List.length_append, List.length_singleton]; omega
  · intro y hy
    rcases List.mem_append.1 hy with hy | hy
    · exact h.ok.2 y hy
    · rw [List.mem_singleton.1 hy]; exact hx
theorem PathI.off {s : ByteArray} {w W W1 : World} {pre : List (Pc s)} {b0 : Nat} (h : PathI w pre W) (hB : Below W.heap.size W W1) (o : Obj) (x : Pc s) (u0 u1 : Int) (h0 : u0 = (lackP pre x).1) (h1 : u1 = (lackP pre x).2) (hx : pre.length = 16 ∨ okName (bs x.1.2) = false) :
    KeepsFrom b0 W (((W1.alloc o).setCell ⟨w.heap.size + 1, 0, none⟩ (.int .i64 u0)).setCell ⟨w.heap.size + 1, 1, none⟩ (.int .i64 u1)) ∧ PathX w (.exit 0) (pre ++ [x]) (((W1.alloc o).setCell ⟨w.heap.size + 1, 0, none⟩ (.int .i64 u0)).setCell ⟨w.heap.size + 1, 1, none⟩ (.int .i64 u1)) := by
  have hI := (h.kept hB).alloc o
  have hK := (KeepsOthers.then_set hB o ⟨w.heap.size + 1, 0, none⟩ (.int .i64 u0)).trans (KeepsOthers.setCell _ ⟨w.heap.size + 1, 1, none⟩ (.int .i64 u1))
  refine ⟨hK.from _, pre, x, rfl, (hI.r.other (by omega) _).other (by omega) _, ?_, (hI.b.setCell (p := ⟨w.heap.size + 1, 0, none⟩) (by show w.heap.size ≤ w.heap.size + 1; omega) _).setCell (p := ⟨w.heap.size + 1, 1, none⟩) (by show w.heap.size ≤ w.heap.size + 1; omega) _, h.ok, hx, rfl⟩
  rw [← h0, ← h1]
  exact hI.l.all _ _

theorem spot_ret_d {n k : Nat} {f : Func} {W : World} {p D : Nat} {u0 u1 : Value} {tmps : Array Value} {P : Ending → World → Prop} (hf : f.results = #[ResultVar.cell k 48]) (hb : Box2 W p u0 u1) (ha : tmps[k]?.getD undef = .pointer (some ⟨p, 0, none⟩)) (hK : W.heap[D]? = some (.deferred (some []))) (hP : P (.returned (.agg #[u0, u1])) (W.putObj D (.deferred none))) :
    bodyPostM Fence.wide n Tryz.prog f P Exit.ret { tmps := tmps, defers := [{ target := .collected D, args := #[] }] } W := by
  have hb' : Box2 (W.putObj D (.deferred none)) p u0 u1 := box2_own (β := Unit) p (fun _ => u0) (fun _ => u1) () W _ (some D) hb (grownBy_putObj' _ D (.deferred none)) (fun r e => by cases e; exact ⟨_, hK, rfl⟩)
  obtain ⟨c0, c1⟩ := hb'.cell
  refine ⟨by simp, .inl ⟨_, _, rfl, run_takeDeferred hK, ?_⟩⟩
  exact ⟨.agg #[u0, u1], by simp [results, hf, go_sem, ha, c0, c1], hP⟩

set_option maxRecDepth 100000 in
set_option maxHeartbeats 4000000 in
theorem path_any (s : ByteArray) (w : World) (hs : s.size ≤ maxLen) :
    Calls Tryz.prog 50 #[.string s] w fun e w' => e = .returned (spotV (pathSpot (bs s))) ∧ Below w.heap.size w w' := by
  have hs' : s.size ≤ 9223372036854775807 := by unfold maxLen at hs; omega
  by_cases h2 : 200 < s.size
  · have i2 : (200 : Int) < s.size := by omega
    go_enter Tryz.func50, Tryz.ntmps50
    go_wp2
    go_step3
    go_wp2
    rw [Exit.noGoto_ret]
    exact spot_ret (k := 2) rfl (Box2.new _ _ _) rfl rfl ⟨by unfold pathSpot; rw [if_pos (show 200 < (bs s).length by rw [bs_len]; exact h2)]; rfl, (Below.refl _ w).alloc (Nat.le_refl _) _⟩
  · have i2 : ¬ (200 : Int) < s.size := by omega
    refine (callsIn_wide (n := 5)).1 ?_
    refine callsIn_of_wp_marks Tryz.func50 rfl trivial ?_ rfl
    simp only [Tryz.ntmps50, List.size_toArray, List.length_cons, List.length_nil, Nat.reduceAdd, Nat.reduceSub, Array.replicate_succ, Array.replicate_zero, List.push_toArray, List.append_toArray, List.nil_append, List.cons_append]
    refine wpIn_wide.2 ?_
    go_wp2_with fail
    go_step3
    go_wp2_with fail
    go_step3
    go_wp2_with fail
    refine (npieces_any s _).mono ?_
    rintro e w' ⟨rfl, rfl⟩
    go_wp2_with fail
    obtain ⟨w4, hw4⟩ : ∃ w4, w4 = (((w.alloc (.cells #[.int .i64 0, .int .i64 0] 48)).alloc (.cells #[.int .i64 0, .int .i64 0] 48)).alloc (.cells #[.int .i64 0] 3)).alloc (.cells #[.string s] 9) := ⟨_, rfl⟩
    have hs4 : w4.heap.size = w.heap.size + 4 := by rw [hw4]; simp
    have hB4 : Below w.heap.size w w4 := by
      rw [hw4]; exact ((((Below.refl _ w).alloc (Nat.le_refl _) _).alloc (by simp) _).alloc (by simp; omega) _).alloc (by simp; omega) _
    have bR : Box2 w4 w.heap.size (.int .i64 0) (.int .i64 0) := by
      rw [hw4]
      exact (Box2.new w _ _).kept ((((Below.refl _ _).alloc (Nat.le_refl _) _).alloc (by simp) _).alloc (by simp) _)
    have bL : Box2 w4 (w.heap.size + 1) (.int .i64 0) (.int .i64 0) := by
      have := Box2.new (w.alloc (.cells #[.int .i64 0, .int .i64 0] 48)) (.int .i64 0) (.int .i64 0)
      rw [World.size_alloc] at this
      rw [hw4]
      exact this.kept (((Below.refl _ _).alloc (Nat.le_refl _) _).alloc (by simp) _)
    have bN : Boxed w4 (w.heap.size + 2) 3 (.int .i64 0) := by
      have := (Boxed.new ((w.alloc (.cells #[.int .i64 0, .int .i64 0] 48)).alloc (.cells #[.int .i64 0, .int .i64 0] 48)) 3 (.int .i64 0)).alloc (.cells #[.string s] 9)
      rw [World.size_alloc, World.size_alloc] at this
      rw [hw4]; exact this
    have bP : Boxed w4 (w.heap.size + 3) 9 (.string s) := by
      have := Boxed.new (((w.alloc (.cells #[.int .i64 0, .int .i64 0] 48)).alloc (.cells #[.int .i64 0, .int .i64 0] 48)).alloc (.cells #[.int .i64 0] 3)) 9 (.string s)
      rw [World.size_alloc, World.size_alloc, World.size_alloc] at this
      rw [hw4]; exact this
    rw [← hw4]
    clear hw4
    refine (wpIn_wide (n := 5)).1 ?_
    refine wpIn_rangeFunc_ownG (w := w4) (w0 := w4) rfl (by omega) (gf := 94) (lb := #[.pointer (some ⟨w.heap.size + 3, 0, none⟩)]) rfl trivial (enters_of Tryz.func94 (by kernel_rfl) rfl)
      (pieces_stops s hs w4 (w.heap.size + 3) bP 4 (by omega)) KpB.t (fun W l o o' hl ho _ hw => ⟨KeepsWalks.putObj _ ho hw, World.putObj_heap_other (by omega)⟩) (Below.refl _ _) (fun _ => rfl)
      (PathI w) (PathX w) (pathI_own w _ (by omega)) (pathX_own w _ (by omega))
      ⟨bR, bL, bN, bP, hB4, by simp, by simp⟩ ?act ?assign ?body ?done ?stop
    case assign =>
      intro l x W K hK
      gi_wp2
      exact hK
    case body =>
      rintro l pre x W hI hlen
      have H : Hid (PathI w pre W) := hI
      have hx := x.2
      have hpl := hI.ok.1
      have hd : 1 ≤ 5 - 1 - 1 := by omega
      have hsl := spot_le (bs x.1.2)
      rw [bs_len] at hsl
      have hck := check_any x.1.2 W (by omega)
      obtain ⟨e1, he1⟩ : ∃ e1, e1 = (spot (bs x.1.2)).1 := ⟨_, rfl⟩
      obtain ⟨e2, he2⟩ : ∃ e2, e2 = (spot (bs x.1.2)).2 := ⟨_, rfl⟩
      simp only [spotV] at hck
      rw [← he1, ← he2] at hck
      rw [← he2] at hsl
      have HE1 : Hid (e1 = (spot (bs x.1.2)).1) := he1
      have HE2 : Hid (e2 = (spot (bs x.1.2)).2) := he2
      clear he1 he2 hI bR bL bN bP hB4
      obtain ⟨L, hL⟩ : ∃ L, L = pre.length := ⟨_, rfl⟩
      have HL : Hid (L = pre.length) := hL
      rw [← hL] at hpl
      have HQ : Hid (∀ W1 o, Below W.heap.size W W1 → PathC w (L : Int) (W1.alloc o)) := fun W1 o hB => by rw [hL]; exact ((H.out.kept hB).alloc o).cells
      clear hL
      by_cases h16 : L = 16
      · subst h16
        gi_wp2_with (refine ⟨trivial, ?_⟩; gi_at_call 73; refine (CallsIn.inRound l (callsIn_wide.2 hck)).mono ?_; rintro e W1 ⟨rfl, hB1⟩; obtain ⟨cN, fN, l0, l1, f0, f1⟩ := HQ.out W1 (.cells #[.int .i64 (e1 : Int), .int .i64 (e2 : Int)] 48) hB1; obtain ⟨q0, q1⟩ := box2_at W1 (.int .i64 (e1 : Int)) (.int .i64 (e2 : Int)))
        refine H.out.off hB1 _ x _ _ ?_ ?_ (.inl HL.out.symm)
        · unfold lackP; rw [if_pos HL.out.symm]; rfl
        · unfold lackP; rw [if_pos HL.out.symm]
      · have i16 : ¬ (L : Int) = 16 := by omega
        by_cases h0 : e1 = 0
        · subst h0
          gi_wp2_with (refine ⟨trivial, ?_⟩; gi_at_call 73; refine (CallsIn.inRound l (callsIn_wide.2 hck)).mono ?_; rintro e W1 ⟨rfl, hB1⟩; obtain ⟨cN, fN, l0, l1, f0, f1⟩ := HQ.out W1 (.cells #[.int .i64 0, .int .i64 (e2 : Int)] 48) hB1; obtain ⟨q0, q1⟩ := box2_at W1 (.int .i64 0) (.int .i64 (e2 : Int)))
          exact H.out.on hB1 _ x HL.out hpl h16 (by unfold okName; rw [← HE1.out]; rfl)
        · have j0 : ¬ (e1 : Int) = 0 := by omega
          gi_wp2_with (refine ⟨trivial, ?_⟩; gi_at_call 73; refine (CallsIn.inRound l (callsIn_wide.2 hck)).mono ?_; rintro e W1 ⟨rfl, hB1⟩; obtain ⟨cN, fN, l0, l1, f0, f1⟩ := HQ.out W1 (.cells #[.int .i64 (e1 : Int), .int .i64 (e2 : Int)] 48) hB1; obtain ⟨q0, q1⟩ := box2_at W1 (.int .i64 (e1 : Int)) (.int .i64 (e2 : Int)))
          refine H.out.off hB1 _ x _ _ ?_ ?_ (.inr (by unfold okName; rw [← HE1.out]; simpa using h0))
          · unfold lackP; rw [if_neg (fun e => h16 (HL.out.trans e)), HE1.out]
          · unfold lackP; rw [if_neg (fun e => h16 (HL.out.trans e)), HE2.out]; simp
    case done =>
      rintro D xs W hD hS hI hK
      obtain ⟨l0, l1⟩ := hI.l.cell
      obtain ⟨r0, r1⟩ := hI.r.cell
      obtain ⟨f0, f1⟩ := hI.r.frozen
      have H : Hid (PathI w xs W ∧ xs.map Pc.at = pcs (bs s) ∧ W.heap[D]? = some (.deferred (some [])) ∧ w4.heap.size ≤ D) := ⟨hI, hS, hK, hD⟩
      clear hI hS hK hD bR bL bN bP hB4
      gi_wp2
      go_wp2_with fail
      rw [Exit.noGoto_ret]
      obtain ⟨hI, hS, hK, hD⟩ := H.out
      have hK' : (((W.setCell ⟨w.heap.size, 0, none⟩ (.int .i64 0)).setCell ⟨w.heap.size, 1, none⟩ (.int .i64 0))).heap[D]? = some (.deferred (some [])) := by
        rw [Below.heap_setCell _ _ _ _ (by show D ≠ w.heap.size; omega), Below.heap_setCell _ _ _ _ (by show D ≠ w.heap.size; omega)]; exact hK
      refine spot_ret_d (k := 2) rfl (hI.r.all _ _) rfl hK' ⟨by rw [hI.ok.done hS (by omega)]; rfl, ?_⟩
      exact (((hI.b.setCell (p := ⟨w.heap.size, 0, none⟩) (Nat.le_refl _) _).setCell (p := ⟨w.heap.size, 1, none⟩) (Nat.le_refl _) _)).trans (belowK_b (w := w) (Nat.le_refl _) _ D _ _ (by omega) hK' rfl rfl)
    case stop =>
      rintro D c pre W hD ⟨rest, hS⟩ ⟨q, x, rfl, hX⟩ hK
      obtain rfl := hX.c
      obtain ⟨l0, l1⟩ := hX.l.cell
      obtain ⟨r0, r1⟩ := hX.r.cell
      obtain ⟨f0, f1⟩ := hX.r.frozen
      obtain ⟨u0, h0⟩ : ∃ u0, u0 = ((lackP q x).1 : Int) := ⟨_, rfl⟩
      obtain ⟨u1, h1⟩ : ∃ u1, u1 = ((lackP q x).2 : Int) := ⟨_, rfl⟩
      rw [← h0] at l0
      rw [← h1] at l1
      have HS : Hid (spotV (pathSpot (bs s)) = .agg #[.int .i64 u0, .int .i64 u1]) := by
        show _ = _
        rw [hX.ok.stop hX.no hS (by omega), h0, h1]; rfl
      have H : Hid (PathXs w (.exit 0) q x W ∧ W.heap[D]? = some (.deferred (some [])) ∧ w4.heap.size ≤ D) := ⟨hX, hK, hD⟩
      clear hX hS hK hD bR bL bN bP hB4 h0 h1
      gi_wp2
      go_wp2_with fail
      rw [Exit.noGoto_ret]
      obtain ⟨hX, hK, hD⟩ := H.out
      have hK' : (((W.setCell ⟨w.heap.size, 0, none⟩ (.int .i64 u0)).setCell ⟨w.heap.size, 1, none⟩ (.int .i64 u1))).heap[D]? = some (.deferred (some [])) := by
        rw [Below.heap_setCell _ _ _ _ (by show D ≠ w.heap.size; omega), Below.heap_setCell _ _ _ _ (by show D ≠ w.heap.size; omega)]; exact hK
      refine spot_ret_d (k := 2) rfl (hX.r.all _ _) rfl hK' ⟨by rw [HS.out], ?_⟩
      exact (((hX.b.setCell (p := ⟨w.heap.size, 0, none⟩) (Nat.le_refl _) _).setCell (p := ⟨w.heap.size, 1, none⟩) (Nat.le_refl _) _)).trans (belowK_b (w := w) (Nat.le_refl _) _ D _ _ (by omega) hK' rfl rfl)
end Go.Proofs.YtggnglgehobglaaGreatDoor

/- The walks of what stands on Path: isPath, count, rest, Rest, In, firstErr, join, Move. -/
namespace Go.Proofs.YtggnglgehobglaaGreatDoor
open Go.RowKit Go.Shelf

attribute [local go_sem] Oper.semAt_some

theorem field0 (a b : Value) (w : World) : (Instr.field 48 (.agg #[a, b]) 0).run Tryz.prog w = .ok a w := by kernel_rfl
theorem isPath_any (s : ByteArray) (w : World) (hs : s.size ≤ maxLen) :
    Calls Tryz.prog 77 #[.string s] w fun e w' => e = .returned (.bool (isP (bs s))) ∧ Below w.heap.size w w' := by
  have hp := path_any s w hs
  obtain ⟨e1, h1⟩ : ∃ e1, e1 = (pathSpot (bs s)).1 := ⟨_, rfl⟩
  obtain ⟨e2, h2⟩ : ∃ e2, e2 = (pathSpot (bs s)).2 := ⟨_, rfl⟩
  simp only [spotV] at hp
  rw [← h1, ← h2] at hp
  have H : Hid (((e1 : Int) == 0) = isP (bs s)) := by
    show _ = _
    unfold isP
    rw [← h1, Bool.eq_iff_iff, beq_iff_eq, beq_iff_eq]; omega
  clear h1 h2
  have hfd := fun w => field0 (.int .i64 (e1 : Int)) (.int .i64 (e2 : Int)) w
  go_enter Tryz.func77, Tryz.ntmps77
  go_wp2_with (go_at_call 50; refine hp.mono ?_; rintro e w' ⟨rfl, hB⟩)
  go_ret
  exact ⟨by rw [← H.out]; rfl, hB⟩

/-- how many rounds have been -/
structure CountI {s : ByteArray} (w : World) (pre : List (Pc s)) (W : World) : Prop where
  n : Boxed W w.heap.size 3 (.int .i64 (pre.length : Int))
  p : Boxed W (w.heap.size + 1) 9 (.string s)
  b : Below w.heap.size w W
theorem countI_own {s : ByteArray} (w : World) (b0 : Nat) (h0 : w.heap.size ≤ b0) : OwnFrom b0 (CountI (s := s) w) := fun _ _ _ _ hs hg hr =>
  ⟨boxed_keep hs.n hg hr, boxed_keep hs.p hg hr, below_keep hs.b (Nat.le_refl _) h0 hg hr⟩

theorem parts_count (l : List UInt8) : (parts l).length ≤ l.length + 1 := by
  have h : ∀ (l cur : List UInt8), (cutS cur l).length ≤ l.length + 1 := by
    intro l
    induction l with
    | nil => intro cur; simp [cutS]
    | cons c t ih =>
      intro cur
      unfold cutS
      split
      · have := ih []; simp only [List.length_cons]; omega
      · have := ih (cur ++ [c]); simp only [List.length_cons]; omega
  unfold parts
  split
  · simp
  · exact h l []

theorem lite_cut (s p : ByteArray) (w : World) (hs : s.size ≤ 1000000) (hp : p.size ≤ 1000000) :
    Calls Tryz.prog 85 #[.string s, .string p] w fun e w' => e = .returned (.tuple #[.string (if pre (bs p) (bs s) then s.extract p.size s.size else s), .bool (pre (bs p) (bs s))]) ∧ w' = w := by
  have hx := lite_prefix s p w (by unfold maxLen; omega) (by unfold maxLen; omega)
  cases hpr : pre (bs p) (bs s) with
  | false =>
    rw [hpr] at hx
    go_enter Tryz.func85, Tryz.ntmps85
    go_wp2_with (go_at_call 84; refine hx.mono ?_; rintro e w' ⟨rfl, rfl⟩)
    go_ret2
    exact ⟨rfl, rfl⟩
  | true =>
    have hle : p.size ≤ s.size := by have := ((pre_iff _ _).1 hpr).length_le; rw [bs_len, bs_len] at this; exact this
    have i1 : (p.size : Int) ≤ s.size := by omega
    rw [hpr] at hx
    go_enter Tryz.func85, Tryz.ntmps85
    go_wp2_with (go_at_call 84; refine hx.mono ?_; rintro e w' ⟨rfl, rfl⟩)
    go_ret2
    exact ⟨rfl, rfl⟩
theorem cut_prefix (s p : ByteArray) (w : World) (hs : s.size ≤ 1000000) (hp : p.size ≤ 1000000) :
    Calls Tryz.prog 63 #[.string s, .string p] w fun e w' => e = .returned (.tuple #[.string (if pre (bs p) (bs s) then s.extract p.size s.size else s), .bool (pre (bs p) (bs s))]) ∧ w' = w := by
  have hx := lite_cut s p w hs hp
  generalize (if pre (bs p) (bs s) then s.extract p.size s.size else s) = S at hx ⊢
  generalize pre (bs p) (bs s) = b at hx ⊢
  go_enter Tryz.func63, Tryz.ntmps63
  go_wp2_with (go_at_call 85; refine hx.mono ?_; rintro e w' ⟨rfl, rfl⟩)
  go_ret2
  exact ⟨rfl, rfl⟩

def restS (p q : ByteArray) : ByteArray := mk ((restP (bs p) (bs q)).getD [])
def restB (p q : ByteArray) : Bool := (restP (bs p) (bs q)).isSome
theorem restP_len (p q r : List UInt8) (h : restP p q = some r) : r.length ≤ p.length := by
  unfold restP at h
  split at h
  · cases h; exact Nat.le_refl _
  · split at h
    · cases h; simp
    · split at h
      · cases h; rw [List.length_drop]; omega
      · cases h
theorem restS_size (p q : ByteArray) : (restS p q).size ≤ p.size := by
  unfold restS
  rw [← bs_len, bs_mk, ← bs_len p]
  cases h : restP (bs p) (bs q) with
  | none => simp
  | some r => exact restP_len _ _ _ h

end Go.Proofs.YtggnglgehobglaaGreatDoor
