import Derived.BigRegion
import Derived.Test.YtggnglgehobglaaGreatDoorP44
/- The walk of readLine. -/
namespace Go.Proofs.YtggnglgehobglaaGreatDoor
open Go.RowKit Go.Shelf

attribute [local go_sem] Oper.semAt_some

theorem rs_ret {i j : Nat} {f : Func} {W : World} {p q : Nat} {kk : Int} {ff tt : ByteArray} {u0 u1 : Value} {a : Act} {P : Ending → World → Prop} (hf : f.results = #[ResultVar.cell i 31, ResultVar.cell j 48]) (hb : BoxR W p kk ff tt) (hs : Box2 W q u0 u1) (ha : a.tmps[i]?.getD undef = .pointer (some ⟨p, 0, none⟩)) (hc : a.tmps[j]?.getD undef = .pointer (some ⟨q, 0, none⟩)) (hd : a.defers = []) (hP : P (.returned (.tuple #[rv kk ff tt, .agg #[u0, u1]])) W) : bodyPost Tryz.prog f P Exit.ret a W := by
  obtain ⟨c0, c1, c2⟩ := hb.cell
  obtain ⟨d0, d1⟩ := hs.cell
  exact bodyPost_ret (v := .tuple #[rv kk ff tt, .agg #[u0, u1]]) (by simp [results, hf, go_sem, ha, hc, c0, c1, c2, d0, d1]) hd hP

/-- the two results in memory -/
structure RS (w W : World) : Prop where
  r : BoxR W w.heap.size 0 ⟨#[]⟩ ⟨#[]⟩
  s : Box2 W (w.heap.size + 1) (.int .i64 0) (.int .i64 0)
  b : Below w.heap.size w W
theorem RS.new (w : World) : RS w ((w.alloc (.cells #[.int .i64 0, .string ⟨#[]⟩, .string ⟨#[]⟩] 31)).alloc (.cells #[.int .i64 0, .int .i64 0] 48)) := by
  refine ⟨(Below.heap_alloc _ _ _ (by simp)).trans (BoxR.new w 0 _ _), ?_, ((Below.refl _ w).alloc (Nat.le_refl _) _).alloc (by simp) _⟩
  have := Box2.new (w.alloc (.cells #[.int .i64 0, .string ⟨#[]⟩, .string ⟨#[]⟩] 31)) (.int .i64 0) (.int .i64 0)
  rwa [World.size_alloc] at this
theorem RS.below {w W W' : World} (h : RS w W) (hB : Below W.heap.size W W') : RS w W' :=
  ⟨h.r.below hB h.r.lt, (hB.block _ h.s.lt).trans h.s, h.b.trans (hB.mono h.b.size)⟩
theorem RS.alloc {w W : World} (h : RS w W) (o : Obj) : RS w (W.alloc o) := h.below ((Below.refl _ W).alloc (Nat.le_refl _) o)

def LPost (s : ByteArray) (w : World) (e : Ending) (w' : World) : Prop := e = .returned (.tuple #[ruV (lineV (lineG (bs s))).1, .agg #[.int .i64 ((lineV (lineG (bs s))).2.1 : Int), .int .i64 ((lineV (lineG (bs s))).2.2 : Int)]]) ∧ Below w.heap.size w w'

theorem boxR_drew {Y : World} {g : Nat} {k : Int} {f t : ByteArray} (h : BoxR Y g k f t) : BoxR Y.drew g k f t := h
theorem box2_drew {Y : World} {g : Nat} {u v : Value} (h : Box2 Y g u v) : Box2 Y.drew g u v := h
theorem below_drewR {w Y : World} {B : Nat} (h : Below B w Y) : Below B w Y.drew := h.trans ⟨rfl, rfl, rfl, Nat.le_refl _, fun _ _ => rfl⟩
abbrev setRS (w W : World) (r : Ru) (v0 v1 : Int) : World := ((((W.setCell ⟨w.heap.size, 0, none⟩ (.int .i64 r.1)).setCell ⟨w.heap.size, 1, none⟩ (.string (mk r.2.1))).setCell ⟨w.heap.size, 2, none⟩ (.string (mk r.2.2))).setCell ⟨w.heap.size + 1, 0, none⟩ (.int .i64 v0)).setCell ⟨w.heap.size + 1, 1, none⟩ (.int .i64 v1)
theorem rs_set {w W : World} (h : RS w W) (r : Ru) (v0 v1 : Int) : BoxR (setRS w W r v0 v1) w.heap.size r.1 (mk r.2.1) (mk r.2.2) ∧ Box2 (setRS w W r v0 v1) (w.heap.size + 1) (.int .i64 v0) (.int .i64 v1) ∧ Below w.heap.size w (setRS w W r v0 v1) := by
  refine ⟨((h.r.all r.1 (mk r.2.1) (mk r.2.2)).other (by omega) _).other (by omega) _, Box2.all (((h.s.other (by omega) _).other (by omega) _).other (by omega) _) _ _, ?_⟩
  exact ((((h.b.setCell (p := ⟨w.heap.size, 0, none⟩) (Nat.le_refl _) _).setCell (p := ⟨w.heap.size, 1, none⟩) (Nat.le_refl _) _).setCell (p := ⟨w.heap.size, 2, none⟩) (Nat.le_refl _) _).setCell (p := ⟨w.heap.size + 1, 0, none⟩) (by show _ ≤ w.heap.size + 1; omega) _).setCell (p := ⟨w.heap.size + 1, 1, none⟩) (by show _ ≤ w.heap.size + 1; omega) _
/-- both results set -/
theorem rs_done {s : ByteArray} {w W : World} {a : Act} (h : RS w W) {r : Ru} {e p : Nat} (hv : lineV (lineG (bs s)) = (r, e, p)) {v0 v1 : Int} (h0 : v0 = e) (h1 : v1 = p) (ha : a.tmps[2]?.getD undef = .pointer (some ⟨w.heap.size, 0, none⟩)) (hc : a.tmps[3]?.getD undef = .pointer (some ⟨w.heap.size + 1, 0, none⟩)) (hd : a.defers = []) :
    bodyPost Tryz.prog Tryz.f49 (LPost s w) Exit.ret a (setRS w W r v0 v1) := by
  obtain ⟨h1', h2', h3'⟩ := rs_set h r v0 v1
  generalize setRS w W r v0 v1 = Y at *
  subst h0 h1
  refine rs_ret (i := 2) (j := 3) rfl h1' h2' ha hc hd ?_
  exact ⟨by rw [hv], h3'⟩
theorem rs_drew {s : ByteArray} {w W : World} {a : Act} (h : RS w W) {r : Ru} {e p : Nat} (hv : lineV (lineG (bs s)) = (r, e, p)) {v0 v1 : Int} (h0 : v0 = e) (h1 : v1 = p) (ha : a.tmps[2]?.getD undef = .pointer (some ⟨w.heap.size, 0, none⟩)) (hc : a.tmps[3]?.getD undef = .pointer (some ⟨w.heap.size + 1, 0, none⟩)) (hd : a.defers = []) :
    bodyPost Tryz.prog Tryz.f49 (LPost s w) Exit.ret a (setRS w W r v0 v1).drew := by
  obtain ⟨h1', h2', h3'⟩ := rs_set h r v0 v1
  generalize setRS w W r v0 v1 = Y at *
  subst h0 h1
  refine rs_ret (i := 2) (j := 3) rfl (boxR_drew h1') (box2_drew h2') ha hc hd ?_
  exact ⟨by rw [hv], below_drewR h3'⟩

set_option maxRecDepth 100000 in
set_option maxHeartbeats 4000000 in
theorem readLine_any (s : ByteArray) (w : World) (hT : Tabs w) (hs : s.size ≤ 131072) : Calls Tryz.prog 49 #[.string s] w (LPost s w) := by
  obtain ⟨w1, hw1⟩ : ∃ w1, w1 = (w.alloc (.cells #[.int .i64 0, .string ⟨#[]⟩, .string ⟨#[]⟩] 31)).alloc (.cells #[.int .i64 0, .int .i64 0] 48) := ⟨_, rfl⟩
  have H1 : RS w w1 := by rw [hw1]; exact RS.new w
  have hz1 : Hid (w1.heap.size = w.heap.size + 2) := by show _ = _; rw [hw1]; simp
  have hwd := words_any s w1 (hT.below H1.b) (by omega)
  cases hws : wordsL (bs s) 0 with
  | error p =>
    have HV : Hid (lineV (lineG (bs s)) = (noR, 150, p)) := lineV_err hws
    have HW : Hid (∀ e W, WordsPost s w1 e W → e = .returned (.tuple #[.slice none 0 0, .agg #[.int .i64 150, .int .i64 (p : Int)]]) ∧ Below w1.heap.size w1 W) := by
      rintro e W ⟨h | h, hB⟩
      · obtain ⟨ws, v, h1, _⟩ := h; rw [hws] at h1; cases h1
      · obtain ⟨p', h1, h2⟩ := h
        rw [hws] at h1; cases h1
        exact ⟨h2, hB⟩
    have HR : Hid (RS w w1) := H1
    clear hws H1
    go_enter Tryz.func49, Tryz.ntmps49
    go_wp2_with (go_at_call 70; rw [← hw1]; refine hwd.mono ?_; clear hwd; intro e w2 hp; obtain ⟨rfl, hB2⟩ := HW.out _ _ hp; have H2 : RS w (w2.alloc (.cells #[.int .i64 150, .int .i64 (p : Int)] 48)) := (HR.out.below hB2).alloc _; obtain ⟨z0, z1, z2⟩ := H2.r.cell; obtain ⟨y0, y1, y2⟩ := H2.r.frozen; obtain ⟨x0, x1⟩ := H2.s.cell; obtain ⟨v0, v1⟩ := H2.s.frozen; have hz2 := hB2.size; have hz1' := hz1.out; have n1 : ¬ w2.heap.size = w.heap.size := (by omega); have n2 : ¬ w.heap.size = w2.heap.size := (by omega); have n3 : ¬ w2.heap.size = w.heap.size + 1 := (by omega); have n4 : ¬ w.heap.size + 1 = w2.heap.size := (by omega); clear hz2 hz1 hz1'; have HR2 : Hid (RS w (w2.alloc (.cells #[.int .i64 150, .int .i64 (p : Int)] 48))) := H2; clear hp hB2 H2 HW HR hw1)
    obtain ⟨s0, s1⟩ := (Box2.new w2 (.int .i64 150) (.int .i64 (p : Int))).cell
    generalize w2.alloc (.cells #[.int .i64 150, .int .i64 (p : Int)] 48) = W2 at *
    generalize w2.heap.size = g at *
    clear hT hs
    go_region
    all_goals go_wp2
    exact rs_drew HR2.out HV.out rfl rfl rfl rfl rfl
  | ok ws =>
    have HW : Hid (∀ e W, WordsPost s w1 e W → ∃ a c, e = .returned (.tuple #[.slice a ws.length c, .agg #[.int .i64 0, .int .i64 0]]) ∧ Strs W a ws.length (ws.map mk) ∧ Below w1.heap.size w1 W) := fun e W h => words_right hws h
    have HR : Hid (RS w w1) := H1
    by_cases h0 : ws = []
    · subst h0
      have HV : Hid (lineV (lineG (bs s)) = (noR, 0, 0)) := lineV_nil hws
      clear hws H1
      go_enter Tryz.func49, Tryz.ntmps49
      go_wp2_with (go_at_call 70; rw [← hw1]; refine hwd.mono ?_; clear hwd; intro e w2 hp; obtain ⟨a2, c2, rfl, _, hB2⟩ := HW.out _ _ hp; have H2 : RS w (w2.alloc (.cells #[.int .i64 0, .int .i64 0] 48)) := (HR.out.below hB2).alloc _; obtain ⟨z0, z1, z2⟩ := H2.r.cell; obtain ⟨y0, y1, y2⟩ := H2.r.frozen; obtain ⟨x0, x1⟩ := H2.s.cell; obtain ⟨v0, v1⟩ := H2.s.frozen; have hz2 := hB2.size; have hz1' := hz1.out; have n1 : ¬ w2.heap.size = w.heap.size := (by omega); have n2 : ¬ w.heap.size = w2.heap.size := (by omega); have n3 : ¬ w2.heap.size = w.heap.size + 1 := (by omega); have n4 : ¬ w.heap.size + 1 = w2.heap.size := (by omega); clear hz2 hz1 hz1'; have HR2 : Hid (RS w (w2.alloc (.cells #[.int .i64 0, .int .i64 0] 48))) := H2; clear hp hB2 H2 HW HR hw1)
      obtain ⟨s0, s1⟩ := (Box2.new w2 (.int .i64 0) (.int .i64 0)).cell
      generalize w2.alloc (.cells #[.int .i64 0, .int .i64 0] 48) = W2 at *
      generalize w2.heap.size = g at *
      clear hT hs
      go_region
      all_goals go_wp2
      exact rs_drew HR2.out HV.out rfl rfl rfl rfl rfl
    · have h0' : 0 < ws.length := List.length_pos_iff.2 h0
      have hlen : ws.length ≤ 131072 := by
        have := (words_room _ _ _ _ (Nat.le_refl _) hws).2
        rw [bs_len] at this; omega
      have hro : Hid (∀ (W : World) (a : Option Addr) (c : Nat), Strs W a ws.length (ws.map mk) → Calls Tryz.prog 71 #[.slice a ws.length c] W fun e w' => e = .returned (ruV ((ruleW ws).getD noR)) ∧ Below W.heap.size W w') := fun W a c h => ruleOf_any ws a ws.length c W h h0' (fun j => by
        have := words_short hws j
        rw [bs_len] at this
        unfold maxLen; omega) (by omega)
      have i0 : ¬ (ws.length : Int) = 0 := by omega
      cases hrw : ruleW ws with
      | none =>
        have HV : Hid (lineV (lineG (bs s)) = (noR, 230, 0)) := lineV_none hws h0 hrw
        have hro : Hid (∀ (W : World) (a : Option Addr) (c : Nat), Strs W a ws.length (ws.map mk) → Calls Tryz.prog 71 #[.slice a ws.length c] W fun e w' => e = .returned (rv 0 ⟨#[]⟩ ⟨#[]⟩) ∧ Below W.heap.size W w') := by
          rw [hrw] at hro
          exact hro
        clear hws H1 h0 h0' hlen hrw
        generalize ws.length = nw at *
        generalize ws.map mk = ms at *
        go_enter Tryz.func49, Tryz.ntmps49
        go_wp2_with first
          | (go_at_call 70; rw [← hw1]; refine hwd.mono ?_; clear hwd; intro e w2 hp; obtain ⟨a2, c2, rfl, hS2, hB2⟩ := HW.out _ _ hp; have HS2 : Hid (Strs (w2.alloc (.cells #[.int .i64 0, .int .i64 0] 48)) a2 nw ms) := hS2.kept ((Below.refl _ _).alloc (Nat.le_refl _) _); have HR2 : Hid (RS w (w2.alloc (.cells #[.int .i64 0, .int .i64 0] 48))) := (HR.out.below hB2).alloc _; clear hp hB2 HW HR hw1 hS2)
          | (go_at_call 71; refine (hro.out _ _ _ HS2.out).mono ?_; clear hro HS2; rintro e w3 ⟨rfl, hB3⟩; have H3 : RS w (w3.alloc (.cells #[.int .i64 0, .string ⟨#[]⟩, .string ⟨#[]⟩] 31)) := (HR2.out.below hB3).alloc _; obtain ⟨z0, z1, z2⟩ := H3.r.cell; obtain ⟨y0, y1, y2⟩ := H3.r.frozen; obtain ⟨x0, x1⟩ := H3.s.cell; obtain ⟨v0, v1⟩ := H3.s.frozen; have HR3 : Hid (RS w (w3.alloc (.cells #[.int .i64 0, .string ⟨#[]⟩, .string ⟨#[]⟩] 31))) := H3; clear hB3 H3 HR2)
        exact rs_done HR3.out HV.out rfl rfl rfl rfl rfl
      | some r =>
        have HV : Hid (lineV (lineG (bs s)) = (r, 0, 0)) := lineV_some hws hrw
        have hk : (r.1 == 0) = false := beq_false_of_ne (ruleW_ne hrw)
        rw [hrw] at hro
        clear hws H1 h0 h0' hlen hrw
        generalize ws.length = nw at *
        generalize ws.map mk = ms at *
        obtain ⟨rk, rf, rt⟩ := r
        simp only [Option.getD_some] at hro hk
        have heq := eqR
        go_enter Tryz.func49, Tryz.ntmps49
        go_wp2_with first
          | (go_at_call 70; rw [← hw1]; refine hwd.mono ?_; clear hwd; intro e w2 hp; obtain ⟨a2, c2, rfl, hS2, hB2⟩ := HW.out _ _ hp; have HS2 : Hid (Strs (w2.alloc (.cells #[.int .i64 0, .int .i64 0] 48)) a2 nw ms) := hS2.kept ((Below.refl _ _).alloc (Nat.le_refl _) _); have HR2 : Hid (RS w (w2.alloc (.cells #[.int .i64 0, .int .i64 0] 48))) := (HR.out.below hB2).alloc _; clear hp hB2 HW HR hw1 hS2)
          | (go_at_call 71; refine (hro.out _ _ _ HS2.out).mono ?_; clear hro HS2; rintro e w3 ⟨rfl, hB3⟩; have H3 : RS w (w3.alloc (.cells #[.int .i64 rk, .string (mk rf), .string (mk rt)] 31)) := (HR2.out.below hB3).alloc _; obtain ⟨z0, z1, z2⟩ := H3.r.cell; obtain ⟨y0, y1, y2⟩ := H3.r.frozen; obtain ⟨x0, x1⟩ := H3.s.cell; obtain ⟨v0, v1⟩ := H3.s.frozen; have HR3 : Hid (RS w (w3.alloc (.cells #[.int .i64 rk, .string (mk rf), .string (mk rt)] 31))) := H3; clear hB3 H3 HR2)
        exact rs_done HR3.out HV.out rfl rfl rfl rfl rfl
end Go.Proofs.YtggnglgehobglaaGreatDoor
