import Derived.Test.YtdchmmdndgbllaaDoorU27
/- The document's rule of words. -/
namespace Go.Proofs.YtdchmmdndgbllaaDoor
open Go.RowKit Go.Shelf

attribute [local go_sem] Oper.semAt_some

theorem rb_ret {W : World} {p : Nat} {k : Int} {f t : ByteArray} {v : Bool} {a : Act} {P : Ending → World → Prop} (hb : BoxR W p k f t) (ha : a.tmps[2]?.getD undef = .pointer (some ⟨p, 0, none⟩)) (h3 : a.tmps[3]?.getD undef = .bool v) (hd : a.defers = []) (hP : P (.returned (.tuple #[rv k f t, .bool v])) W) : bodyPost Tryd.prog Tryd.f31 P Exit.ret a W := by
  obtain ⟨c0, c1, c2⟩ := hb.cell
  exact bodyPost_ret (v := .tuple #[rv k f t, .bool v]) (by simp [results, Tryd.results31, go_sem, ha, h3, c0, c1, c2]) hd hP
/-- what the document's rule answers -/
def RRPost (ws : List (List UInt8)) (w : World) (e : Ending) (w' : World) : Prop := ∃ k f t, e = .returned (.tuple #[rv k f t, .bool (ruleW ws).isSome]) ∧ (∀ r, ruleW ws = some r → rv k f t = ruV r) ∧ Below w.heap.size w w'
theorem kindW_other {s : List UInt8} (h1 : ¬ s = [107, 101, 101, 112]) (h2 : ¬ s = [100, 114, 111, 112]) (h3 : ¬ s = [109, 111, 118, 101]) : kindW s = (0, 0) := by
  unfold kindW
  rw [if_neg h1, if_neg h2, if_neg h3]
/-- two boxes of rules -/
structure RB (w W : World) (k : Int) (f t : ByteArray) : Prop where
  r : BoxR W w.heap.size 0 ⟨#[]⟩ ⟨#[]⟩
  b : BoxR W (w.heap.size + 1) k f t
  bel : Below w.heap.size w W
theorem RB.below {w W W' : World} {k : Int} {f t : ByteArray} (h : RB w W k f t) (hB : Below W.heap.size W W') : RB w W' k f t := ⟨h.r.below hB h.r.lt, h.b.below hB h.b.lt, h.bel.trans (hB.mono h.bel.size)⟩
theorem RB.new (w : World) (k : Int) : RB w ((w.alloc (.cells #[.int .i64 0, .string ⟨#[]⟩, .string ⟨#[]⟩] 26)).alloc (.cells #[.int .i64 k, .string ⟨#[]⟩, .string ⟨#[]⟩] 26)) k ⟨#[]⟩ ⟨#[]⟩ := by
  refine ⟨(Below.heap_alloc _ _ _ (by simp)).trans (BoxR.new w 0 _ _), ?_, ((Below.refl _ w).alloc (Nat.le_refl _) _).alloc (by simp) _⟩
  have := BoxR.new (w.alloc (.cells #[.int .i64 0, .string ⟨#[]⟩, .string ⟨#[]⟩] 26)) k ⟨#[]⟩ ⟨#[]⟩
  rwa [World.size_alloc] at this
theorem str_cells {w W : World} {a : Option Addr} {n : Nat} {ws : List (List UInt8)} (h : Strs w a n (ws.map mk)) (h0 : 0 < n) (hB : Below w.heap.size w W) : ∃ b off, a = some ⟨b, off, none⟩ ∧ ∀ j, j < n → W.cell? ⟨b, off + j, none⟩ = some (.string (mk (ws.getD j []))) := by
  obtain ⟨b, off, e, hc⟩ := str_cell h h0
  exact ⟨b, off, e, fun j hj => (hB.cell (p := ⟨b, off + j, none⟩) (World.block_lt_of_cell? w _ (hc j hj))).trans (hc j hj)⟩

set_option maxRecDepth 100000 in
set_option maxHeartbeats 4000000 in
theorem rrule13_any (ws : List (List UInt8)) (a : Option Addr) (n c : Nat) (w : World) (h : Strs w a n (ws.map mk)) (hz : ∀ j, (ws.getD j []).length ≤ 1000000) (hn : n ≤ 1000000000) :
    Calls Tryd.prog 31 #[.slice a n c] w (RRPost ws w) := by
  have hl : ws.length = n := by have := h.1; rwa [List.length_map] at this
  have hB0 := (RB.new w 0).bel
  have hRB := RB.new w 0
  by_cases hsz : n < 2 ∨ 3 < n
  · have hnone : ruleW ws = none := by
      unfold ruleW
      rcases kindW_cases (ws.getD 0 []) with e | e | e | e
      · rw [e, if_neg (by omega)]
      · rw [e, if_neg (by omega)]
      · rw [e, if_neg (by omega)]
      · by_cases hw : ws.length = 0
        · rw [e, if_pos hw]
          have : ws = [] := List.eq_nil_of_length_eq_zero hw
          subst this
          have e0 : pathW (([] : List (List UInt8)).getD 1 []) = none := by decide
          rw [e0]; rfl
        · rw [e, if_neg hw]
    have HP : Hid (∀ W, Below w.heap.size w W → RRPost ws w (.returned (.tuple #[rv 0 ⟨#[]⟩ ⟨#[]⟩, .bool false])) W) := fun W hB => ⟨0, _, _, by rw [hnone]; rfl, (fun r hr => by rw [hnone] at hr; cases hr), hB⟩
    clear h hz hnone
    rcases hsz with h1 | h1
    · have i1 : (n : Int) < 2 := by omega
      clear hl h1
      go_enter Tryd.func31, Tryd.ntmps31
      go_wp2
      refine rb_ret (k := 0) (f := ⟨#[]⟩) (t := ⟨#[]⟩) ?_ rfl rfl rfl (HP.out _ ?_)
      · exact hRB.r
      · exact hB0
    · have i1 : ¬ (n : Int) < 2 := by omega
      have i2 : (3 : Int) < (n : Int) := by omega
      clear hl h1
      go_enter Tryd.func31, Tryd.ntmps31
      go_wp2
      refine rb_ret (k := 0) (f := ⟨#[]⟩) (t := ⟨#[]⟩) ?_ rfl rfl rfl (HP.out _ ?_)
      · exact hRB.r
      · exact hB0
  · rcases (show n = 2 ∨ n = 3 by omega) with rfl | rfl
    · obtain ⟨b, off, rfl, hc⟩ := str_cell h (by omega)
      have hbl : b < w.heap.size := World.block_lt_of_cell? w _ (hc 0 (by omega))
      have q0 := (hB0.cell (p := ⟨b, off, none⟩) hbl).trans (show w.cell? ⟨b, off, none⟩ = some (.string (mk (ws.getD 0 []))) from hc 0 (by omega))
      have hp1 := fun W => rpath13_any (mk (ws.getD 1 [])) W (by rw [← bs_len, bs_mk]; exact hz 1)
      rw [bs_mk] at hp1
      have hp2 := hp1
      obtain ⟨x0, hx⟩ : ∃ x0, ws.getD 0 [] = x0 := ⟨_, rfl⟩
      rw [hx] at q0
      by_cases hkeep : x0 = [107, 101, 101, 112]
      · subst hkeep
        have hk : kindW (ws.getD 0 []) = (1, 2) := by rw [hx]; rfl
        have hrw : ruleW ws = (pathW (ws.getD 1 [])).map fun f => (1, f, []) := by
          unfold ruleW
          rw [hk, if_pos hl]
          show (pathW (ws.getD 1 [])).bind (fun f => (pathW (ws.getD 1 [])).map _) = _
          cases pathW (ws.getD 1 []) <;> rfl
        have HP : Hid (∀ W, Below w.heap.size w W → RRPost ws w (.returned (.tuple #[rv 1 (mk (pathT (ws.getD 1 []))) ⟨#[]⟩, .bool (pathW (ws.getD 1 [])).isSome])) W) := fun W hB => ⟨1, _, _, by rw [hrw, Option.isSome_map], (fun r hr => by
          rw [hrw] at hr
          obtain ⟨f, hf, rfl⟩ := Option.map_eq_some_iff.1 hr
          rw [pathT_some hf]; rfl), hB⟩
        have q1 := ((RB.new w 1).bel.cell (p := ⟨b, off + 1, none⟩) hbl).trans (hc 1 (by omega))
        clear hk hrw h hz hl hx hp2 hc hB0 hRB
        generalize mk (pathT (ws.getD 1 [])) = T1 at *
        generalize mk (ws.getD 1 []) = X1 at *
        replace q0 : _ = some (Value.string ⟨#[107, 101, 101, 112]⟩) := q0
        generalize (pathW (ws.getD 1 [])).isSome = ok at *
        cases ok with
        | true =>
          go_enter Tryd.func31, Tryd.ntmps31
          go_wp2_with (go_at_call 49; refine (hp1 _).mono ?_; clear hp1; rintro e w2 ⟨rfl, hB2⟩; have R2 : RB w w2 1 ⟨#[]⟩ ⟨#[]⟩ := (RB.new w 1).below hB2; obtain ⟨z0, z1, z2⟩ := R2.r.cell; obtain ⟨y0, y1, y2⟩ := R2.r.frozen; obtain ⟨v0, v1, v2⟩ := R2.b.cell; obtain ⟨u0, u1, u2⟩ := R2.b.frozen; have HR2 : Hid (RB w w2 1 ⟨#[]⟩ ⟨#[]⟩) := R2; clear R2 hB2)
          refine rb_ret (k := 1) (f := T1) (t := ⟨#[]⟩) ((HR2.out.r.other (by omega) _).all _ _ _) rfl rfl rfl (HP.out _ ?_)
          exact (((HR2.out.bel.setCell (p := ⟨w.heap.size + 1, 1, none⟩) (by show w.heap.size ≤ w.heap.size + 1; omega) _).setCell (p := ⟨w.heap.size, 0, none⟩) (Nat.le_refl _) _).setCell (p := ⟨w.heap.size, 1, none⟩) (Nat.le_refl _) _).setCell (p := ⟨w.heap.size, 2, none⟩) (Nat.le_refl _) _
        | false =>
          go_enter Tryd.func31, Tryd.ntmps31
          go_wp2_with (go_at_call 49; refine (hp1 _).mono ?_; clear hp1; rintro e w2 ⟨rfl, hB2⟩; have R2 : RB w w2 1 ⟨#[]⟩ ⟨#[]⟩ := (RB.new w 1).below hB2; obtain ⟨z0, z1, z2⟩ := R2.r.cell; obtain ⟨y0, y1, y2⟩ := R2.r.frozen; obtain ⟨v0, v1, v2⟩ := R2.b.cell; obtain ⟨u0, u1, u2⟩ := R2.b.frozen; have HR2 : Hid (RB w w2 1 ⟨#[]⟩ ⟨#[]⟩) := R2; clear R2 hB2)
          refine rb_ret (k := 1) (f := T1) (t := ⟨#[]⟩) ((HR2.out.r.other (by omega) _).all _ _ _) rfl rfl rfl (HP.out _ ?_)
          exact (((HR2.out.bel.setCell (p := ⟨w.heap.size + 1, 1, none⟩) (by show w.heap.size ≤ w.heap.size + 1; omega) _).setCell (p := ⟨w.heap.size, 0, none⟩) (Nat.le_refl _) _).setCell (p := ⟨w.heap.size, 1, none⟩) (Nat.le_refl _) _).setCell (p := ⟨w.heap.size, 2, none⟩) (Nat.le_refl _) _
      by_cases hdrop : x0 = [100, 114, 111, 112]
      · subst hdrop
        have hk : kindW (ws.getD 0 []) = (2, 2) := by rw [hx]; rfl
        have hrw : ruleW ws = (pathW (ws.getD 1 [])).map fun f => (2, f, []) := by
          unfold ruleW
          rw [hk, if_pos hl]
          show (pathW (ws.getD 1 [])).bind (fun f => (pathW (ws.getD 1 [])).map _) = _
          cases pathW (ws.getD 1 []) <;> rfl
        have HP : Hid (∀ W, Below w.heap.size w W → RRPost ws w (.returned (.tuple #[rv 2 (mk (pathT (ws.getD 1 []))) ⟨#[]⟩, .bool (pathW (ws.getD 1 [])).isSome])) W) := fun W hB => ⟨2, _, _, by rw [hrw, Option.isSome_map], (fun r hr => by
          rw [hrw] at hr
          obtain ⟨f, hf, rfl⟩ := Option.map_eq_some_iff.1 hr
          rw [pathT_some hf]; rfl), hB⟩
        have q1 := ((RB.new w 2).bel.cell (p := ⟨b, off + 1, none⟩) hbl).trans (hc 1 (by omega))
        clear hk hrw h hz hl hx hp2 hc hB0 hRB hkeep
        generalize mk (pathT (ws.getD 1 [])) = T1 at *
        generalize mk (ws.getD 1 []) = X1 at *
        replace q0 : _ = some (Value.string ⟨#[100, 114, 111, 112]⟩) := q0
        generalize (pathW (ws.getD 1 [])).isSome = ok at *
        cases ok with
        | true =>
          go_enter Tryd.func31, Tryd.ntmps31
          go_wp2_with (go_at_call 49; refine (hp1 _).mono ?_; clear hp1; rintro e w2 ⟨rfl, hB2⟩; have R2 : RB w w2 2 ⟨#[]⟩ ⟨#[]⟩ := (RB.new w 2).below hB2; obtain ⟨z0, z1, z2⟩ := R2.r.cell; obtain ⟨y0, y1, y2⟩ := R2.r.frozen; obtain ⟨v0, v1, v2⟩ := R2.b.cell; obtain ⟨u0, u1, u2⟩ := R2.b.frozen; have HR2 : Hid (RB w w2 2 ⟨#[]⟩ ⟨#[]⟩) := R2; clear R2 hB2)
          refine rb_ret (k := 2) (f := T1) (t := ⟨#[]⟩) ((HR2.out.r.other (by omega) _).all _ _ _) rfl rfl rfl (HP.out _ ?_)
          exact (((HR2.out.bel.setCell (p := ⟨w.heap.size + 1, 1, none⟩) (by show w.heap.size ≤ w.heap.size + 1; omega) _).setCell (p := ⟨w.heap.size, 0, none⟩) (Nat.le_refl _) _).setCell (p := ⟨w.heap.size, 1, none⟩) (Nat.le_refl _) _).setCell (p := ⟨w.heap.size, 2, none⟩) (Nat.le_refl _) _
        | false =>
          go_enter Tryd.func31, Tryd.ntmps31
          go_wp2_with (go_at_call 49; refine (hp1 _).mono ?_; clear hp1; rintro e w2 ⟨rfl, hB2⟩; have R2 : RB w w2 2 ⟨#[]⟩ ⟨#[]⟩ := (RB.new w 2).below hB2; obtain ⟨z0, z1, z2⟩ := R2.r.cell; obtain ⟨y0, y1, y2⟩ := R2.r.frozen; obtain ⟨v0, v1, v2⟩ := R2.b.cell; obtain ⟨u0, u1, u2⟩ := R2.b.frozen; have HR2 : Hid (RB w w2 2 ⟨#[]⟩ ⟨#[]⟩) := R2; clear R2 hB2)
          refine rb_ret (k := 2) (f := T1) (t := ⟨#[]⟩) ((HR2.out.r.other (by omega) _).all _ _ _) rfl rfl rfl (HP.out _ ?_)
          exact (((HR2.out.bel.setCell (p := ⟨w.heap.size + 1, 1, none⟩) (by show w.heap.size ≤ w.heap.size + 1; omega) _).setCell (p := ⟨w.heap.size, 0, none⟩) (Nat.le_refl _) _).setCell (p := ⟨w.heap.size, 1, none⟩) (Nat.le_refl _) _).setCell (p := ⟨w.heap.size, 2, none⟩) (Nat.le_refl _) _
      by_cases hmove : x0 = [109, 111, 118, 101]
      · subst hmove
        have hk : kindW (ws.getD 0 []) = (3, 3) := by rw [hx]; rfl
        clear hkeep hdrop
        have hnone : ruleW ws = none := by
          unfold ruleW
          rw [hk, if_neg (by rw [hl]; decide)]
        have HP : Hid (∀ W, Below w.heap.size w W → RRPost ws w (.returned (.tuple #[rv 0 ⟨#[]⟩ ⟨#[]⟩, .bool false])) W) := fun W hB => ⟨0, _, _, by rw [hnone]; rfl, (fun r hr => by rw [hnone] at hr; cases hr), hB⟩
        clear hnone h hz hl hp1 hp2 hx hc hbl
        replace q0 : _ = some (Value.string ⟨#[109, 111, 118, 101]⟩) := q0
        go_enter Tryd.func31, Tryd.ntmps31
        go_wp2
        refine rb_ret (k := 0) (f := ⟨#[]⟩) (t := ⟨#[]⟩) hRB.r rfl rfl rfl (HP.out _ hB0)
      · have hk : kindW (ws.getD 0 []) = (0, 0) := by rw [hx]; exact kindW_other hkeep hdrop hmove
        have e1 := str_ne (s := mk x0) (l := [107, 101, 101, 112]) (by rw [bs_mk]; exact hkeep)
        have e2 := str_ne (s := mk x0) (l := [100, 114, 111, 112]) (by rw [bs_mk]; exact hdrop)
        have e3 := str_ne (s := mk x0) (l := [109, 111, 118, 101]) (by rw [bs_mk]; exact hmove)
        clear hkeep hdrop hmove
        have hnone : ruleW ws = none := by
          unfold ruleW
          rw [hk, if_neg (by rw [hl]; decide)]
        have HP : Hid (∀ W, Below w.heap.size w W → RRPost ws w (.returned (.tuple #[rv 0 ⟨#[]⟩ ⟨#[]⟩, .bool false])) W) := fun W hB => ⟨0, _, _, by rw [hnone]; rfl, (fun r hr => by rw [hnone] at hr; cases hr), hB⟩
        clear hnone h hz hl hp1 hp2 hx hc hbl
        generalize mk x0 = X0 at *
        go_enter Tryd.func31, Tryd.ntmps31
        go_wp2
        refine rb_ret (k := 0) (f := ⟨#[]⟩) (t := ⟨#[]⟩) hRB.r rfl rfl rfl (HP.out _ hB0)
    · obtain ⟨b, off, rfl, hc⟩ := str_cell h (by omega)
      have hbl : b < w.heap.size := World.block_lt_of_cell? w _ (hc 0 (by omega))
      have q0 := (hB0.cell (p := ⟨b, off, none⟩) hbl).trans (show w.cell? ⟨b, off, none⟩ = some (.string (mk (ws.getD 0 []))) from hc 0 (by omega))
      have hp1 := fun W => rpath13_any (mk (ws.getD 1 [])) W (by rw [← bs_len, bs_mk]; exact hz 1)
      rw [bs_mk] at hp1
      have hp2 := fun W => rpath13_any (mk (ws.getD 2 [])) W (by rw [← bs_len, bs_mk]; exact hz 2)
      rw [bs_mk] at hp2
      obtain ⟨x0, hx⟩ : ∃ x0, ws.getD 0 [] = x0 := ⟨_, rfl⟩
      rw [hx] at q0
      by_cases hkeep : x0 = [107, 101, 101, 112]
      · subst hkeep
        have hk : kindW (ws.getD 0 []) = (1, 2) := by rw [hx]; rfl
        have hnone : ruleW ws = none := by
          unfold ruleW
          rw [hk, if_neg (by rw [hl]; decide)]
        have HP : Hid (∀ W, Below w.heap.size w W → RRPost ws w (.returned (.tuple #[rv 0 ⟨#[]⟩ ⟨#[]⟩, .bool false])) W) := fun W hB => ⟨0, _, _, by rw [hnone]; rfl, (fun r hr => by rw [hnone] at hr; cases hr), hB⟩
        clear hnone h hz hl hp1 hp2 hx hc hbl
        replace q0 : _ = some (Value.string ⟨#[107, 101, 101, 112]⟩) := q0
        go_enter Tryd.func31, Tryd.ntmps31
        go_wp2
        refine rb_ret (k := 0) (f := ⟨#[]⟩) (t := ⟨#[]⟩) hRB.r rfl rfl rfl (HP.out _ hB0)
      by_cases hdrop : x0 = [100, 114, 111, 112]
      · subst hdrop
        have hk : kindW (ws.getD 0 []) = (2, 2) := by rw [hx]; rfl
        clear hkeep
        have hnone : ruleW ws = none := by
          unfold ruleW
          rw [hk, if_neg (by rw [hl]; decide)]
        have HP : Hid (∀ W, Below w.heap.size w W → RRPost ws w (.returned (.tuple #[rv 0 ⟨#[]⟩ ⟨#[]⟩, .bool false])) W) := fun W hB => ⟨0, _, _, by rw [hnone]; rfl, (fun r hr => by rw [hnone] at hr; cases hr), hB⟩
        clear hnone h hz hl hp1 hp2 hx hc hbl
        replace q0 : _ = some (Value.string ⟨#[100, 114, 111, 112]⟩) := q0
        go_enter Tryd.func31, Tryd.ntmps31
        go_wp2
        refine rb_ret (k := 0) (f := ⟨#[]⟩) (t := ⟨#[]⟩) hRB.r rfl rfl rfl (HP.out _ hB0)
      by_cases hmove : x0 = [109, 111, 118, 101]
      · subst hmove
        clear hkeep hdrop
        have hk : kindW (ws.getD 0 []) = (3, 3) := by rw [hx]; rfl
        have hrw : ruleW ws = (pathW (ws.getD 1 [])).bind fun f => (pathW (ws.getD 2 [])).map fun t => (3, f, t) := by
          unfold ruleW
          rw [hk, if_pos hl]
          rfl
        cases h1 : pathW (ws.getD 1 []) with
        | none =>
          have HP : Hid (∀ W, Below w.heap.size w W → RRPost ws w (.returned (.tuple #[rv 3 (mk (pathT (ws.getD 1 []))) ⟨#[]⟩, .bool false])) W) := fun W hB => ⟨3, _, _, by rw [hrw, h1]; rfl, (fun r hr => by rw [hrw, h1] at hr; cases hr), hB⟩
          rw [h1] at hp1
          simp only [Option.isSome_none] at hp1
          have q1 := ((RB.new w 3).bel.cell (p := ⟨b, off + 1, none⟩) hbl).trans (hc 1 (by omega))
          clear hk hrw h hz hl hx hp2 hc hB0 hRB h1
          generalize mk (pathT (ws.getD 1 [])) = T1 at *
          generalize mk (ws.getD 1 []) = X1 at *
          replace q0 : _ = some (Value.string ⟨#[109, 111, 118, 101]⟩) := q0
          go_enter Tryd.func31, Tryd.ntmps31
          go_wp2_with (go_at_call 49; refine (hp1 _).mono ?_; clear hp1; rintro e w2 ⟨rfl, hB2⟩; have R2 : RB w w2 3 ⟨#[]⟩ ⟨#[]⟩ := (RB.new w 3).below hB2; obtain ⟨z0, z1, z2⟩ := R2.r.cell; obtain ⟨y0, y1, y2⟩ := R2.r.frozen; obtain ⟨v0, v1, v2⟩ := R2.b.cell; obtain ⟨u0, u1, u2⟩ := R2.b.frozen; have HR2 : Hid (RB w w2 3 ⟨#[]⟩ ⟨#[]⟩) := R2; clear R2 hB2)
          refine rb_ret (k := 3) (f := T1) (t := ⟨#[]⟩) ((HR2.out.r.other (by omega) _).all _ _ _) rfl rfl rfl (HP.out _ ?_)
          exact (((HR2.out.bel.setCell (p := ⟨w.heap.size + 1, 1, none⟩) (by show w.heap.size ≤ w.heap.size + 1; omega) _).setCell (p := ⟨w.heap.size, 0, none⟩) (Nat.le_refl _) _).setCell (p := ⟨w.heap.size, 1, none⟩) (Nat.le_refl _) _).setCell (p := ⟨w.heap.size, 2, none⟩) (Nat.le_refl _) _
        | some f1 =>
          have HP : Hid (∀ W, Below w.heap.size w W → RRPost ws w (.returned (.tuple #[rv 3 (mk (pathT (ws.getD 1 []))) (mk (pathT (ws.getD 2 []))), .bool (pathW (ws.getD 2 [])).isSome])) W) := fun W hB => ⟨3, _, _, by rw [hrw, h1]; show _ = Ending.returned (.tuple #[_, .bool ((pathW (ws.getD 2 [])).map _).isSome]); rw [Option.isSome_map], (fun r hr => by
            rw [hrw, h1] at hr
            obtain ⟨t, ht, rfl⟩ := Option.map_eq_some_iff.1 hr
            rw [pathT_some h1, pathT_some ht]), hB⟩
          rw [h1] at hp1
          simp only [Option.isSome_some] at hp1
          have q1 := ((RB.new w 3).bel.cell (p := ⟨b, off + 1, none⟩) hbl).trans (hc 1 (by omega))
          have q2 := ((RB.new w 3).bel.cell (p := ⟨b, off + 2, none⟩) hbl).trans (hc 2 (by omega))
          clear hk hrw h hz hl hx hc hB0 hRB h1
          generalize mk (pathT (ws.getD 1 [])) = T1 at *
          generalize mk (ws.getD 1 []) = X1 at *
          generalize mk (pathT (ws.getD 2 [])) = T2 at *
          generalize mk (ws.getD 2 []) = X2 at *
          replace q0 : _ = some (Value.string ⟨#[109, 111, 118, 101]⟩) := q0
          generalize (pathW (ws.getD 2 [])).isSome = ok at *
          cases ok with
          | true =>
            go_enter Tryd.func31, Tryd.ntmps31
            go_wp2_with first
              | (go_at_call 49; refine (hp1 _).mono ?_; clear hp1; rintro e w2 ⟨rfl, hB2⟩; have HBz : Hid (w.heap.size ≤ w2.heap.size) := Nat.le_trans ((RB.new w 3).bel.size) hB2.size; have R2 : RB w w2 3 ⟨#[]⟩ ⟨#[]⟩ := (RB.new w 3).below hB2; obtain ⟨z0, z1, z2⟩ := R2.r.cell; obtain ⟨y0, y1, y2⟩ := R2.r.frozen; obtain ⟨v0, v1, v2⟩ := R2.b.cell; obtain ⟨u0, u1, u2⟩ := R2.b.frozen; have q3 := (hB2.cell (p := ⟨b, off + 2, none⟩) (by simp; omega)).trans q2; have hlt2 := Nat.lt_of_lt_of_le hbl HBz.out; have HR2 : Hid (RB w w2 3 ⟨#[]⟩ ⟨#[]⟩) := R2; clear R2 hB2)
              | (go_at_call 49; refine (hp2 _).mono ?_; clear hp2; rintro e w3 ⟨rfl, hB3⟩; have R3 : RB w w3 3 T1 ⟨#[]⟩ := ⟨(HR2.out.r.other (by omega) _).below hB3 (by have := HR2.out.r.lt; simpa using this), (HR2.out.b.set1 _).below hB3 (by have := HR2.out.b.lt; simpa using this), (HR2.out.bel.setCell (p := ⟨w.heap.size + 1, 1, none⟩) (by show w.heap.size ≤ w.heap.size + 1; omega) _).trans (hB3.mono (by have := HR2.out.bel.size; simpa using this))⟩; obtain ⟨z0, z1, z2⟩ := R3.r.cell; obtain ⟨y0, y1, y2⟩ := R3.r.frozen; obtain ⟨v0, v1, v2⟩ := R3.b.cell; obtain ⟨u0, u1, u2⟩ := R3.b.frozen; have HR3 : Hid (RB w w3 3 T1 ⟨#[]⟩) := R3; clear R3 hB3)
            refine rb_ret (k := 3) (f := T1) (t := T2) ((HR3.out.r.other (by omega) _).all _ _ _) rfl rfl rfl (HP.out _ ?_)
            exact (((HR3.out.bel.setCell (p := ⟨w.heap.size + 1, 2, none⟩) (by show w.heap.size ≤ w.heap.size + 1; omega) _).setCell (p := ⟨w.heap.size, 0, none⟩) (Nat.le_refl _) _).setCell (p := ⟨w.heap.size, 1, none⟩) (Nat.le_refl _) _).setCell (p := ⟨w.heap.size, 2, none⟩) (Nat.le_refl _) _
          | false =>
            go_enter Tryd.func31, Tryd.ntmps31
            go_wp2_with first
              | (go_at_call 49; refine (hp1 _).mono ?_; clear hp1; rintro e w2 ⟨rfl, hB2⟩; have HBz : Hid (w.heap.size ≤ w2.heap.size) := Nat.le_trans ((RB.new w 3).bel.size) hB2.size; have R2 : RB w w2 3 ⟨#[]⟩ ⟨#[]⟩ := (RB.new w 3).below hB2; obtain ⟨z0, z1, z2⟩ := R2.r.cell; obtain ⟨y0, y1, y2⟩ := R2.r.frozen; obtain ⟨v0, v1, v2⟩ := R2.b.cell; obtain ⟨u0, u1, u2⟩ := R2.b.frozen; have q3 := (hB2.cell (p := ⟨b, off + 2, none⟩) (by simp; omega)).trans q2; have hlt2 := Nat.lt_of_lt_of_le hbl HBz.out; have HR2 : Hid (RB w w2 3 ⟨#[]⟩ ⟨#[]⟩) := R2; clear R2 hB2)
              | (go_at_call 49; refine (hp2 _).mono ?_; clear hp2; rintro e w3 ⟨rfl, hB3⟩; have R3 : RB w w3 3 T1 ⟨#[]⟩ := ⟨(HR2.out.r.other (by omega) _).below hB3 (by have := HR2.out.r.lt; simpa using this), (HR2.out.b.set1 _).below hB3 (by have := HR2.out.b.lt; simpa using this), (HR2.out.bel.setCell (p := ⟨w.heap.size + 1, 1, none⟩) (by show w.heap.size ≤ w.heap.size + 1; omega) _).trans (hB3.mono (by have := HR2.out.bel.size; simpa using this))⟩; obtain ⟨z0, z1, z2⟩ := R3.r.cell; obtain ⟨y0, y1, y2⟩ := R3.r.frozen; obtain ⟨v0, v1, v2⟩ := R3.b.cell; obtain ⟨u0, u1, u2⟩ := R3.b.frozen; have HR3 : Hid (RB w w3 3 T1 ⟨#[]⟩) := R3; clear R3 hB3)
            refine rb_ret (k := 3) (f := T1) (t := T2) ((HR3.out.r.other (by omega) _).all _ _ _) rfl rfl rfl (HP.out _ ?_)
            exact (((HR3.out.bel.setCell (p := ⟨w.heap.size + 1, 2, none⟩) (by show w.heap.size ≤ w.heap.size + 1; omega) _).setCell (p := ⟨w.heap.size, 0, none⟩) (Nat.le_refl _) _).setCell (p := ⟨w.heap.size, 1, none⟩) (Nat.le_refl _) _).setCell (p := ⟨w.heap.size, 2, none⟩) (Nat.le_refl _) _
      · have hk : kindW (ws.getD 0 []) = (0, 0) := by rw [hx]; exact kindW_other hkeep hdrop hmove
        have e1 := str_ne (s := mk x0) (l := [107, 101, 101, 112]) (by rw [bs_mk]; exact hkeep)
        have e2 := str_ne (s := mk x0) (l := [100, 114, 111, 112]) (by rw [bs_mk]; exact hdrop)
        have e3 := str_ne (s := mk x0) (l := [109, 111, 118, 101]) (by rw [bs_mk]; exact hmove)
        clear hkeep hdrop hmove
        have hnone : ruleW ws = none := by
          unfold ruleW
          rw [hk, if_neg (by rw [hl]; decide)]
        have HP : Hid (∀ W, Below w.heap.size w W → RRPost ws w (.returned (.tuple #[rv 0 ⟨#[]⟩ ⟨#[]⟩, .bool false])) W) := fun W hB => ⟨0, _, _, by rw [hnone]; rfl, (fun r hr => by rw [hnone] at hr; cases hr), hB⟩
        clear hnone h hz hl hp1 hp2 hx hc hbl
        generalize mk x0 = X0 at *
        go_enter Tryd.func31, Tryd.ntmps31
        go_wp2
        refine rb_ret (k := 0) (f := ⟨#[]⟩) (t := ⟨#[]⟩) hRB.r rfl rfl rfl (HP.out _ hB0)
end Go.Proofs.YtdchmmdndgbllaaDoor
