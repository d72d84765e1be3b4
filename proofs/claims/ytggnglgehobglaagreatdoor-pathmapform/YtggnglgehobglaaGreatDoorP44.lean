import Derived.BigQuiet
import Derived.Test.YtggnglgehobglaaGreatDoorP40
import Derived.Test.YtggnglgehobglaaGreatDoorP09
/- The walks of kindOf, pathOf, ruleOf. -/
namespace Go.Proofs.YtggnglgehobglaaGreatDoor
open Go.RowKit Go.Shelf

attribute [local go_sem] Oper.semAt_some

theorem str_ne {s : ByteArray} {l : List UInt8} (h : ¬ bs s = l) : (s.toList == l) = false := by
  rw [toList_bs]
  exact beq_false_of_ne h

theorem kindOf_any (s : ByteArray) (w : World) : Calls Tryz.prog 92 #[.string s] w fun e w' => e = .returned (.tuple #[.int .i64 (kindW (bs s)).1, .int .i64 ((kindW (bs s)).2 : Int)]) ∧ w' = w := by
  by_cases h1 : bs s = [107, 101, 101, 112]
  · obtain rfl : s = ⟨#[107, 101, 101, 112]⟩ := bs_inj h1
    clear h1
    go_enter Tryz.func92, Tryz.ntmps92
    go_wp2
    go_ret2
    exact ⟨rfl, rfl⟩
  by_cases h2 : bs s = [100, 114, 111, 112]
  · obtain rfl : s = ⟨#[100, 114, 111, 112]⟩ := bs_inj h2
    clear h1 h2
    go_enter Tryz.func92, Tryz.ntmps92
    go_wp2
    go_ret2
    exact ⟨rfl, rfl⟩
  by_cases h3 : bs s = [109, 111, 118, 101]
  · obtain rfl : s = ⟨#[109, 111, 118, 101]⟩ := bs_inj h3
    clear h1 h2 h3
    go_enter Tryz.func92, Tryz.ntmps92
    go_wp2
    go_ret2
    exact ⟨rfl, rfl⟩
  · have HE : Hid (kindW (bs s) = (0, 0)) := by
      show _ = _
      unfold kindW
      rw [if_neg h1, if_neg h2, if_neg h3]
    have e1 := str_ne h1
    have e2 := str_ne h2
    have e3 := str_ne h3
    clear h1 h2 h3
    go_enter Tryz.func92, Tryz.ntmps92
    go_wp2
    go_ret2
    exact ⟨by rw [HE.out]; rfl, rfl⟩

theorem pathOf_any (s : ByteArray) (w : World) (hs : s.size ≤ maxLen) : Calls Tryz.prog 93 #[.string s] w fun e w' => e = .returned (.tuple #[.string (mk ((pathW (bs s)).getD [])), .bool (pathW (bs s)).isSome]) ∧ Below w.heap.size w w' := by
  have hp := fun W => uisPath_any s W hs
  by_cases h1 : bs s = [47]
  · obtain rfl : s = ⟨#[47]⟩ := bs_inj h1
    clear h1 hp
    go_enter Tryz.func93, Tryz.ntmps93
    go_wp2
    go_ret2
    exact ⟨rfl, Below.refl _ _⟩
  by_cases h2 : bs s = []
  · obtain rfl : s = ⟨#[]⟩ := bs_inj h2
    clear h1 h2 hp
    go_enter Tryz.func93, Tryz.ntmps93
    go_wp2
    go_ret2
    exact ⟨rfl, Below.refl _ _⟩
  · have e1 := str_ne h1
    have hem : s.toList.isEmpty = false := by rw [str_empty]; exact decide_eq_false h2
    have HE : Hid (pathW (bs s) = if isP (bs s) = true then some (bs s) else none) := by
      show _ = _
      unfold pathW
      rw [if_neg h1]
      cases isP (bs s) <;> simp [h2]
    clear h1 h2
    cases hP : isP (bs s) with
    | true =>
      rw [hP] at hp HE
      clear hP
      go_enter Tryz.func93, Tryz.ntmps93
      go_wp2_with (go_at_call 86; refine (hp _).mono ?_; clear hp; rintro e w2 ⟨rfl, hB2⟩)
      go_ret2
      exact ⟨by rw [HE.out]; show _ = Ending.returned (.tuple #[.string (mk (bs s)), .bool true]); rw [mk_bs]; rfl, hB2⟩
    | false =>
      rw [hP] at hp HE
      clear hP
      go_enter Tryz.func93, Tryz.ntmps93
      go_wp2_with (go_at_call 86; refine (hp _).mono ?_; clear hp; rintro e w2 ⟨rfl, hB2⟩)
      go_ret2
      exact ⟨by rw [HE.out]; rfl, hB2⟩

theorem ru_ret {k : Nat} {f : Func} {W : World} {p : Nat} {kk : Int} {ff tt : ByteArray} {a : Act} {P : Ending → World → Prop} (hf : f.results = #[ResultVar.cell k 31]) (hb : BoxR W p kk ff tt) (ha : a.tmps[k]?.getD undef = .pointer (some ⟨p, 0, none⟩)) (hd : a.defers = []) (hP : P (.returned (rv kk ff tt)) W) : bodyPost Tryz.prog f P Exit.ret a W := by
  obtain ⟨c0, c1, c2⟩ := hb.cell
  exact bodyPost_ret (v := rv kk ff tt) (by simp [results, hf, go_sem, ha, c0, c1, c2]) hd hP
theorem str_cell {w : World} {a : Option Addr} {n : Nat} {ws : List (List UInt8)} (h : Strs w a n (ws.map mk)) (h0 : 0 < n) : ∃ b off, a = some ⟨b, off, none⟩ ∧ ∀ j, j < n → w.cell? ⟨b, off + j, none⟩ = some (.string (mk (ws.getD j []))) := by
  obtain ⟨b, off, e, hc⟩ := h.2 h0
  refine ⟨b, off, e, fun j hj => hc j _ ?_⟩
  have hl : ws.length = n := by have := h.1; rwa [List.length_map] at this
  rw [List.getElem?_map, List.getD_eq_getElem?_getD, List.getElem?_eq_getElem (by omega)]
  rfl

set_option maxRecDepth 100000 in
set_option maxHeartbeats 4000000 in
theorem ruleOf_any (ws : List (List UInt8)) (a : Option Addr) (n c : Nat) (w : World) (h : Strs w a n (ws.map mk)) (h0 : 0 < n) (hz : ∀ j, (ws.getD j []).length ≤ maxLen) (hn : n ≤ 1000000000) :
    Calls Tryz.prog 71 #[.slice a n c] w fun e w' => e = .returned (ruV ((ruleW ws).getD noR)) ∧ Below w.heap.size w w' := by
  have hl : ws.length = n := by have := h.1; rwa [List.length_map] at this
  obtain ⟨b, off, rfl, hc⟩ := str_cell h h0
  have hkd := fun W => kindOf_any (mk (ws.getD 0 [])) W
  have hp1 := fun W => pathOf_any (mk (ws.getD 1 [])) W (by rw [← bs_len, bs_mk]; exact hz 1)
  have hp2 := fun W => pathOf_any (mk (ws.getD ((kindW (ws.getD 0 [])).2 - 1) [])) W (by rw [← bs_len, bs_mk]; exact hz _)
  rw [bs_mk] at hkd hp1 hp2
  have hb0 : BoxR (w.alloc (.cells #[.int .i64 0, .string ⟨#[]⟩, .string ⟨#[]⟩] 31)) w.heap.size 0 ⟨#[]⟩ ⟨#[]⟩ := BoxR.new w 0 _ _
  have hB0 : Below w.heap.size w (w.alloc (.cells #[.int .i64 0, .string ⟨#[]⟩, .string ⟨#[]⟩] 31)) := (Below.refl _ w).alloc (Nat.le_refl _) _
  have hbl : b < w.heap.size := World.block_lt_of_cell? w _ (hc 0 h0)
  have q0 := (hB0.cell (p := ⟨b, off, none⟩) hbl).trans (show w.cell? ⟨b, off, none⟩ = some (.string (mk (ws.getD 0 []))) from hc 0 h0)
  obtain ⟨R, hR⟩ : ∃ R, R = (ruleW ws).getD noR := ⟨_, rfl⟩
  rw [← hR]
  have i0 : (0 : Int) < (n : Int) := by omega
  have i1 : ¬ n ≤ 0 := by omega
  by_cases hk : ws.length = (kindW (ws.getD 0 [])).2
  · have hrl : ruleW ws = (pathW (ws.getD 1 [])).bind fun f => (pathW (ws.getD ((kindW (ws.getD 0 [])).2 - 1) [])).map fun t => ((kindW (ws.getD 0 [])).1, f, if (kindW (ws.getD 0 [])).1 = 3 then t else []) := by unfold ruleW; rw [if_pos hk]
    rw [hrl] at hR
    clear hrl
    have hcs := kindW_cases (ws.getD 0 [])
    generalize kindW (ws.getD 0 []) = kd at *
    generalize hx0 : mk (ws.getD 0 []) = x0 at *
    obtain ⟨kk, ak⟩ := kd
    simp only at hk hkd hp2 hR hcs
    obtain rfl : n = ak := by omega
    rcases hcs with e | e | e | e
    · obtain ⟨rfl, rfl⟩ := Prod.mk.inj e
      simp only [show ((2 : Nat) - 1) = 1 from rfl] at hp2 hR
      clear e hk h hz hl
      generalize pathW (ws.getD 1 []) = P1 at *
      cases P1 with
      | none =>
        have HR : Hid (R = noR) := by show _ = _; rw [hR]; rfl
        simp only [Option.getD_none, Option.isSome_none] at hp1 hp2
        clear hR
        have q1 := (hB0.cell (p := ⟨b, off + 1, none⟩) hbl).trans (hc 1 (by omega))
        have r2 := (hB0.cell (p := ⟨b, off + 1, none⟩) hbl).trans (hc 1 (by omega))
        have hb0' := hb0
        clear hc
        generalize mk (ws.getD 1 []) = x1 at *
        go_enter Tryz.func71, Tryz.ntmps71
        go_wp2_with first
          | (go_at_call 92; refine (hkd _).mono ?_; clear hkd; rintro e w1 ⟨rfl, hw1⟩; subst hw1)
          | (go_at_call 93; refine (hp1 _).mono ?_; clear hp1; rintro e w2 ⟨rfl, hB2⟩; have q2 := (hB2.cell (p := ⟨b, off + 1, none⟩) (by simp; omega)).trans r2; have hb2 := hb0.below hB2 (by simp); have HB2 : Hid (Below w.heap.size w w2) := hB0.trans (hB2.mono (by simp)); have hz2 := hB2.size; clear hB2 hb0 r2 q0 q1)
          | (go_at_call 93; refine (hp2 _).mono ?_; clear hp2; rintro e w3 ⟨rfl, hB3⟩; have hb3 := hb2.below hB3 hb2.lt; have HB3 : Hid (Below w.heap.size w w3) := HB2.out.trans (hB3.mono HB2.out.size); obtain ⟨z0, z1, z2⟩ := hb3.cell; obtain ⟨y0, y1, y2⟩ := hb3.frozen; clear hB3 hb2)
        refine ru_ret (k := 2) rfl (hb3.all 0 ⟨#[]⟩ ⟨#[]⟩) rfl rfl ?_
        exact ⟨by rw [HR.out]; rfl, ((HB3.out.setCell (p := ⟨w.heap.size, 0, none⟩) (Nat.le_refl _) _).setCell (p := ⟨w.heap.size, 1, none⟩) (Nat.le_refl _) _).setCell (p := ⟨w.heap.size, 2, none⟩) (Nat.le_refl _) _⟩
      | some f =>
        have HR : Hid (R = (1, f, [])) := by show _ = _; rw [hR]; rfl
        simp only [Option.getD_some, Option.isSome_some] at hp1 hp2
        clear hR
        have q1 := (hB0.cell (p := ⟨b, off + 1, none⟩) hbl).trans (hc 1 (by omega))
        have r2 := (hB0.cell (p := ⟨b, off + 1, none⟩) hbl).trans (hc 1 (by omega))
        have hb0' := hb0
        clear hc
        generalize mk (ws.getD 1 []) = x1 at *
        go_enter Tryz.func71, Tryz.ntmps71
        go_wp2_with first
          | (go_at_call 92; refine (hkd _).mono ?_; clear hkd; rintro e w1 ⟨rfl, hw1⟩; subst hw1)
          | (go_at_call 93; refine (hp1 _).mono ?_; clear hp1; rintro e w2 ⟨rfl, hB2⟩; have q2 := (hB2.cell (p := ⟨b, off + 1, none⟩) (by simp; omega)).trans r2; have hb2 := hb0.below hB2 (by simp); have HB2 : Hid (Below w.heap.size w w2) := hB0.trans (hB2.mono (by simp)); have hz2 := hB2.size; clear hB2 hb0 r2 q0 q1)
          | (go_at_call 93; refine (hp2 _).mono ?_; clear hp2; rintro e w3 ⟨rfl, hB3⟩; have hb3 := hb2.below hB3 hb2.lt; have HB3 : Hid (Below w.heap.size w w3) := HB2.out.trans (hB3.mono HB2.out.size); obtain ⟨z0, z1, z2⟩ := hb3.cell; obtain ⟨y0, y1, y2⟩ := hb3.frozen; clear hB3 hb2)
        refine ru_ret (k := 2) rfl (hb3.all 1 (mk f) ⟨#[]⟩) rfl rfl ?_
        exact ⟨by rw [HR.out] <;> rfl, ((HB3.out.setCell (p := ⟨w.heap.size, 0, none⟩) (Nat.le_refl _) _).setCell (p := ⟨w.heap.size, 1, none⟩) (Nat.le_refl _) _).setCell (p := ⟨w.heap.size, 2, none⟩) (Nat.le_refl _) _⟩
    · obtain ⟨rfl, rfl⟩ := Prod.mk.inj e
      simp only [show ((2 : Nat) - 1) = 1 from rfl] at hp2 hR
      clear e hk h hz hl
      generalize pathW (ws.getD 1 []) = P1 at *
      cases P1 with
      | none =>
        have HR : Hid (R = noR) := by show _ = _; rw [hR]; rfl
        simp only [Option.getD_none, Option.isSome_none] at hp1 hp2
        clear hR
        have q1 := (hB0.cell (p := ⟨b, off + 1, none⟩) hbl).trans (hc 1 (by omega))
        have r2 := (hB0.cell (p := ⟨b, off + 1, none⟩) hbl).trans (hc 1 (by omega))
        have hb0' := hb0
        clear hc
        generalize mk (ws.getD 1 []) = x1 at *
        go_enter Tryz.func71, Tryz.ntmps71
        go_wp2_with first
          | (go_at_call 92; refine (hkd _).mono ?_; clear hkd; rintro e w1 ⟨rfl, hw1⟩; subst hw1)
          | (go_at_call 93; refine (hp1 _).mono ?_; clear hp1; rintro e w2 ⟨rfl, hB2⟩; have q2 := (hB2.cell (p := ⟨b, off + 1, none⟩) (by simp; omega)).trans r2; have hb2 := hb0.below hB2 (by simp); have HB2 : Hid (Below w.heap.size w w2) := hB0.trans (hB2.mono (by simp)); have hz2 := hB2.size; clear hB2 hb0 r2 q0 q1)
          | (go_at_call 93; refine (hp2 _).mono ?_; clear hp2; rintro e w3 ⟨rfl, hB3⟩; have hb3 := hb2.below hB3 hb2.lt; have HB3 : Hid (Below w.heap.size w w3) := HB2.out.trans (hB3.mono HB2.out.size); obtain ⟨z0, z1, z2⟩ := hb3.cell; obtain ⟨y0, y1, y2⟩ := hb3.frozen; clear hB3 hb2)
        refine ru_ret (k := 2) rfl (hb3.all 0 ⟨#[]⟩ ⟨#[]⟩) rfl rfl ?_
        exact ⟨by rw [HR.out]; rfl, ((HB3.out.setCell (p := ⟨w.heap.size, 0, none⟩) (Nat.le_refl _) _).setCell (p := ⟨w.heap.size, 1, none⟩) (Nat.le_refl _) _).setCell (p := ⟨w.heap.size, 2, none⟩) (Nat.le_refl _) _⟩
      | some f =>
        have HR : Hid (R = (2, f, [])) := by show _ = _; rw [hR]; rfl
        simp only [Option.getD_some, Option.isSome_some] at hp1 hp2
        clear hR
        have q1 := (hB0.cell (p := ⟨b, off + 1, none⟩) hbl).trans (hc 1 (by omega))
        have r2 := (hB0.cell (p := ⟨b, off + 1, none⟩) hbl).trans (hc 1 (by omega))
        have hb0' := hb0
        clear hc
        generalize mk (ws.getD 1 []) = x1 at *
        go_enter Tryz.func71, Tryz.ntmps71
        go_wp2_with first
          | (go_at_call 92; refine (hkd _).mono ?_; clear hkd; rintro e w1 ⟨rfl, hw1⟩; subst hw1)
          | (go_at_call 93; refine (hp1 _).mono ?_; clear hp1; rintro e w2 ⟨rfl, hB2⟩; have q2 := (hB2.cell (p := ⟨b, off + 1, none⟩) (by simp; omega)).trans r2; have hb2 := hb0.below hB2 (by simp); have HB2 : Hid (Below w.heap.size w w2) := hB0.trans (hB2.mono (by simp)); have hz2 := hB2.size; clear hB2 hb0 r2 q0 q1)
          | (go_at_call 93; refine (hp2 _).mono ?_; clear hp2; rintro e w3 ⟨rfl, hB3⟩; have hb3 := hb2.below hB3 hb2.lt; have HB3 : Hid (Below w.heap.size w w3) := HB2.out.trans (hB3.mono HB2.out.size); obtain ⟨z0, z1, z2⟩ := hb3.cell; obtain ⟨y0, y1, y2⟩ := hb3.frozen; clear hB3 hb2)
        refine ru_ret (k := 2) rfl (hb3.all 2 (mk f) ⟨#[]⟩) rfl rfl ?_
        exact ⟨by rw [HR.out] <;> rfl, ((HB3.out.setCell (p := ⟨w.heap.size, 0, none⟩) (Nat.le_refl _) _).setCell (p := ⟨w.heap.size, 1, none⟩) (Nat.le_refl _) _).setCell (p := ⟨w.heap.size, 2, none⟩) (Nat.le_refl _) _⟩
    · obtain ⟨rfl, rfl⟩ := Prod.mk.inj e
      simp only [show ((3 : Nat) - 1) = 2 from rfl] at hp2 hR
      clear e hk h hz hl
      generalize pathW (ws.getD 1 []) = P1 at *
      generalize pathW (ws.getD 2 []) = P2 at *
      cases P1 with
      | none =>
        have HR : Hid (R = noR) := by show _ = _; rw [hR]; rfl
        simp only [Option.getD_none, Option.isSome_none] at hp1
        clear hR
        generalize P2.getD [] = g2 at *
        generalize P2.isSome = o2 at *
        have q1 := (hB0.cell (p := ⟨b, off + 1, none⟩) hbl).trans (hc 1 (by omega))
        have r2 := (hB0.cell (p := ⟨b, off + 2, none⟩) hbl).trans (hc 2 (by omega))
        have hb0' := hb0
        clear hc
        generalize mk (ws.getD 1 []) = x1 at *
        generalize mk (ws.getD 2 []) = x2 at *
        go_enter Tryz.func71, Tryz.ntmps71
        go_wp2_with first
          | (go_at_call 92; refine (hkd _).mono ?_; clear hkd; rintro e w1 ⟨rfl, hw1⟩; subst hw1)
          | (go_at_call 93; refine (hp1 _).mono ?_; clear hp1; rintro e w2 ⟨rfl, hB2⟩; have q2 := (hB2.cell (p := ⟨b, off + 2, none⟩) (by simp; omega)).trans r2; have hb2 := hb0.below hB2 (by simp); have HB2 : Hid (Below w.heap.size w w2) := hB0.trans (hB2.mono (by simp)); have hz2 := hB2.size; clear hB2 hb0 r2 q0 q1)
          | (go_at_call 93; refine (hp2 _).mono ?_; clear hp2; rintro e w3 ⟨rfl, hB3⟩; have hb3 := hb2.below hB3 hb2.lt; have HB3 : Hid (Below w.heap.size w w3) := HB2.out.trans (hB3.mono HB2.out.size); obtain ⟨z0, z1, z2⟩ := hb3.cell; obtain ⟨y0, y1, y2⟩ := hb3.frozen; clear hB3 hb2)
        refine ru_ret (k := 2) rfl (hb3.all 0 ⟨#[]⟩ ⟨#[]⟩) rfl rfl ?_
        exact ⟨by rw [HR.out]; rfl, ((HB3.out.setCell (p := ⟨w.heap.size, 0, none⟩) (Nat.le_refl _) _).setCell (p := ⟨w.heap.size, 1, none⟩) (Nat.le_refl _) _).setCell (p := ⟨w.heap.size, 2, none⟩) (Nat.le_refl _) _⟩
      | some f =>
        cases P2 with
        | none =>
          have HR : Hid (R = noR) := by show _ = _; rw [hR]; rfl
          simp only [Option.getD_some, Option.isSome_some, Option.getD_none, Option.isSome_none] at hp1 hp2
          clear hR
          have q1 := (hB0.cell (p := ⟨b, off + 1, none⟩) hbl).trans (hc 1 (by omega))
          have r2 := (hB0.cell (p := ⟨b, off + 2, none⟩) hbl).trans (hc 2 (by omega))
          have hb0' := hb0
          clear hc
          generalize mk (ws.getD 1 []) = x1 at *
          generalize mk (ws.getD 2 []) = x2 at *
          go_enter Tryz.func71, Tryz.ntmps71
          go_wp2_with first
            | (go_at_call 92; refine (hkd _).mono ?_; clear hkd; rintro e w1 ⟨rfl, hw1⟩; subst hw1)
            | (go_at_call 93; refine (hp1 _).mono ?_; clear hp1; rintro e w2 ⟨rfl, hB2⟩; have q2 := (hB2.cell (p := ⟨b, off + 2, none⟩) (by simp; omega)).trans r2; have hb2 := hb0.below hB2 (by simp); have HB2 : Hid (Below w.heap.size w w2) := hB0.trans (hB2.mono (by simp)); have hz2 := hB2.size; clear hB2 hb0 r2 q0 q1)
            | (go_at_call 93; refine (hp2 _).mono ?_; clear hp2; rintro e w3 ⟨rfl, hB3⟩; have hb3 := hb2.below hB3 hb2.lt; have HB3 : Hid (Below w.heap.size w w3) := HB2.out.trans (hB3.mono HB2.out.size); obtain ⟨z0, z1, z2⟩ := hb3.cell; obtain ⟨y0, y1, y2⟩ := hb3.frozen; clear hB3 hb2)
          refine ru_ret (k := 2) rfl (hb3.all 0 ⟨#[]⟩ ⟨#[]⟩) rfl rfl ?_
          exact ⟨by rw [HR.out]; rfl, ((HB3.out.setCell (p := ⟨w.heap.size, 0, none⟩) (Nat.le_refl _) _).setCell (p := ⟨w.heap.size, 1, none⟩) (Nat.le_refl _) _).setCell (p := ⟨w.heap.size, 2, none⟩) (Nat.le_refl _) _⟩
        | some t =>
          have HR : Hid (R = (3, f, t)) := by show _ = _; rw [hR]; rfl
          simp only [Option.getD_some, Option.isSome_some] at hp1 hp2
          clear hR
          have q1 := (hB0.cell (p := ⟨b, off + 1, none⟩) hbl).trans (hc 1 (by omega))
          have r2 := (hB0.cell (p := ⟨b, off + 2, none⟩) hbl).trans (hc 2 (by omega))
          have hb0' := hb0
          clear hc
          generalize mk (ws.getD 1 []) = x1 at *
          generalize mk (ws.getD 2 []) = x2 at *
          go_enter Tryz.func71, Tryz.ntmps71
          go_wp2_with first
            | (go_at_call 92; refine (hkd _).mono ?_; clear hkd; rintro e w1 ⟨rfl, hw1⟩; subst hw1)
            | (go_at_call 93; refine (hp1 _).mono ?_; clear hp1; rintro e w2 ⟨rfl, hB2⟩; have q2 := (hB2.cell (p := ⟨b, off + 2, none⟩) (by simp; omega)).trans r2; have hb2 := hb0.below hB2 (by simp); have HB2 : Hid (Below w.heap.size w w2) := hB0.trans (hB2.mono (by simp)); have hz2 := hB2.size; clear hB2 hb0 r2 q0 q1)
            | (go_at_call 93; refine (hp2 _).mono ?_; clear hp2; rintro e w3 ⟨rfl, hB3⟩; have hb3 := hb2.below hB3 hb2.lt; have HB3 : Hid (Below w.heap.size w w3) := HB2.out.trans (hB3.mono HB2.out.size); obtain ⟨z0, z1, z2⟩ := hb3.cell; obtain ⟨y0, y1, y2⟩ := hb3.frozen; clear hB3 hb2)
          refine ru_ret (k := 2) rfl (hb3.all 3 (mk f) (mk t)) rfl rfl ?_
          exact ⟨by rw [HR.out] <;> rfl, ((HB3.out.setCell (p := ⟨w.heap.size, 0, none⟩) (Nat.le_refl _) _).setCell (p := ⟨w.heap.size, 1, none⟩) (Nat.le_refl _) _).setCell (p := ⟨w.heap.size, 2, none⟩) (Nat.le_refl _) _⟩
    · obtain ⟨rfl, rfl⟩ := Prod.mk.inj e
      omega
  · have hrl : ruleW ws = none := by unfold ruleW; rw [if_neg hk]
    have HR : Hid (R = noR) := by show _ = _; rw [hR, hrl]; rfl
    rw [hl] at hk
    generalize kindW (ws.getD 0 []) = kd at *
    generalize hx0 : mk (ws.getD 0 []) = x0 at *
    obtain ⟨kk, ak⟩ := kd
    simp only at hk hkd
    have ik : ¬ (n : Int) = (ak : Int) := by omega
    clear hk hp1 hp2 hR hrl hc hz h hl hx0
    go_enter Tryz.func71, Tryz.ntmps71
    go_wp2_with (go_at_call 92; refine (hkd _).mono ?_; clear hkd; rintro e w2 ⟨rfl, hw2⟩; subst hw2)
    refine ru_ret (k := 2) rfl (BoxR.new w 0 ⟨#[]⟩ ⟨#[]⟩) rfl rfl ?_
    exact ⟨by rw [HR.out]; rfl, hB0⟩
end Go.Proofs.YtggnglgehobglaaGreatDoor

/- How much the words of a line hold. -/
namespace Go.Proofs.YtggnglgehobglaaGreatDoor

theorem addW_one {x : List UInt8} {r : WRes} {ws : List (List UInt8)} (h : addW [x] r = .ok ws) : ∃ t, r = .ok t ∧ ws = x :: t := by
  cases r with
  | error p => cases h
  | ok t => cases h; exact ⟨t, rfl, rfl⟩
theorem unq_short {l : List UInt8} : ((unq l).getD []).length ≤ l.length := by
  cases h : unq l with
  | none => simp
  | some t =>
    have e := unq_some l t h
    have := (qs_more t.length t (Nat.le_refl _)).1
    rw [← e]
    simp [quoteL]; omega
theorem words_room : ∀ (n : Nat) (l : List UInt8) (p : Nat) (ws : List (List UInt8)), l.length ≤ n → wordsL l p = .ok ws → (ws.map List.length).sum ≤ l.length ∧ ws.length ≤ l.length
  | 0, l, p, ws, h, hw => by
    have : l = [] := List.length_eq_zero_iff.1 (by omega)
    rw [this, wordsL_nil] at hw
    cases hw; simp
  | n + 1, l, p, ws, h, hw => by
    by_cases e : l = []
    · rw [e, wordsL_nil] at hw
      cases hw; simp
    · have hl : 0 < l.length := List.length_pos_iff.2 e
      by_cases h1 : l.getD 0 0 = 35
      · rw [wordsL_rem l p e h1] at hw
        cases hw; simp
      by_cases h2 : l.getD 0 0 = 32
      · rw [wordsL_blank l p e h2] at hw
        have := words_room n (l.drop 1) _ ws (by rw [List.length_drop]; omega) hw
        rw [List.length_drop] at this; omega
      by_cases h3 : l.getD 0 0 = 34
      · cases hq : qEnd (l.drop 1) with
        | none => rw [wordsL_open l p e h3 hq] at hw; cases hw
        | some k =>
          rw [wordsL_quote l p k e h3 hq] at hw
          split at hw
          · obtain ⟨t, ht, rfl⟩ := addW_one hw
            have hk := qEnd_le _ (l.drop 1) (Nat.le_refl _) k hq
            rw [List.length_drop] at hk
            have h4 := unq_short (l := l.take (k + 1))
            rw [List.length_take] at h4
            have := words_room n (l.drop (k + 1)) _ t (by rw [List.length_drop]; omega) ht
            rw [List.length_drop] at this
            simp only [List.map_cons, List.sum_cons, List.length_cons]
            omega
          · cases hw
      · rw [wordsL_plain l p e h1 h2 h3] at hw
        split at hw
        · obtain ⟨t, ht, rfl⟩ := addW_one hw
          have hb := blk_le (l.drop 1)
          rw [List.length_drop] at hb
          have := words_room n (l.drop (1 + blk (l.drop 1))) _ t (by rw [List.length_drop]; omega) ht
          rw [List.length_drop] at this
          simp only [List.map_cons, List.sum_cons, List.length_cons, List.length_take]
          omega
        · cases hw
theorem sum_mem : ∀ (ws : List (List UInt8)) (x : List UInt8), x ∈ ws → x.length ≤ (ws.map List.length).sum
  | [], x, h => by cases h
  | y :: r, x, h => by
    simp only [List.map_cons, List.sum_cons]
    rcases List.mem_cons.1 h with rfl | h
    · omega
    · have := sum_mem r x h; omega
theorem words_short {l : List UInt8} {p : Nat} {ws : List (List UInt8)} (h : wordsL l p = .ok ws) (j : Nat) : (ws.getD j []).length ≤ l.length := by
  have := (words_room _ l p ws (Nat.le_refl _) h).1
  by_cases hj : j < ws.length
  · rw [List.getD_eq_getElem?_getD, List.getElem?_eq_getElem hj]
    have h2 := sum_mem ws ws[j] (List.getElem_mem hj)
    simp only [Option.getD_some]; omega
  · rw [List.getD_eq_getElem?_getD, List.getElem?_eq_none (by omega)]; simp

theorem addW_bad {x : List UInt8} {r : WRes} {q : Nat} (h : addW [x] r = .error q) : r = .error q := by
  cases r with
  | error p => exact h
  | ok t => cases h
theorem words_place : ∀ (n : Nat) (l : List UInt8) (p q : Nat), l.length ≤ n → wordsL l p = .error q → q ≤ p + l.length
  | 0, l, p, q, h, hw => by
    have : l = [] := List.length_eq_zero_iff.1 (by omega)
    rw [this, wordsL_nil] at hw
    cases hw
  | n + 1, l, p, q, h, hw => by
    by_cases e : l = []
    · rw [e, wordsL_nil] at hw
      cases hw
    · have hl : 0 < l.length := List.length_pos_iff.2 e
      by_cases h1 : l.getD 0 0 = 35
      · rw [wordsL_rem l p e h1] at hw
        cases hw
      by_cases h2 : l.getD 0 0 = 32
      · rw [wordsL_blank l p e h2] at hw
        have := words_place n (l.drop 1) _ q (by rw [List.length_drop]; omega) hw
        rw [List.length_drop] at this; omega
      by_cases h3 : l.getD 0 0 = 34
      · cases hq : qEnd (l.drop 1) with
        | none => rw [wordsL_open l p e h3 hq] at hw; cases hw; omega
        | some k =>
          rw [wordsL_quote l p k e h3 hq] at hw
          split at hw
          · have ht := addW_bad hw
            have hk := qEnd_le _ (l.drop 1) (Nat.le_refl _) k hq
            rw [List.length_drop] at hk
            have := words_place n (l.drop (k + 1)) _ q (by rw [List.length_drop]; omega) ht
            rw [List.length_drop] at this; omega
          · cases hw; omega
      · rw [wordsL_plain l p e h1 h2 h3] at hw
        split at hw
        · have ht := addW_bad hw
          have hb := blk_le (l.drop 1)
          rw [List.length_drop] at hb
          have := words_place n (l.drop (1 + blk (l.drop 1))) _ q (by rw [List.length_drop]; omega) ht
          rw [List.length_drop] at this; omega
        · cases hw; omega
theorem lineG_bad {l : List UInt8} {e p : Nat} (h : lineG l = .error (e, p)) : (e = 150 ∨ e = 230) ∧ p ≤ l.length := by
  unfold lineG at h
  split at h
  · rename_i q hw
    cases h
    have := words_place _ l 0 _ (Nat.le_refl _) hw
    exact ⟨.inl rfl, by omega⟩
  · cases h
  · split at h
    · cases h; exact ⟨.inr rfl, Nat.zero_le _⟩
    · cases h

/-- what a line says, as the program tells it -/
def lineV (g : Except (Nat × Nat) (Option Ru)) : Ru × Nat × Nat :=
  match g with
  | .error (e, p) => (noR, e, p)
  | .ok none => (noR, 0, 0)
  | .ok (some r) => (r, 0, 0)
theorem lineV_err {l : List UInt8} {p : Nat} (h : wordsL l 0 = .error p) : lineV (lineG l) = (noR, 150, p) := by unfold lineG; rw [h]; rfl
theorem lineV_nil {l : List UInt8} (h : wordsL l 0 = .ok []) : lineV (lineG l) = (noR, 0, 0) := by unfold lineG; rw [h]; rfl
theorem lineV_none {l : List UInt8} {ws : List (List UInt8)} (h : wordsL l 0 = .ok ws) (h0 : ws ≠ []) (hr : ruleW ws = none) : lineV (lineG l) = (noR, 230, 0) := by
  cases ws with
  | nil => exact absurd rfl h0
  | cons a b =>
    unfold lineG; rw [h]
    show lineV (match ruleW (a :: b) with | none => _ | some x => _) = _
    rw [hr]; rfl
theorem lineV_some {l : List UInt8} {ws : List (List UInt8)} {r : Ru} (h : wordsL l 0 = .ok ws) (hr : ruleW ws = some r) : lineV (lineG l) = (r, 0, 0) := by
  have h0 := (ruleW_len hr).1
  cases ws with
  | nil => exact absurd h0 (by decide)
  | cons a b =>
    unfold lineG; rw [h]
    show lineV (match ruleW (a :: b) with | none => _ | some x => _) = _
    rw [hr]; rfl
end Go.Proofs.YtggnglgehobglaaGreatDoor

/- What Words answers of a line that is right. -/
namespace Go.Proofs.YtggnglgehobglaaGreatDoor
open Go.RowKit
theorem words_right {s : ByteArray} {w W : World} {e : Ending} {ws : List (List UInt8)} (hs : wordsL (bs s) 0 = .ok ws) (h : WordsPost s w e W) :
    ∃ a c, e = .returned (.tuple #[.slice a ws.length c, .agg #[.int .i64 0, .int .i64 0]]) ∧ Strs W a ws.length (ws.map mk) ∧ Below w.heap.size w W := by
  obtain ⟨h1, hB⟩ := h
  rcases h1 with ⟨ws', v, hr, rfl, hrow⟩ | ⟨p, hr, _⟩
  · rw [hs] at hr
    cases hr
    obtain ⟨a, c, rfl, _, hst⟩ := wrow_strs hrow
    exact ⟨a, c, rfl, hst, hB⟩
  · rw [hs] at hr; cases hr
theorem box_new (w : World) : Box2 (w.alloc (.cells #[.int .i64 0, .int .i64 0] 48)) w.heap.size (.int .i64 0) (.int .i64 0) := Box2.new _ _ _
end Go.Proofs.YtggnglgehobglaaGreatDoor
