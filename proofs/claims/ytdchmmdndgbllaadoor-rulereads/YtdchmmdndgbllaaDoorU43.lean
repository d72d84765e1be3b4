import Derived.Test.YtdchmmdndgbllaaDoorU28
import Derived.Test.YtdchmmdndgbllaaDoorU36
import Derived.Test.YtdchmmdndgbllaaDoorU41
import Derived.Test.YtdchmmdndgbllaaDoorU42
/- The document's Read. -/
namespace Go.Proofs.YtdchmmdndgbllaaDoor
open Go.RowKit Go.Shelf Go.Maps

attribute [local go_sem] Oper.semAt_some

theorem rd2_ret {W : World} {q : Nat} {u v0 v1 : Value} {a : Act} {P : Ending → World → Prop} (hs : Box2 W q v0 v1) (ha : a.tmps[2]?.getD undef = u) (hc : a.tmps[3]?.getD undef = .pointer (some ⟨q, 0, none⟩)) (hd : a.defers = []) (hP : P (.returned (.tuple #[u, .agg #[v0, v1]])) W) : bodyPost Tryd.prog Tryd.f15 P Exit.ret a W := by
  obtain ⟨c0, c1⟩ := hs.cell
  exact bodyPost_ret (v := .tuple #[u, .agg #[v0, v1]]) (by simp [results, Tryd.results15, go_sem, ha, hc, c0, c1]) hd hP
/-- between two lines: the rules so far -/
structure LR (w2 : World) (s : ByteArray) (k b : Nat) (rs : List Ru) (v : Value) (W : World) : Prop where
  row : W.ownsRow w2.heap.size 26 3 v rs.length (ruCells rs)
  bel : Below w2.heap.size w2 W
  gh : Gh s k rs b
theorem LR.below {w2 : World} {s : ByteArray} {k b : Nat} {rs : List Ru} {v : Value} {W W' : World} (h : LR w2 s k b rs v W) (hB : Below W.heap.size W W') : LR w2 s k b rs v W' :=
  ⟨row_movedR h.row (fun r hr => hB.block r (row_blockR h.row r hr).2.1), h.bel.trans (hB.mono h.bel.size), h.gh⟩
theorem words_or {s : ByteArray} {w W : World} {e : Ending} (h : RWPost s w e W) : ((∃ ws a c, wordsL (bs s) 0 = .ok ws ∧ e = .returned (.tuple #[.slice a ws.length c, .int .i64 (-1)]) ∧ Strs W a ws.length (ws.map mk)) ∨ (∃ p : Nat, wordsL (bs s) 0 = .error p ∧ e = .returned (.tuple #[.slice none 0 0, .int .i64 (p : Int)]))) ∧ Below w.heap.size w W := by
  obtain ⟨h | h, hB⟩ := h
  · obtain ⟨ws, v, h1, h2, h3, _⟩ := h
    obtain ⟨a, c, rfl, _, hS⟩ := wrow_strs h3
    exact ⟨.inl ⟨ws, a, c, h1, h2, hS⟩, hB⟩
  · exact ⟨.inr h, hB⟩
/-- the answer where a line is wrong -/
theorem doc_bad {w w2 W : World} {s : ByteArray} {er p : Nat} {a : Act} (hb : Box2 w2 w.heap.size (.int .i64 0) (.int .i64 0)) (hw : Below w.heap.size w w2) (hlt : w.heap.size < w2.heap.size) (hB : Below w2.heap.size w2 W) (hr : readT (bs s) = .error (er, p)) (ha : a.tmps[2]?.getD undef = .slice none 0 0) (hc : a.tmps[3]?.getD undef = .pointer (some ⟨w.heap.size, 0, none⟩)) (hd : a.defers = []) :
    bodyPost Tryd.prog Tryd.f15 (RPost s w) Exit.ret a ((W.setCell ⟨w.heap.size, 0, none⟩ (.int .i64 (er : Int))).setCell ⟨w.heap.size, 1, none⟩ (.int .i64 (p : Int))) := by
  have h1 : Box2 W w.heap.size (.int .i64 0) (.int .i64 0) := (hB.block _ hlt).trans hb
  have h2 : Below w.heap.size w W := hw.trans (hB.mono hw.size)
  refine rd2_ret (h1.all _ _) ha hc hd ⟨.inr ⟨er, p, hr, rfl⟩, ?_⟩
  exact (h2.setCell (p := ⟨w.heap.size, 0, none⟩) (Nat.le_refl _) _).setCell (p := ⟨w.heap.size, 1, none⟩) (Nat.le_refl _) _
theorem doc_ok {w w2 W : World} {s : ByteArray} {k b : Nat} {rs : List Ru} {v : Value} {a : Act} (hb : Box2 w2 w.heap.size (.int .i64 0) (.int .i64 0)) (hw : Below w.heap.size w w2) (hlt : w.heap.size < w2.heap.size) (h : LR w2 s k b rs v W) (hr : readT (bs s) = .ok rs) (ha : a.tmps[2]?.getD undef = v) (hc : a.tmps[3]?.getD undef = .pointer (some ⟨w.heap.size, 0, none⟩)) (hd : a.defers = []) :
    bodyPost Tryd.prog Tryd.f15 (RPost s w) Exit.ret a ((W.setCell ⟨w.heap.size, 0, none⟩ (.int .i64 0)).setCell ⟨w.heap.size, 1, none⟩ (.int .i64 0)) := by
  have h1 : Box2 W w.heap.size (.int .i64 0) (.int .i64 0) := (h.bel.block _ hlt).trans hb
  have h2 : Below w.heap.size w W := hw.trans (h.bel.mono hw.size)
  have r1 : (W.setCell ⟨w.heap.size, 0, none⟩ (.int .i64 0)).ownsRow w2.heap.size 26 3 v rs.length (ruCells rs) := row_movedR h.row (fun j hj => Below.heap_setCell _ _ _ _ (fun e => by have := (row_blockR h.row j hj).1; simp only at e; omega))
  have r2 : ((W.setCell ⟨w.heap.size, 0, none⟩ (.int .i64 0)).setCell ⟨w.heap.size, 1, none⟩ (.int .i64 0)).ownsRow w2.heap.size 26 3 v rs.length (ruCells rs) := row_movedR r1 (fun j hj => Below.heap_setCell _ _ _ _ (fun e => by have := (row_blockR r1 j hj).1; simp only at e; omega))
  refine rd2_ret (h1.all _ _) ha hc hd ⟨.inl ⟨rs, v, hr, rfl, row_baseR r2 (by omega)⟩, ?_⟩
  exact (h2.setCell (p := ⟨w.heap.size, 0, none⟩) (Nat.le_refl _) _).setCell (p := ⟨w.heap.size, 1, none⟩) (Nat.le_refl _) _

set_option maxRecDepth 100000 in
set_option maxHeartbeats 4000000 in
theorem rread13_any (s : ByteArray) (w : World) : Calls Tryd.prog 15 #[.string s] w (RPost s w) := by
  by_cases hlong : 131072 < s.size
  · have i1 : (131072 : Int) < s.size := by omega
    have HT0 : Hid (readT (bs s) = .error (3, 0)) := by
      show _ = _
      unfold readT
      rw [if_pos (by rw [bs_len]; exact hlong)]
    go_enter Tryd.func15, Tryd.ntmps15
    go_wp2
    refine rd2_ret (Box2.new w (.int .i64 3) (.int .i64 0)) rfl rfl rfl ⟨.inr ⟨3, 0, HT0.out, rfl⟩, (Below.refl _ w).alloc (Nat.le_refl _) _⟩
  · have i1 : ¬ (131072 : Int) < s.size := by omega
    have HT0 : Hid (readT (bs s) = readG (linesL (bs s)) [] 0) := by
      show _ = _
      unfold readT
      rw [if_neg (by rw [bs_len]; exact hlong)]
    have hln := fun W => rlines_any s W (by omega)
    have hB0 : Below w.heap.size w (w.alloc (.cells #[.int .i64 0, .int .i64 0] 35)) := (Below.refl _ w).alloc (Nat.le_refl _) _
    have hNl : (linesL (bs s)).length ≤ 131073 := by
      have := cutN_len (bs s) []
      unfold linesL
      rw [bs_len] at this; omega
    obtain ⟨i0, hi, hz0, hz1, hz2⟩ := info_parts infoRule
    go_enter Tryd.func15, Tryd.ntmps15
    go_wp2_with (go_at_call 29; refine (hln _).mono ?_; clear hln; rintro e w2 ⟨v6, rfl, hO⟩; obtain ⟨a6, c6, hv6, _, hS6⟩ := wrow_strs hO.row; subst hv6; have HO : Hid (Box2 w2 w.heap.size (.int .i64 0) (.int .i64 0) ∧ Below w.heap.size w w2 ∧ w.heap.size < w2.heap.size ∧ Strs w2 a6 (linesL (bs s)).length ((linesL (bs s)).map mk)) := ⟨(hO.bel.block _ (by simp)).trans (Box2.new w _ _), hB0.trans (hO.bel.mono (by simp)), Nat.lt_of_lt_of_le (by simp) hO.bel.size, hS6⟩; clear hO hS6 hB0)
    obtain ⟨N, hN⟩ : ∃ N, N = (linesL (bs s)).length := ⟨_, rfl⟩
    have HN : Hid (N = (linesL (bs s)).length) := hN
    rw [← hN] at hNl HO ⊢
    clear hN
    go_loopw [4, 5, 7] (fun v at_ i wr => ∃ (k b : Nat) (rs : List Ru) (ad : Option Addr) (cp : Nat), k ≤ N ∧ b ≤ 131073 ∧ i = .int .i64 (k : Int) ∧ at_ = .int .i64 (b : Int) ∧ v = .slice ad rs.length cp ∧ Hid (LR w2 s k b rs (.slice ad rs.length cp) wr)) (fun _ _ i _ => N - (intOf i).toNat)
    case atStart => exact ⟨0, 0, [], none, 0, Nat.zero_le _, Nat.zero_le _, rfl, rfl, rfl, World.ownsRow_nil _ _ _ _, Below.refl _ _, Gh.start s⟩
    case round =>
      obtain ⟨k, b, rs, ad, cp, hk, hb, rfl, rfl, rfl, H⟩ := hrel
      by_cases hlt : k < N
      · obtain ⟨l, hl⟩ : ∃ l, (linesL (bs s))[k]? = some l := ⟨_, List.getElem?_eq_getElem (by rw [← HN.out]; exact hlt)⟩
        have hll : l.length ≤ 131072 := by
          have h1 := back_next hl
          have h2 := backL_take (linesL (bs s)) (k + 1)
          have h3 := back_len (bs s)
          rw [bs_len] at h3
          omega
        obtain ⟨b6, o6, rfl, hc6⟩ := HO.out.2.2.2.2 (by omega)
        have t6 := hc6 k (mk l) (by rw [List.getElem?_map, hl]; rfl)
        have q6 := (H.out.bel.cell (p := ⟨b6, o6 + k, none⟩) (World.block_lt_of_cell? w2 _ t6)).trans t6
        have hwd := fun W => rwords_any (mk l) W (by rw [← bs_len, bs_mk]; omega)
        have i2 : (k : Int) < (N : Int) := by omega
        have i3 : ¬ N ≤ k := by omega
        have HL : Hid ((linesL (bs s))[k]? = some l) := hl
        have hml : (mk l).size = l.length := by rw [← bs_len, bs_mk]
        have hsm := H.out.gh.small
        clear hc6 hl
        obtain ⟨X, hX⟩ : ∃ X, mk l = X := ⟨_, rfl⟩
        have hXb : bs X = l := by rw [← hX, bs_mk]
        rw [hX] at q6 t6 hwd hml
        have HXb : Hid (bs X = l) := hXb
        have ixs : X.size ≤ 131072 := by omega
        clear hX hXb
        cases hwl : wordsL l 0 with
        | error p =>
          have HW : Hid (∀ W0 e W, RWPost X W0 e W → e = .returned (.tuple #[.slice none 0 0, .int .i64 (p : Int)]) ∧ Below W0.heap.size W0 W) := fun W0 e W h => by
            obtain ⟨h | h, hB⟩ := words_or h
            · obtain ⟨ws, a, c, h1, _⟩ := h; rw [HXb.out, hwl] at h1; cases h1
            · obtain ⟨p', h1, h2⟩ := h; rw [HXb.out, hwl] at h1; cases h1; exact ⟨h2, hB⟩
          have hg : lineG l = .error (150, p) := by unfold lineG; rw [hwl]
          have HR : Hid (readT (bs s) = .error (150, b + p)) := HT0.out.trans (H.out.gh.wrong HL.out hg)
          have hpl := (lineG_bad hg).2
          have i4 : (0 : Int) ≤ (p : Int) := by omega
          have HI : Hid ((b : Int) + (p : Int) ≤ 9223372036854775807) := by show _ ≤ _; omega
          clear hg hwl hi hz0 hz1 hz2 hsm hll hpl
          go_wp2_with (go_at_call 30; refine (hwd _).mono ?_; clear hwd; intro e w3 hp3; obtain ⟨rfl, hB3⟩ := HW.out _ _ _ hp3; have hB4 : Below w2.heap.size w2 w3 := H.out.bel.trans (hB3.mono H.out.bel.size); have HB4 : Hid (Below w2.heap.size w2 w3) := hB4; have bx : Box2 w3 w.heap.size (.int .i64 0) (.int .i64 0) := (hB4.block _ HO.out.2.2.1).trans HO.out.1; obtain ⟨x0, x1⟩ := bx.cell; obtain ⟨y0, y1⟩ := bx.frozen; have i5 := HI.out; clear hp3 hB3 hB4 bx HW)
          have hfin := fun a => doc_bad (a := a) HO.out.1 HO.out.2.1 HO.out.2.2.1 HB4.out HR.out
          simp only [Int.natCast_add] at hfin
          exact hfin _ rfl rfl rfl
        | ok ws =>
          have HW : Hid (∀ W0 e W, RWPost X W0 e W → ∃ a c, e = .returned (.tuple #[.slice a ws.length c, .int .i64 (-1)]) ∧ Strs W a ws.length (ws.map mk) ∧ Below W0.heap.size W0 W) := fun W0 e W h => by
            obtain ⟨h | h, hB⟩ := words_or h
            · obtain ⟨ws', a, c, h1, h2, h3⟩ := h; rw [HXb.out, hwl] at h1; cases h1; exact ⟨a, c, h2, h3, hB⟩
            · obtain ⟨p', h1, h2⟩ := h; rw [HXb.out, hwl] at h1; cases h1
          by_cases hw0 : ws = []
          · subst hw0
            have hg : lineG l = .ok none := by unfold lineG; rw [hwl]
            have HG2 : Hid (Gh s (k + 1) rs (b + l.length + 1)) := H.out.gh.quiet HL.out hg
            have HSm := HG2.out.small
            have HI : Hid ((b : Int) + (X.size : Int) ≤ 9223372036854775807 ∧ (b : Int) + (X.size : Int) + 1 ≤ 9223372036854775807) := ⟨by omega, by omega⟩
            have HE : Hid (((b + l.length + 1 : Nat) : Int) = (b : Int) + (X.size : Int) + 1 ∧ b + l.length + 1 ≤ 131073) := ⟨by omega, by omega⟩
            clear hg hwl hi hz0 hz1 hz2 hsm hll HSm
            go_wp2_with (go_at_call 30; refine (hwd _).mono ?_; clear hwd; intro e w3 hp3; obtain ⟨a3, c3, rfl, -, hB3⟩ := HW.out _ _ _ hp3; have HL4 : Hid (LR w2 s k b rs (.slice ad rs.length cp) w3) := H.out.below hB3; have q7 := (HL4.out.bel.cell (p := ⟨b6, o6 + k, none⟩) (World.block_lt_of_cell? w2 _ t6)).trans t6; obtain ⟨i5, i6⟩ := HI.out; clear hp3 hB3 HW)
            go_roundw
            case rel => exact ⟨k + 1, b + l.length + 1, rs, ad, cp, by omega, HE.out.2, by go_num, by rw [HE.out.1, hml], rfl, HL4.out.row, HL4.out.bel, HG2.out⟩
            case measure => simp [intOf]; omega
          · have hwl0 : 0 < ws.length := List.length_pos_iff.2 hw0
            have hwroom := words_room _ _ _ _ (Nat.le_refl _) hwl
            have hrl : Hid (∀ (W : World) (a : Option Addr) (c : Nat), Strs W a ws.length (ws.map mk) → Calls Tryd.prog 31 #[.slice a ws.length c] W (RRPost ws W)) := fun W a c h => rrule13_any ws a ws.length c W h (fun j => by have := words_short hwl j; omega) (by omega)
            have i4 : (0 : Int) < (ws.length : Int) := by omega
            cases hrw : ruleW ws with
            | none =>
              have hg : lineG l = .error (230, 0) := by
                unfold lineG; rw [hwl]
                cases ws with
                | nil => exact absurd rfl hw0
                | cons a0 b0 => show (match ruleW (a0 :: b0) with | none => _ | some x => _) = _; rw [hrw]
              have HR : Hid (readT (bs s) = .error (230, b)) := HT0.out.trans (H.out.gh.wrong HL.out hg)
              have HQ : Hid (∀ W0 e W, RRPost ws W0 e W → ∃ k f t, e = .returned (.tuple #[rv k f t, .bool false]) ∧ Below W0.heap.size W0 W) := fun W0 e W h => by
                obtain ⟨k, f, t, h1, _, hB⟩ := h
                rw [hrw] at h1
                exact ⟨k, f, t, h1, hB⟩
              clear hg hwl hi hz0 hz1 hz2 hsm hll hrw hwroom hwl0 hw0
              generalize ws.map mk = ms at *
              generalize ws.length = nw at *
              go_wp2_with first
                | (go_at_call 30; refine (hwd _).mono ?_; clear hwd; intro e w3 hp3; obtain ⟨a3, c3, rfl, hS3, hB3⟩ := HW.out _ _ _ hp3; have HL4 : Hid (LR w2 s k b rs (.slice ad rs.length cp) w3) := H.out.below hB3; have HS3 : Hid (Strs w3 a3 nw ms) := hS3; clear hp3 hB3 HW hS3)
                | (go_at_call 31; refine (hrl.out _ _ _ HS3.out).mono ?_; clear hrl; intro e w4 hp4; obtain ⟨rk, rf, rt, rfl, hB4⟩ := HQ.out _ _ _ hp4; have HB5 : Hid (Below w2.heap.size w2 (w4.alloc (.cells #[.int .i64 rk, .string rf, .string rt] 26))) := ((HL4.out.below hB4).bel.alloc ((HL4.out.below hB4).bel.size) _); have bx : Box2 (w4.alloc (.cells #[.int .i64 rk, .string rf, .string rt] 26)) w.heap.size (.int .i64 0) (.int .i64 0) := (HB5.out.block _ HO.out.2.2.1).trans HO.out.1; obtain ⟨x0, x1⟩ := bx.cell; obtain ⟨y0, y1⟩ := bx.frozen; clear hp4 hB4 bx HQ)
              exact doc_bad HO.out.1 HO.out.2.1 HO.out.2.2.1 HB5.out HR.out rfl rfl rfl
            | some r =>
              have hg : lineG l = .ok (some r) := by
                unfold lineG; rw [hwl]
                cases ws with
                | nil => exact absurd rfl hw0
                | cons a0 b0 => show (match ruleW (a0 :: b0) with | none => _ | some x => _) = _; rw [hrw]
              have HQ : Hid (∀ W0 e W, RRPost ws W0 e W → e = .returned (.tuple #[ruV r, .bool true]) ∧ Below W0.heap.size W0 W) := fun W0 e W h => by
                obtain ⟨k, f, t, h1, h2, hB⟩ := h
                have h3 := h2 r hrw
                rw [hrw, h3] at h1
                exact ⟨h1, hB⟩
              obtain ⟨rk, rf, rt⟩ := r
              have hlen64 := H.out.gh.len
              by_cases h64 : rs.length = 64
              · have HR : Hid (readT (bs s) = .error (3, b)) := HT0.out.trans (H.out.gh.full HL.out hg h64)
                have i64 : (64 : Int) ≤ (rs.length : Int) := by omega
                clear hg hwl hi hz0 hz1 hz2 hsm hll hrw hwroom hwl0 hw0 hlen64 h64
                generalize ws.map mk = ms at *
                generalize ws.length = nw at *
                go_wp2_with first
                  | (go_at_call 30; refine (hwd _).mono ?_; clear hwd; intro e w3 hp3; obtain ⟨a3, c3, rfl, hS3, hB3⟩ := HW.out _ _ _ hp3; have HL4 : Hid (LR w2 s k b rs (.slice ad rs.length cp) w3) := H.out.below hB3; have HS3 : Hid (Strs w3 a3 nw ms) := hS3; clear hp3 hB3 HW hS3)
                  | (go_at_call 31; refine (hrl.out _ _ _ HS3.out).mono ?_; clear hrl; intro e w4 hp4; obtain ⟨rfl, hB4⟩ := HQ.out _ _ _ hp4; have HB5 : Hid (Below w2.heap.size w2 (w4.alloc (.cells #[.int .i64 rk, .string (mk rf), .string (mk rt)] 26))) := ((HL4.out.below hB4).bel.alloc ((HL4.out.below hB4).bel.size) _); have bx : Box2 (w4.alloc (.cells #[.int .i64 rk, .string (mk rf), .string (mk rt)] 26)) w.heap.size (.int .i64 0) (.int .i64 0) := (HB5.out.block _ HO.out.2.2.1).trans HO.out.1; obtain ⟨x0, x1⟩ := bx.cell; obtain ⟨y0, y1⟩ := bx.frozen; clear hp4 hB4 bx HQ)
                exact doc_bad (er := 3) HO.out.1 HO.out.2.1 HO.out.2.2.1 HB5.out HR.out rfl rfl rfl
              · have HG2 : Hid (Gh s (k + 1) (rs ++ [(rk, rf, rt)]) (b + l.length + 1)) := H.out.gh.rule HL.out hg h64
                have HSm := HG2.out.small
                have i64 : ¬ (64 : Int) ≤ (rs.length : Int) := by omega
                have HI : Hid ((b : Int) + (X.size : Int) ≤ 9223372036854775807 ∧ (b : Int) + (X.size : Int) + 1 ≤ 9223372036854775807) := ⟨by omega, by omega⟩
                have HE : Hid (((b + l.length + 1 : Nat) : Int) = (b : Int) + (X.size : Int) + 1 ∧ b + l.length + 1 ≤ 131073) := ⟨by omega, by omega⟩
                have hle : Hid (rs.length ≤ 64) := hlen64
                obtain ⟨n1, hn1⟩ : ∃ n1, rs.length + 1 = n1 := ⟨_, rfl⟩
                have HN1 : Hid (rs.length + 1 = n1) := hn1
                clear hg hwl hsm hll hrw hwroom hwl0 hw0 hlen64 h64 HSm hn1
                generalize ws.map mk = ms at *
                generalize ws.length = nw at *
                go_wp2_with first
                  | (go_at_call 30; refine (hwd _).mono ?_; clear hwd; intro e w3 hp3; obtain ⟨a3, c3, rfl, hS3, hB3⟩ := HW.out _ _ _ hp3; have HL4 : Hid (LR w2 s k b rs (.slice ad rs.length cp) w3) := H.out.below hB3; have HS3 : Hid (Strs w3 a3 nw ms) := hS3; clear hp3 hB3 HW hS3)
                  | (go_at_call 31; refine (hrl.out _ _ _ HS3.out).mono ?_; clear hrl; intro e w4 hp4; obtain ⟨rfl, hB4⟩ := HQ.out _ _ _ hp4; have HL5 : Hid (LR w2 s k b rs (.slice ad rs.length cp) (w4.alloc (.cells #[.int .i64 rk, .string (mk rf), .string (mk rt)] 26))) := (HL4.out.below hB4).below ((Below.refl _ _).alloc (Nat.le_refl _) _); clear hp4 hB4 HQ)
                  | (at_builtin; refine wpList_append_own_at _ rfl _ _ 22 rfl w2.heap.size 26 i0 _ 3 40 Tryd.underlying22 hi hz0 hz1 hz2 rfl (by decide) _ _ _ rfl (HL5.out.row.alloc _) ⟨_, 0, none⟩ 1 1 (ruCells [(rk, rf, rt)]) rfl rfl (cells_ru_at _ rk rf rt _ (by simp)) (ruCells_one _) (by have := hle.out; unfold maxLen; omega) (by have := hle.out; omega) (by have h5 := HL5.out.bel.size; simp at h5 ⊢; omega) ?_; intro v' W4 hown' hgrow _ _; have hB6 : Below w2.heap.size w2 W4 := (HL5.out.bel.alloc HL5.out.bel.size _).trans (below_grR (HL5.out.row.alloc _) (by have h5 := HL5.out.bel.size; simp at h5 ⊢; omega) hgrow); have HB6 : Hid (Below w2.heap.size w2 W4) := hB6; have HRow : Hid (W4.ownsRow w2.heap.size 26 3 v' (rs.length + 1) (ruCells rs ++ ruCells [(rk, rf, rt)])) := hown'; rw [HN1.out] at hown' HRow; obtain ⟨ad', cp', hv', -⟩ := row_shapeR hown'; subst hv'; have q7 := (hB6.cell (p := ⟨b6, o6 + k, none⟩) (World.block_lt_of_cell? w2 _ t6)).trans t6; obtain ⟨i5, i6⟩ := HI.out; clear hown' hgrow hB6)
                go_roundw
                case rel =>
                  refine ⟨k + 1, b + l.length + 1, rs ++ [(rk, rf, rt)], ad', cp', by omega, HE.out.2, by go_num, by rw [HE.out.1, hml], by rw [List.length_append, List.length_singleton, HN1.out], ?_, HB6.out, HG2.out⟩
                  rw [List.length_append, List.length_singleton, HN1.out, ruCells_append]
                  exact HRow.out
                case measure => simp [intOf]; omega
      · obtain rfl : k = N := by omega
        have i2 : ¬ (k : Int) < (k : Int) := by omega
        have HR : Hid (readT (bs s) = .ok rs) := HT0.out.trans (H.out.gh.done HN.out.symm)
        have bx : Box2 wr w.heap.size (.int .i64 0) (.int .i64 0) := (H.out.bel.block _ HO.out.2.2.1).trans HO.out.1
        obtain ⟨x0, x1⟩ := bx.cell
        obtain ⟨y0, y1⟩ := bx.frozen
        clear bx hi hz0 hz1 hz2
        go_wp2
        exact doc_ok HO.out.1 HO.out.2.1 HO.out.2.2.1 H.out HR.out rfl rfl rfl
end Go.Proofs.YtdchmmdndgbllaaDoor
