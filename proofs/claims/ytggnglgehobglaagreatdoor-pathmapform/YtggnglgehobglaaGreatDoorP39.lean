import Derived.Test.YtggnglgehobglaaGreatDoorP38
import Derived.Test.YtggnglgehobglaaGreatDoorP08
import Derived.WalkMore
/- The walk of Words: labels, and jumps among them. -/
namespace Go.Proofs.YtggnglgehobglaaGreatDoor
open Go.RowKit

theorem infoString : (Tryz.prog.info? 9).map (fun i => (i.zero, i.size, i.bytes)) = some (some (.string ⟨#[]⟩), 1, 16) := by kernel_rfl

theorem ends_any (s : ByteArray) (k : Nat) (w : World) (hs : s.size ≤ maxLen) (hk : k ≤ s.size) :
    Calls Tryz.prog 89 #[.string s, .int .i64 (k : Int)] w fun e w' => e = .returned (.bool (endsL ((bs s).drop k))) ∧ w' = w := by
  have hs' : s.size ≤ 9223372036854775807 := by unfold maxLen at hs; omega
  by_cases h : k = s.size
  · subst h
    have hE : endsL ((bs s).drop s.size) = true := by rw [List.drop_eq_nil_of_le (by rw [bs_len]; exact Nat.le_refl _)]; rfl
    rw [hE]
    go_enter Tryz.func89, Tryz.ntmps89
    go_wp2
    go_ret
    exact ⟨rfl, rfl⟩
  · have ib : ((k : Int) == (s.size : Int)) = false := beq_eq_false_iff_ne.2 (by omega)
    have i2 : (k : Int) < s.size := by omega
    have hlt : k < s.size := by omega
    obtain ⟨c, hc⟩ : ∃ c, s[k]'hlt = c := ⟨_, rfl⟩
    have hE : endsL ((bs s).drop k) = decide (c = 32) := by
      unfold endsL
      rw [getD_drop, Nat.add_zero, ← at_bs s k hlt, hc, decide_eq_false (drop_ne _ _ (by rw [bs_len]; exact hlt)), Bool.false_or]
    rw [hE]
    clear hE
    by_cases h3 : c = 32
    · subst h3
      go_enter Tryz.func89, Tryz.ntmps89
      go_wp2
      go_ret
      exact ⟨rfl, rfl⟩
    · have hb : ((c.toNat : Int) == 32) = false := beq_eq_false_iff_ne.2 (fun e => h3 (UInt8.toNat_inj.1 (by show _ = 32; omega)))
      rw [decide_eq_false h3]
      go_enter Tryz.func89, Tryz.ntmps89
      go_wp2
      go_ret
      exact ⟨rfl, rfl⟩

def wcell (x : List UInt8) : Value := Value.string (mk x)
def wcells (ws : List (List UInt8)) : List Value := ws.map wcell
theorem wcells_len (ws : List (List UInt8)) : (wcells ws).length = ws.length := by simp [wcells]

/-- what lies in memory between the jumps -/
structure WS (w : World) (v : Value) (acc : List (List UInt8)) (W : World) : Prop where
  box : Box2 W w.heap.size (.int .i64 0) (.int .i64 0)
  row : W.ownsRow (w.heap.size + 1) 9 1 v acc.length (wcells acc)
  bel : Below w.heap.size w W
theorem WS.below {w W W' : World} {v : Value} {acc : List (List UInt8)} (h : WS w v acc W) (hb : Below W.heap.size W W') : WS w v acc W' :=
  ⟨h.box.kept hb, h.row.kept (row := none) ⟨hb.os, hb.tape, hb.output, hb.size, fun k hk _ => hb.block k hk⟩ (by cases v.ownBlock <;> simp), h.bel.trans (hb.mono h.bel.size)⟩
theorem WS.alloc {w W : World} {v : Value} {acc : List (List UInt8)} (h : WS w v acc W) (o : Obj) : WS w v acc (W.alloc o) := h.below ((Below.refl _ _).alloc (Nat.le_refl _) _)
theorem WS.lt {w W : World} {v : Value} {acc : List (List UInt8)} (h : WS w v acc W) : w.heap.size + 1 ≤ W.heap.size := h.box.lt
theorem WS.grown {w W W' : World} {v v' : Value} {acc : List (List UInt8)} {x : List UInt8} (h : WS w v acc W) (hg : W.grownBy W' v.ownBlock) (hr : W'.ownsRow (w.heap.size + 1) 9 1 v' (acc.length + 1) (wcells acc ++ [wcell x])) : WS w v' (acc ++ [x]) W' := by
  have hne : some w.heap.size ≠ v.ownBlock := fun e => by have := (row_block h.row _ e.symm).1; omega
  refine ⟨(hg.block _ h.box.lt hne).trans h.box, ?_, h.bel.grown hg h.bel.size (fun k hk => by have := (row_block h.row k hk).1; omega)⟩
  rw [List.length_append, show wcells (acc ++ [x]) = wcells acc ++ [wcell x] by simp [wcells]]
  exact hr

/-- the frame at a label -/
abbrev fr (u : Nat → Value) (line v word right b at_ p : Value) : Act := { tmps := #[line, undef, .slice none 0 0, p, v, word, right, b, at_, u 9, u 10, u 11, u 12, u 13, u 14, u 15, u 16, u 17, u 18, u 19, u 20, u 21, u 22, u 23, u 24, u 25, u 26, u 27, u 28, u 29, u 30, u 31, u 32, u 33, u 34, u 35, u 36, u 37, u 38, u 39, u 40, u 41, u 42, u 43, u 44, u 45, u 46, u 47, u 48, u 49, u 50, u 51, u 52, u 53, u 54, u 55, u 56, u 57, u 58, u 59, u 60, u 61, u 62, u 63, u 64, u 65, u 66, u 67, u 68, u 69, u 70, u 71, u 72, u 73, u 74, u 75, u 76, u 77, u 78, u 79, u 80, u 81, u 82, u 83, u 84, u 85, u 86], defers := [] }
theorem fr_of {line v word right b at_ p : Value} (a : Act) (h : a = fr (fun k => a.tmps.getD k undef) line v word right b at_ p) : ∃ u, a = fr u line v word right b at_ p := ⟨_, h⟩

/-- what holds at the labels -/
def WJ (s : ByteArray) (w : World) (l : Nat) (a : Act) (W : World) : Prop :=
  ∃ (v word right : Value) (b at_ : Nat) (acc : List (List UInt8)), (∃ u, a = fr u (.string s) v word right (.int .i64 (b : Int)) (.int .i64 (at_ : Int)) (.pointer (some ⟨w.heap.size, 0, none⟩))) ∧ WS w v acc W ∧ acc.length ≤ at_ ∧ at_ ≤ s.size + 1 ∧
    ((l = 0 ∧ W0 (bs s) acc at_) ∨ (l = 1 ∧ W1 (bs s) acc b at_) ∨ (l = 2 ∧ W2 (bs s) acc b at_) ∨
     (l = 3 ∧ acc.length + 1 ≤ at_ ∧ ∃ wd rt, word = .string (mk wd) ∧ right = .bool rt ∧ W3 (bs s) acc wd rt b at_) ∨ (l = 4 ∧ wordsL (bs s) 0 = .error b))
def rank (l : Nat) : Nat := if l = 3 then 4 else if l = 0 then 3 else if l = 4 then 0 else 2
def wmeas (s : ByteArray) (l : Nat) (a : Act) (_ : World) : Nat := 8 * (s.size + 2 - (intOf (a.tmps.getD 8 undef)).toNat) + rank l

/-- what Words answers -/
def WordsPost (s : ByteArray) (w : World) (e : Ending) (w' : World) : Prop :=
  ((∃ ws v, wordsL (bs s) 0 = .ok ws ∧ e = .returned (.tuple #[v, .agg #[.int .i64 0, .int .i64 0]]) ∧ w'.ownsRow (w.heap.size + 1) 9 1 v ws.length (wcells ws)) ∨
   (∃ p : Nat, wordsL (bs s) 0 = .error p ∧ e = .returned (.tuple #[.slice none 0 0, .agg #[.int .i64 150, .int .i64 (p : Int)]]))) ∧ Below w.heap.size w w'

theorem jumps_forget {J : Nat → Act → World → Prop} {K : Nat → Act → World → Prop} {Q : Exit → Act → World → Prop} (e : Exit) (a : Act) (w : World) (h : jumps (fun l a w => J l a w ∧ K l a w) Q e a w) : jumps J Q e a w := by
  cases e with
  | goto l => exact h.1
  | _ => exact h
theorem words_gen {s : ByteArray} {w : World} {Q : Exit → Act → World → Prop} (c : Code) (H : ∀ a W, WJ s w 0 a W → Code.wp Tryz.prog c (jumps (fun l' a' w' => WJ s w l' a' w' ∧ wmeas s l' a' w' < wmeas s 0 a W) Q) a W) (a : Act) (W : World) (h : WJ s w 0 a W) : Code.wp Tryz.prog c (jumps (WJ s w) Q) a W :=
  wp_mono (H a W h) (fun e a w h => jumps_forget e a w h)
theorem set_grown (W : World) (b o : Nat) (v : Value) : W.grownBy (W.setCell ⟨b, o, none⟩ v) (some b) :=
  ⟨rfl, rfl, rfl, by simp [World.setCell], fun k _ hk => Below.heap_setCell _ _ _ _ (fun e => hk (by rw [e]))⟩
theorem below_of_drew {W X : World} (h : Below W.drew.heap.size W.drew X) : Below W.heap.size W X := ⟨h.os, h.tape, h.output, h.size, h.block⟩
theorem ws_start (w : World) : WS w (.slice none 0 0) [] (w.alloc (.cells #[.int .i64 0, .int .i64 0] 48)) :=
  ⟨Box2.new _ _ _, World.ownsRow_nil _ _ _ _, (Below.refl _ w).alloc (Nat.le_refl _) _⟩

theorem words_ok {s : ByteArray} {w W : World} {v : Value} {acc : List (List UInt8)} {a : Act} (h : WS w v acc W) (hr : wordsL (bs s) 0 = .ok acc) (h2 : a.tmps[2]?.getD undef = v) (h3 : a.tmps[3]?.getD undef = .pointer (some ⟨w.heap.size, 0, none⟩)) (hd : a.defers = []) :
    bodyPost Tryz.prog Tryz.f70 (WordsPost s w) Exit.ret a ((W.setCell ⟨w.heap.size, 0, none⟩ (.int .i64 0)).setCell ⟨w.heap.size, 1, none⟩ (.int .i64 0)) := by
  have hb := h.box.all (.int .i64 0) (.int .i64 0)
  obtain ⟨c0, c1⟩ := hb.cell
  have hne : v.ownBlock ≠ some w.heap.size := fun e => by have := (row_block h.row _ e).1; omega
  refine bodyPost_ret (v := .tuple #[v, .agg #[.int .i64 0, .int .i64 0]]) (by simp [results, Tryz.results70, go_sem, h2, h3, c0, c1]) hd ⟨.inl ⟨acc, v, hr, rfl, ?_⟩, ?_⟩
  · exact (h.row.kept (set_grown W w.heap.size 0 _) (.inr hne)).kept (set_grown _ w.heap.size 1 _) (.inr hne)
  · exact (h.bel.setCell (p := ⟨w.heap.size, 0, none⟩) (Nat.le_refl _) _).setCell (p := ⟨w.heap.size, 1, none⟩) (Nat.le_refl _) _
theorem words_err {s : ByteArray} {w W : World} {v : Value} {acc : List (List UInt8)} {a : Act} {b : Nat} (h : WS w v acc W) (hr : wordsL (bs s) 0 = .error b) (h2 : a.tmps[2]?.getD undef = .slice none 0 0) (h3 : a.tmps[3]?.getD undef = .pointer (some ⟨w.heap.size, 0, none⟩)) (hd : a.defers = []) :
    bodyPost Tryz.prog Tryz.f70 (WordsPost s w) Exit.ret a ((W.setCell ⟨w.heap.size, 0, none⟩ (.int .i64 150)).setCell ⟨w.heap.size, 1, none⟩ (.int .i64 (b : Int))) := by
  have hb := h.box.all (.int .i64 150) (.int .i64 (b : Int))
  obtain ⟨c0, c1⟩ := hb.cell
  refine bodyPost_ret (v := .tuple #[.slice none 0 0, .agg #[.int .i64 150, .int .i64 (b : Int)]]) (by simp [results, Tryz.results70, go_sem, h2, h3, c0, c1]) hd ⟨.inr ⟨b, hr, rfl⟩, ?_⟩
  exact (h.bel.setCell (p := ⟨w.heap.size, 0, none⟩) (Nat.le_refl _) _).setCell (p := ⟨w.heap.size, 1, none⟩) (Nat.le_refl _) _

set_option maxRecDepth 20000 in
set_option maxHeartbeats 4000000 in
theorem words_any (s : ByteArray) (w : World) (hT : Tabs w) (hs : s.size ≤ 2199023255552) :
    Calls Tryz.prog 70 #[.string s] w (WordsPost s w) := by
  have hs' : s.size ≤ 9223372036854775807 := by omega
  have hl := bs_len s
  obtain ⟨i0, hi0, hz0, hz1, hz2⟩ := info_parts infoString
  go_enter Tryz.func70, Tryz.ntmps70
  go_wp2
  refine wp_scope_many (WJ s w) (wmeas s) ?_ ?_
  · go_wp2
    go_step3
    rename_i hcode
    refine hcode _ _ ?_
    clear hcode
    refine words_gen _ ?_ _ _ ⟨_, _, _, 0, 0, [], fr_of _ rfl, ws_start w, by simp, by omega, .inl ⟨rfl, ⟨by omega, (addW_nil _).symm⟩⟩⟩
    rintro a W ⟨v, word, right, b, at_, acc, ⟨u, rfl⟩, hS, hac, hat, hC⟩
    rcases hC with ⟨_, h⟩ | ⟨h, _⟩ | ⟨h, _⟩ | ⟨h, _⟩ | ⟨h, _⟩
    · have HT : Hid (Tabs W) := hT.below hS.bel
      have HS : Hid (∀ X, Below W.heap.size W X → WS w v acc X) := fun X hX => hS.below hX
      obtain ⟨c0, c1⟩ := hS.box.cell
      obtain ⟨f0, f1⟩ := hS.box.frozen
      have HBx : Hid (WS w v acc W) := hS
      have hat2 := h.le
      clear hS
      by_cases hz : at_ = s.size
      · have HX : Hid (wordsL (bs s) 0 = .ok acc) := h.stop (.inl (by omega))
        have iz : ((at_ : Int) == (s.size : Int)) = true := by rw [hz]; simp
        clear h
        go_wp2
        exact words_ok HBx.out HX.out rfl rfl rfl
      · have iz : ((at_ : Int) == (s.size : Int)) = false := beq_eq_false_iff_ne.2 (by omega)
        have hlt : at_ < s.size := by omega
        have ilt : (at_ : Int) < s.size := by omega
        obtain ⟨c, hc⟩ : ∃ c, s[at_]'hlt = c := ⟨_, rfl⟩
        have HC : Hid ((bs s).getD at_ 0 = c) := by show _ = _; rw [← at_bs s at_ hlt, hc]
        by_cases h35 : c = 35
        · have HX : Hid (wordsL (bs s) 0 = .ok acc) := h.stop (.inr ⟨by omega, by rw [HC.out, h35]⟩)
          subst h35
          clear h
          go_wp2
          exact words_ok HBx.out HX.out rfl rfl rfl
        · have b35 : ((c.toNat : Int) == 35) = false := beq_eq_false_iff_ne.2 (fun e => h35 (UInt8.toNat_inj.1 (by show _ = 35; omega)))
          by_cases h32 : c = 32
          · have HX : Hid (W0 (bs s) acc (at_ + 1)) := h.blank (by omega) (by rw [HC.out, h32])
            have Hen : Hid (((at_ : Int) + 1) = ((at_ + 1 : Nat) : Int)) := by show _ = _; omega
            subst h32
            clear h
            go_wp2
            go_step3
            rw [Hen.out]
            exact ⟨⟨_, _, _, b, at_ + 1, acc, fr_of _ rfl, HBx.out, by omega, by omega, .inl ⟨rfl, HX.out⟩⟩, by simp [wmeas, rank, intOf]; omega⟩
          · have b32 : ((c.toNat : Int) == 32) = false := beq_eq_false_iff_ne.2 (fun e => h32 (UInt8.toNat_inj.1 (by show _ = 32; omega)))
            by_cases h34 : c = 34
            · have HX : Hid (W1 (bs s) acc at_ at_) := h.quote (by omega) (by rw [HC.out, h34])
              subst h34
              clear h
              go_wp2
              go_step3
              exact ⟨⟨_, _, _, at_, at_, acc, fr_of _ rfl, HBx.out, by omega, by omega, .inr (.inl ⟨rfl, HX.out⟩)⟩, by simp [wmeas, rank, intOf]⟩
            · have b34 : ((c.toNat : Int) == 34) = false := beq_eq_false_iff_ne.2 (fun e => h34 (UInt8.toNat_inj.1 (by show _ = 34; omega)))
              have hW2 : Hid (W2 (bs s) acc at_ at_) := h.plain (by omega) (by rw [HC.out]; exact h35) (by rw [HC.out]; exact h32) (by rw [HC.out]; exact h34)
              clear h h35 h32 h34
              have hlt2 := hW2.out.lt
              have hba := hW2.out.ba
              have ex : (s.extract at_ (at_ + 1)).size ≤ maxLen := by unfold maxLen; simp; omega
              have eb : bs (s.extract at_ (at_ + 1)) = ((bs s).drop at_).take (at_ + 1 - at_) := by rw [bs_extract, List.drop_take]
              have hpl := fun X hX => qplain_any (s.extract at_ (at_ + 1)) X hX ex
              rw [eb] at hpl
              have hen := fun X => ends_any s (at_ + 1) X (by unfold maxLen; omega) (by omega)
              have Hen : Hid (((at_ : Int) + 1) = ((at_ + 1 : Nat) : Int)) := by show _ = _; omega
              have tn : (((at_ : Int) + 1)).toNat = at_ + 1 := by omega
              have i7 : (at_ : Int) + 1 ≤ 9223372036854775807 := by omega
              have i8 : (at_ : Int) ≤ (at_ : Int) + 1 := by omega
              have i9 : (at_ : Int) + 1 ≤ s.size := by omega
              rw [← Hen.out] at hen
              cases hE : endsL ((bs s).drop (at_ + 1)) with
              | false =>
                rw [hE] at hen
                have HX : Hid (W2 (bs s) acc at_ (at_ + 1)) := by
                  have h1 : at_ + 1 < (bs s).length := by
                    by_cases e : at_ + 1 < (bs s).length
                    · exact e
                    · rw [List.drop_eq_nil_of_le (by omega)] at hE; cases hE
                  refine hW2.out.go h1 (fun e => ?_)
                  unfold endsL at hE
                  rw [getD_drop, Nat.add_zero, e] at hE
                  simp at hE
                clear hpl eb hW2
                go_wp2
                go_step3
                go_wp2_with (go_at_call 89; refine (hen _).mono ?_; rintro e w' ⟨rfl, rfl⟩)
                go_step3
                rw [Hen.out]
                exact ⟨⟨_, _, _, at_, at_ + 1, acc, fr_of _ rfl, HS.out _ (Below.refl _ _), by omega, by omega, .inr (.inr (.inl ⟨rfl, HX.out⟩))⟩, by simp [wmeas, rank, intOf]; omega⟩
              | true =>
                rw [hE] at hen
                have HX : Hid (W3 (bs s) acc (((bs s).drop at_).take (at_ + 1 - at_)) (plainL (((bs s).drop at_).take (at_ + 1 - at_))) at_ (at_ + 1)) := by
                  refine hW2.out.ends ?_
                  unfold endsL at hE
                  rw [getD_drop, Nat.add_zero] at hE
                  by_cases e : at_ + 1 < (bs s).length
                  · right
                    refine ⟨e, ?_⟩
                    rw [decide_eq_false (drop_ne _ _ e)] at hE
                    simpa using hE
                  · left; omega
                obtain ⟨Z, hZ⟩ : ∃ Z, Z = ((bs s).drop at_).take (at_ + 1 - at_) := ⟨_, rfl⟩
                rw [← hZ] at HX hpl eb
                have hmk : s.extract at_ (at_ + 1) = mk Z := by rw [← eb, mk_bs]
                have HM : Hid (s.extract at_ (at_ + 1) = mk Z) := hmk
                obtain ⟨R, hR⟩ : ∃ R, R = plainL Z := ⟨_, rfl⟩
                rw [← hR] at HX hpl
                clear hZ hR hW2 eb hmk
                go_wp2
                go_step3
                go_wp2_with (go_at_call 89; refine (hen _).mono ?_; rintro e w' ⟨rfl, rfl⟩)
                go_region_held3 (fun _ => True)
                  (trivial)
                  (first
                    | (go_at_call 90; refine (hpl _ (by exact HT.out)).mono ?_; rintro e w3 ⟨rfl, hB3⟩))
                all_goals go_wp2
                all_goals go_step3
                all_goals rw [Hen.out, HM.out]
                all_goals exact ⟨⟨_, _, _, at_, at_ + 1, acc, fr_of _ rfl, HS.out _ (below_of_drew hB3), by omega, by omega, .inr (.inr (.inr (.inl ⟨rfl, by omega, _, _, rfl, rfl, HX.out⟩)))⟩, by simp [wmeas, rank, intOf]; omega⟩
    · cases h
    · cases h
    · cases h
    · cases h
  · rintro l a W ⟨v, word, right, b, at_, acc, ⟨u, rfl⟩, hS, hac, hat, hC⟩
    rcases hC with ⟨rfl, h⟩ | ⟨rfl, h⟩ | ⟨rfl, h⟩ | ⟨rfl, ha1, wd, rt, rfl, rfl, h⟩ | ⟨rfl, h⟩
    · refine ⟨_, rfl, ?_⟩
      have HT : Hid (Tabs W) := hT.below hS.bel
      have HS : Hid (∀ X, Below W.heap.size W X → WS w v acc X) := fun X hX => hS.below hX
      obtain ⟨c0, c1⟩ := hS.box.cell
      obtain ⟨f0, f1⟩ := hS.box.frozen
      have HBx : Hid (WS w v acc W) := hS
      have hat2 := h.le
      clear hS
      by_cases hz : at_ = s.size
      · have HX : Hid (wordsL (bs s) 0 = .ok acc) := h.stop (.inl (by omega))
        have iz : ((at_ : Int) == (s.size : Int)) = true := by rw [hz]; simp
        clear h
        go_wp2
        exact words_ok HBx.out HX.out rfl rfl rfl
      · have iz : ((at_ : Int) == (s.size : Int)) = false := beq_eq_false_iff_ne.2 (by omega)
        have hlt : at_ < s.size := by omega
        have ilt : (at_ : Int) < s.size := by omega
        obtain ⟨c, hc⟩ : ∃ c, s[at_]'hlt = c := ⟨_, rfl⟩
        have HC : Hid ((bs s).getD at_ 0 = c) := by show _ = _; rw [← at_bs s at_ hlt, hc]
        by_cases h35 : c = 35
        · have HX : Hid (wordsL (bs s) 0 = .ok acc) := h.stop (.inr ⟨by omega, by rw [HC.out, h35]⟩)
          subst h35
          clear h
          go_wp2
          exact words_ok HBx.out HX.out rfl rfl rfl
        · have b35 : ((c.toNat : Int) == 35) = false := beq_eq_false_iff_ne.2 (fun e => h35 (UInt8.toNat_inj.1 (by show _ = 35; omega)))
          by_cases h32 : c = 32
          · have HX : Hid (W0 (bs s) acc (at_ + 1)) := h.blank (by omega) (by rw [HC.out, h32])
            have Hen : Hid (((at_ : Int) + 1) = ((at_ + 1 : Nat) : Int)) := by show _ = _; omega
            subst h32
            clear h
            go_wp2
            go_step3
            rw [Hen.out]
            exact ⟨⟨_, _, _, b, at_ + 1, acc, fr_of _ rfl, HBx.out, by omega, by omega, .inl ⟨rfl, HX.out⟩⟩, by simp [wmeas, rank, intOf]; omega⟩
          · have b32 : ((c.toNat : Int) == 32) = false := beq_eq_false_iff_ne.2 (fun e => h32 (UInt8.toNat_inj.1 (by show _ = 32; omega)))
            by_cases h34 : c = 34
            · have HX : Hid (W1 (bs s) acc at_ at_) := h.quote (by omega) (by rw [HC.out, h34])
              subst h34
              clear h
              go_wp2
              go_step3
              exact ⟨⟨_, _, _, at_, at_, acc, fr_of _ rfl, HBx.out, by omega, by omega, .inr (.inl ⟨rfl, HX.out⟩)⟩, by simp [wmeas, rank, intOf]⟩
            · have b34 : ((c.toNat : Int) == 34) = false := beq_eq_false_iff_ne.2 (fun e => h34 (UInt8.toNat_inj.1 (by show _ = 34; omega)))
              have hW2 : Hid (W2 (bs s) acc at_ at_) := h.plain (by omega) (by rw [HC.out]; exact h35) (by rw [HC.out]; exact h32) (by rw [HC.out]; exact h34)
              clear h h35 h32 h34
              have hlt2 := hW2.out.lt
              have hba := hW2.out.ba
              have ex : (s.extract at_ (at_ + 1)).size ≤ maxLen := by unfold maxLen; simp; omega
              have eb : bs (s.extract at_ (at_ + 1)) = ((bs s).drop at_).take (at_ + 1 - at_) := by rw [bs_extract, List.drop_take]
              have hpl := fun X hX => qplain_any (s.extract at_ (at_ + 1)) X hX ex
              rw [eb] at hpl
              have hen := fun X => ends_any s (at_ + 1) X (by unfold maxLen; omega) (by omega)
              have Hen : Hid (((at_ : Int) + 1) = ((at_ + 1 : Nat) : Int)) := by show _ = _; omega
              have tn : (((at_ : Int) + 1)).toNat = at_ + 1 := by omega
              have i7 : (at_ : Int) + 1 ≤ 9223372036854775807 := by omega
              have i8 : (at_ : Int) ≤ (at_ : Int) + 1 := by omega
              have i9 : (at_ : Int) + 1 ≤ s.size := by omega
              rw [← Hen.out] at hen
              cases hE : endsL ((bs s).drop (at_ + 1)) with
              | false =>
                rw [hE] at hen
                have HX : Hid (W2 (bs s) acc at_ (at_ + 1)) := by
                  have h1 : at_ + 1 < (bs s).length := by
                    by_cases e : at_ + 1 < (bs s).length
                    · exact e
                    · rw [List.drop_eq_nil_of_le (by omega)] at hE; cases hE
                  refine hW2.out.go h1 (fun e => ?_)
                  unfold endsL at hE
                  rw [getD_drop, Nat.add_zero, e] at hE
                  simp at hE
                clear hpl eb hW2
                go_wp2
                go_step3
                go_wp2_with (go_at_call 89; refine (hen _).mono ?_; rintro e w' ⟨rfl, rfl⟩)
                go_step3
                rw [Hen.out]
                exact ⟨⟨_, _, _, at_, at_ + 1, acc, fr_of _ rfl, HS.out _ (Below.refl _ _), by omega, by omega, .inr (.inr (.inl ⟨rfl, HX.out⟩))⟩, by simp [wmeas, rank, intOf]; omega⟩
              | true =>
                rw [hE] at hen
                have HX : Hid (W3 (bs s) acc (((bs s).drop at_).take (at_ + 1 - at_)) (plainL (((bs s).drop at_).take (at_ + 1 - at_))) at_ (at_ + 1)) := by
                  refine hW2.out.ends ?_
                  unfold endsL at hE
                  rw [getD_drop, Nat.add_zero] at hE
                  by_cases e : at_ + 1 < (bs s).length
                  · right
                    refine ⟨e, ?_⟩
                    rw [decide_eq_false (drop_ne _ _ e)] at hE
                    simpa using hE
                  · left; omega
                obtain ⟨Z, hZ⟩ : ∃ Z, Z = ((bs s).drop at_).take (at_ + 1 - at_) := ⟨_, rfl⟩
                rw [← hZ] at HX hpl eb
                have hmk : s.extract at_ (at_ + 1) = mk Z := by rw [← eb, mk_bs]
                have HM : Hid (s.extract at_ (at_ + 1) = mk Z) := hmk
                obtain ⟨R, hR⟩ : ∃ R, R = plainL Z := ⟨_, rfl⟩
                rw [← hR] at HX hpl
                clear hZ hR hW2 eb hmk
                go_wp2
                go_step3
                go_wp2_with (go_at_call 89; refine (hen _).mono ?_; rintro e w' ⟨rfl, rfl⟩)
                go_region_held3 (fun _ => True)
                  (trivial)
                  (first
                    | (go_at_call 90; refine (hpl _ (by exact HT.out)).mono ?_; rintro e w3 ⟨rfl, hB3⟩))
                all_goals go_wp2
                all_goals go_step3
                all_goals rw [Hen.out, HM.out]
                all_goals exact ⟨⟨_, _, _, at_, at_ + 1, acc, fr_of _ rfl, HS.out _ (below_of_drew hB3), by omega, by omega, .inr (.inr (.inr (.inl ⟨rfl, by omega, _, _, rfl, rfl, HX.out⟩)))⟩, by simp [wmeas, rank, intOf]; omega⟩
    · refine ⟨_, rfl, ?_⟩
      have HT : Hid (Tabs W) := hT.below hS.bel
      have HS : Hid (∀ X, Below W.heap.size W X → WS w v acc X) := fun X hX => hS.below hX
      have hba := h.ba
      have hblt := h.lt
      have hat2 := h.le
      have Hen : Hid (((at_ : Int) + 1) = ((at_ + 1 : Nat) : Int)) := by show _ = _; omega
      clear hS
      by_cases hz : s.size ≤ at_ + 1
      · have HX : Hid (wordsL (bs s) 0 = .error b) := h.over (by omega)
        have iz : (s.size : Int) ≤ (at_ : Int) + 1 := by omega
        have i7 : (at_ : Int) + 1 ≤ 9223372036854775807 := by omega
        clear h
        go_wp2
        go_step3
        rw [Hen.out]
        exact ⟨⟨_, _, _, b, at_ + 1, acc, fr_of _ rfl, HS.out _ (Below.refl _ _), by omega, by omega, .inr (.inr (.inr (.inr ⟨rfl, HX.out⟩)))⟩, by simp [wmeas, rank, intOf]; omega⟩
      · have iz : ¬ (s.size : Int) ≤ (at_ : Int) + 1 := by omega
        have hlt : at_ + 1 < s.size := by omega
        have ilt : (at_ : Int) + 1 < s.size := by omega
        have tn : ((at_ : Int) + 1).toNat = at_ + 1 := by omega
        obtain ⟨c, hc⟩ : ∃ c, s[at_ + 1]'hlt = c := ⟨_, rfl⟩
        have HC : Hid ((bs s).getD (at_ + 1) 0 = c) := by show _ = _; rw [← at_bs s (at_ + 1) hlt, hc]
        by_cases h92 : c = 92
        · have HX : Hid (W1 (bs s) acc b (at_ + 2)) := h.esc (by omega) (by rw [HC.out, h92])
          have Hen2 : Hid (((at_ : Int) + 1 + 1) = ((at_ + 2 : Nat) : Int)) := by show _ = _; omega
          subst h92
          clear h
          go_wp2
          go_step3
          rw [Hen2.out]
          exact ⟨⟨_, _, _, b, at_ + 2, acc, fr_of _ rfl, HS.out _ (Below.refl _ _), by omega, by omega, .inr (.inl ⟨rfl, HX.out⟩)⟩, by simp [wmeas, rank, intOf]; omega⟩
        · have b92 : ((c.toNat : Int) == 92) = false := beq_eq_false_iff_ne.2 (fun e => h92 (UInt8.toNat_inj.1 (by show _ = 92; omega)))
          by_cases h34 : c = 34
          · have HX := h.close (by omega) (by rw [HC.out, h34])
            have eb : bs (s.extract b (at_ + 2)) = ((bs s).drop b).take (at_ + 2 - b) := by rw [bs_extract, List.drop_take]
            have hun := fun X hX => unquote_any (s.extract b (at_ + 2)) X hX (by simp; omega)
            rw [eb] at hun
            unfold unqV at hun
            obtain ⟨Z, hZ⟩ : ∃ Z, Z = (unq (((bs s).drop b).take (at_ + 2 - b))).getD [] := ⟨_, rfl⟩
            obtain ⟨R, hR⟩ : ∃ R, R = (unq (((bs s).drop b).take (at_ + 2 - b))).isSome := ⟨_, rfl⟩
            rw [← hZ, ← hR] at hun HX
            have HX' : Hid (W3 (bs s) acc Z R b (at_ + 2)) := HX
            have hen := fun X => ends_any s (at_ + 2) X (by unfold maxLen; omega) (by omega)
            have Hen2 : Hid (((at_ : Int) + 1 + 1) = ((at_ + 2 : Nat) : Int)) := by show _ = _; omega
            have tn2 : ((at_ : Int) + 1 + 1).toNat = at_ + 2 := by omega
            have i8 : (b : Int) ≤ (at_ : Int) + 1 + 1 := by omega
            have i9 : (at_ : Int) + 1 + 1 ≤ s.size := by omega
            rw [← Hen2.out] at hen
            subst h34
            clear h HX hZ hR eb
            cases hRt : R with
            | false =>
              rw [hRt] at HX'
              rw [hRt] at hun
              have HE : Hid (wordsL (bs s) 0 = .error b) := HX'.out.wrong (.inl rfl)
              go_wp2_with (go_at_call 91; refine (hun _ HT.out).mono ?_; rintro e w3 ⟨rfl, hB3⟩)
              go_step3
              go_wp2_with first
                | 
              go_step3
              rw [Hen2.out]
              exact ⟨⟨_, _, _, b, at_ + 2, acc, fr_of _ rfl, HS.out _ hB3, by omega, by omega, .inr (.inr (.inr (.inr ⟨rfl, HE.out⟩)))⟩, by simp [wmeas, rank, intOf]; try omega⟩
            | true =>
              rw [hRt] at HX'
              rw [hRt] at hun
              cases hE : endsL ((bs s).drop (at_ + 2)) with
              | false =>
                rw [hE] at hen
                have HE : Hid (wordsL (bs s) 0 = .error b) := HX'.out.wrong (.inr hE)
                go_wp2_with (go_at_call 91; refine (hun _ HT.out).mono ?_; rintro e w3 ⟨rfl, hB3⟩)
                go_step3
                go_wp2_with (go_at_call 89; refine (hen _).mono ?_; rintro e w' ⟨rfl, rfl⟩)
                go_step3
                rw [Hen2.out]
                exact ⟨⟨_, _, _, b, at_ + 2, acc, fr_of _ rfl, HS.out _ hB3, by omega, by omega, .inr (.inr (.inr (.inr ⟨rfl, HE.out⟩)))⟩, by simp [wmeas, rank, intOf]; try omega⟩
              | true =>
                rw [hE] at hen
                have HE : Hid (W0 (bs s) (acc ++ [Z]) (at_ + 2)) := HX'.out.next rfl hE
                go_wp2_with (go_at_call 91; refine (hun _ HT.out).mono ?_; rintro e w3 ⟨rfl, hB3⟩)
                go_step3
                go_wp2_with first
                  | (go_at_call 89; refine (hen _).mono ?_; rintro e w' ⟨rfl, rfl⟩)
                  | (at_builtin; refine wpList_append_own _ rfl _ _ 82 rfl (w.heap.size + 1) 9 i0 (.string ⟨#[]⟩) 1 16 Tryz.underlying82 hi0 hz0 hz1 hz2 rfl (by decide) v acc.length _ rfl ((HS.out _ hB3).alloc _).row ⟨_, 0, none⟩ 1 1 [.string (mk Z)] rfl rfl (cell_one_new _ _ _) (by simp [Value.oneCell']) (by unfold maxLen; omega) (by omega) (by have := (HS.out _ hB3).lt; simp; omega) ?_; intro v' w4 hown4 hgr4 _)
                have HF : Hid (WS w v' (acc ++ [Z]) w4) := ((HS.out _ hB3).alloc _).grown hgr4 hown4
                clear hown4 hgr4
                go_wp2
                go_step3
                rw [Hen2.out]
                exact ⟨⟨_, _, _, b, at_ + 2, acc ++ [Z], fr_of _ rfl, HF.out, by rw [List.length_append]; simp; omega, by omega, .inl ⟨rfl, HE.out⟩⟩, by simp [wmeas, rank, intOf]; try omega⟩
          · have b34 : ((c.toNat : Int) == 34) = false := beq_eq_false_iff_ne.2 (fun e => h34 (UInt8.toNat_inj.1 (by show _ = 34; omega)))
            have HX : Hid (W1 (bs s) acc b (at_ + 1)) := h.go (by omega) (by rw [HC.out]; exact h92) (by rw [HC.out]; exact h34)
            clear h h92 h34
            go_wp2
            go_step3
            rw [Hen.out]
            exact ⟨⟨_, _, _, b, at_ + 1, acc, fr_of _ rfl, HS.out _ (Below.refl _ _), by omega, by omega, .inr (.inl ⟨rfl, HX.out⟩)⟩, by simp [wmeas, rank, intOf]; omega⟩
    · refine ⟨_, rfl, ?_⟩
      have HT : Hid (Tabs W) := hT.below hS.bel
      have HS : Hid (∀ X, Below W.heap.size W X → WS w v acc X) := fun X hX => hS.below hX
      have hW2 : Hid (W2 (bs s) acc b at_) := h
      clear hS h
      have hlt2 := hW2.out.lt
      have hba := hW2.out.ba
      have ex : (s.extract b (at_ + 1)).size ≤ maxLen := by unfold maxLen; simp; omega
      have eb : bs (s.extract b (at_ + 1)) = ((bs s).drop b).take (at_ + 1 - b) := by rw [bs_extract, List.drop_take]
      have hpl := fun X hX => qplain_any (s.extract b (at_ + 1)) X hX ex
      rw [eb] at hpl
      have hen := fun X => ends_any s (at_ + 1) X (by unfold maxLen; omega) (by omega)
      have Hen : Hid (((at_ : Int) + 1) = ((at_ + 1 : Nat) : Int)) := by show _ = _; omega
      have tn : (((at_ : Int) + 1)).toNat = at_ + 1 := by omega
      have i7 : (at_ : Int) + 1 ≤ 9223372036854775807 := by omega
      have i8 : (b : Int) ≤ (at_ : Int) + 1 := by omega
      have i9 : (at_ : Int) + 1 ≤ s.size := by omega
      rw [← Hen.out] at hen
      cases hE : endsL ((bs s).drop (at_ + 1)) with
      | false =>
        rw [hE] at hen
        have HX : Hid (W2 (bs s) acc b (at_ + 1)) := by
          have h1 : at_ + 1 < (bs s).length := by
            by_cases e : at_ + 1 < (bs s).length
            · exact e
            · rw [List.drop_eq_nil_of_le (by omega)] at hE; cases hE
          refine hW2.out.go h1 (fun e => ?_)
          unfold endsL at hE
          rw [getD_drop, Nat.add_zero, e] at hE
          simp at hE
        clear hpl eb hW2
        go_wp2_with (go_at_call 89; refine (hen _).mono ?_; rintro e w' ⟨rfl, rfl⟩)
        go_step3
        rw [Hen.out]
        exact ⟨⟨_, _, _, b, at_ + 1, acc, fr_of _ rfl, HS.out _ (Below.refl _ _), by omega, by omega, .inr (.inr (.inl ⟨rfl, HX.out⟩))⟩, by simp [wmeas, rank, intOf]; omega⟩
      | true =>
        rw [hE] at hen
        have HX : Hid (W3 (bs s) acc (((bs s).drop b).take (at_ + 1 - b)) (plainL (((bs s).drop b).take (at_ + 1 - b))) b (at_ + 1)) := by
          refine hW2.out.ends ?_
          unfold endsL at hE
          rw [getD_drop, Nat.add_zero] at hE
          by_cases e : at_ + 1 < (bs s).length
          · right
            refine ⟨e, ?_⟩
            rw [decide_eq_false (drop_ne _ _ e)] at hE
            simpa using hE
          · left; omega
        obtain ⟨Z, hZ⟩ : ∃ Z, Z = ((bs s).drop b).take (at_ + 1 - b) := ⟨_, rfl⟩
        rw [← hZ] at HX hpl eb
        have hmk : s.extract b (at_ + 1) = mk Z := by rw [← eb, mk_bs]
        have HM : Hid (s.extract b (at_ + 1) = mk Z) := hmk
        obtain ⟨R, hR⟩ : ∃ R, R = plainL Z := ⟨_, rfl⟩
        rw [← hR] at HX hpl
        clear hZ hR hW2 eb hmk
        go_wp2_with (go_at_call 89; refine (hen _).mono ?_; rintro e w' ⟨rfl, rfl⟩)
        go_region_held3 (fun _ => True)
          (trivial)
          (first
            | (go_at_call 90; refine (hpl _ (by exact HT.out)).mono ?_; rintro e w3 ⟨rfl, hB3⟩))
        all_goals go_wp2
        all_goals go_step3
        all_goals rw [Hen.out, HM.out]
        all_goals exact ⟨⟨_, _, _, b, at_ + 1, acc, fr_of _ rfl, HS.out _ (below_of_drew hB3), by omega, by omega, .inr (.inr (.inr (.inl ⟨rfl, by omega, _, _, rfl, rfl, HX.out⟩)))⟩, by simp [wmeas, rank, intOf]; omega⟩
    · refine ⟨_, rfl, ?_⟩
      have HT : Hid (Tabs W) := hT.below hS.bel
      have HS : Hid (∀ X, Below W.heap.size W X → WS w v acc X) := fun X hX => hS.below hX
      have HX : Hid (W3 (bs s) acc wd rt b at_) := h
      have hba := h.ba
      have hat2 := h.le
      have hen := fun X => ends_any s at_ X (by unfold maxLen; omega) (by omega)
      clear hS h

      cases hRt : rt with
      | false =>
        rw [hRt] at HX
        have HE : Hid (wordsL (bs s) 0 = .error b) := HX.out.wrong (.inl rfl)
        go_wp2
        go_step3
        exact ⟨⟨_, _, _, b, at_, acc, fr_of _ rfl, HS.out _ (Below.refl _ _), by omega, by omega, .inr (.inr (.inr (.inr ⟨rfl, HE.out⟩)))⟩, by simp [wmeas, rank, intOf]; try omega⟩
      | true =>
        rw [hRt] at HX
        cases hE : endsL ((bs s).drop (at_)) with
        | false =>
          rw [hE] at hen
          have HE : Hid (wordsL (bs s) 0 = .error b) := HX.out.wrong (.inr hE)
          go_wp2_with (go_at_call 89; refine (hen _).mono ?_; rintro e w' ⟨rfl, rfl⟩)
          go_step3
          exact ⟨⟨_, _, _, b, at_, acc, fr_of _ rfl, HS.out _ (Below.refl _ _), by omega, by omega, .inr (.inr (.inr (.inr ⟨rfl, HE.out⟩)))⟩, by simp [wmeas, rank, intOf]; try omega⟩
        | true =>
          rw [hE] at hen
          have HE : Hid (W0 (bs s) (acc ++ [wd]) (at_)) := HX.out.next rfl hE
          go_wp2_with first
            | (go_at_call 89; refine (hen _).mono ?_; rintro e w' ⟨rfl, rfl⟩)
            | (at_builtin; refine wpList_append_own _ rfl _ _ 82 rfl (w.heap.size + 1) 9 i0 (.string ⟨#[]⟩) 1 16 Tryz.underlying82 hi0 hz0 hz1 hz2 rfl (by decide) v acc.length _ rfl ((HS.out _ (Below.refl _ _)).alloc _).row ⟨_, 0, none⟩ 1 1 [.string (mk wd)] rfl rfl (cell_one_new _ _ _) (by simp [Value.oneCell']) (by unfold maxLen; omega) (by omega) (by have := (HS.out _ (Below.refl _ _)).lt; simp; omega) ?_; intro v' w4 hown4 hgr4 _)
          have HF : Hid (WS w v' (acc ++ [wd]) w4) := ((HS.out _ (Below.refl _ _)).alloc _).grown hgr4 hown4
          clear hown4 hgr4
          go_wp2
          go_step3
          exact ⟨⟨_, _, _, b, at_, acc ++ [wd], fr_of _ rfl, HF.out, by rw [List.length_append]; simp; omega, by omega, .inl ⟨rfl, HE.out⟩⟩, by simp [wmeas, rank, intOf]; try omega⟩
    · refine ⟨_, rfl, ?_⟩
      obtain ⟨c0, c1⟩ := hS.box.cell
      obtain ⟨f0, f1⟩ := hS.box.frozen
      have HBx : Hid (WS w v acc W) := hS
      have HX : Hid (wordsL (bs s) 0 = .error b) := h
      clear hS h
      go_wp2
      exact words_err HBx.out HX.out rfl rfl rfl
end Go.Proofs.YtggnglgehobglaaGreatDoor
