/- The walk of the law QuoteParts. -/
import Derived.Test.YtfppfbalhhbjdabDoorQLines
import Derived.Test.YtfppfbalhhbjdabDoorQWakes
namespace Go.Proofs.YtfppfbalhhbjdabDoor
open Go.RowKit Go.Shelf

attribute [local go_sem] Oper.semAt_some

theorem boxed_keep {X Y : World} {row : Option Nat} {B b0 : Nat} {t : TypeId} {u : Value} (h : Boxed X B t u) (hg : X.grownBy Y row) (hr : ∀ r, row = some r → b0 ≤ r ∧ ∃ o : Obj, X.heap[r]? = some o ∧ o.isCells = false) : Boxed Y B t u :=
  boxed_own (β := Unit) B t (fun _ => u) () X Y row h hg (fun r e => (hr r e).2)
theorem below_keep {w X Y : World} {row : Option Nat} {n0 b0 : Nat} (h : Below n0 w X) (hn : n0 ≤ w.heap.size) (hb : n0 ≤ b0) (hg : X.grownBy Y row) (hr : ∀ r, row = some r → b0 ≤ r ∧ ∃ o : Obj, X.heap[r]? = some o ∧ o.isCells = false) : Below n0 w Y :=
  ownFrom_below (β := Unit) hn hb () X Y row h hg hr

theorem wpListIn_app {F : Fence} {d : Nat} (w : World) (B : Nat) (hB : B ≤ w.heap.size) {ops : Array Oper} {rest : List Oper} {o : Oper} {a : Act} {Q : Exit → Act → World → Prop} (hgd : o.guard = none) (s x : Operand)
    (ho : o.op = .call { callee := .builtin .append, args := #[s, x], argTypes := #[23, 23] })
    (v : Value) (n : Nat) (xs : List Value) (hs : a.eval s = v) (hown : w.ownsRow B 5 1 v n xs) (ad : Option Addr) (m c : Nat) (l : List UInt8) (hx : a.eval x = .slice ad m c) (hb : Bytes w ad m l) (hnil : ad = none → m = 0 ∧ c = 0) (hm : n + m ≤ 140737488355328)
    (h : ∀ v' w', w'.ownsRow B 5 1 v' (n + m) (xs ++ cellsOf l) → w.grownBy w' v.ownBlock → wpListIn F d Tryd.prog ops Q rest (a.put o.dst v') w') : wpListIn F d Tryd.prog ops Q (o :: rest) a w := by
  refine wpListIn_plain hgd fun K hK => ?_
  obtain ⟨v', w', hr, h2, h3, _⟩ := run_app w B hB o.type v n xs hown ad m c l hb hnil hm
  unfold Oper.wpIn
  refine ⟨by simp [Oper.about, ho, resolve, Target.leads, Sem.run_pure], ?_⟩
  rw [Oper.semAt_plain F _ _ (by rw [ho]; intro c hc; cases hc)]
  simp [execOp, ho, resolve, invoke, builtin, hs, hx, hr, Result.andThen]
  exact hK _ _ (h v' w' h2 h3)
theorem wpListIn_app_text {F : Fence} {d : Nat} (w : World) (B : Nat) (hB : B ≤ w.heap.size) {ops : Array Oper} {rest : List Oper} {o : Oper} {a : Act} {Q : Exit → Act → World → Prop} (hgd : o.guard = none) (s x : Operand)
    (ho : o.op = .call { callee := .builtin .append, args := #[s, x], argTypes := #[23, 9] })
    (v : Value) (n : Nat) (xs : List Value) (hs : a.eval s = v) (hown : w.ownsRow B 5 1 v n xs) (t : ByteArray) (hx : a.eval x = .string t) (hm : n + t.size ≤ 140737488355328)
    (h : ∀ v' w', w'.ownsRow B 5 1 v' (n + t.size) (xs ++ cellsOf (bs t)) → w.grownBy w' v.ownBlock → wpListIn F d Tryd.prog ops Q rest (a.put o.dst v') w') : wpListIn F d Tryd.prog ops Q (o :: rest) a w := by
  obtain ⟨i0, hi, hz0, hz1, hz2⟩ := info_parts Tryd.info5
  refine wpListIn_plain hgd fun K hK => ?_
  obtain ⟨v', w', hr, h2, h3, _⟩ := Lib.run_append_own_string (P := Tryd.prog) w B 23 9 o.type 5 i0 Tryd.underlying23 Tryd.underlying9 hi hz0 hz1 hz2 v n xs hown t (by unfold maxLen; omega) hm hB
  unfold Oper.wpIn
  refine ⟨by simp [Oper.about, ho, resolve, Target.leads, Sem.run_pure], ?_⟩
  rw [Oper.semAt_plain F _ _ (by rw [ho]; intro c hc; cases hc)]
  simp [execOp, ho, resolve, invoke, builtin, hs, hx, hr, Result.andThen]
  exact hK _ _ (h v' w' h2 h3)

def partL {s : ByteArray} (xs : List (Ln s)) : List UInt8 := backL (xs.map fun x => bs x.1.2)
theorem partL_snoc {s : ByteArray} (xs : List (Ln s)) (x : Ln s) : partL (xs ++ [x]) = partL xs ++ bs x.1.2 ++ [10] := by
  unfold partL; rw [List.map_append, List.map_cons, List.map_nil, backL_snoc, List.append_assoc]
theorem partL_all {s : ByteArray} (xs : List (Ln s)) (h : xs.map Ln.at = nums 0 (linesL (bs s))) : partL xs = backL (linesL (bs s)) := by
  have e : ∀ (ls : List (List UInt8)) (k : Nat), (nums k ls).map Prod.snd = ls := by
    intro ls
    induction ls with
    | nil => intro k; rfl
    | cons a r ih => intro k; simp [nums, ih]
  have h2 := congrArg (List.map Prod.snd) h
  rw [e, List.map_map] at h2
  unfold partL
  rw [← h2]; rfl
/-- what holds between two rounds -/
structure PartI {s : ByteArray} (w : World) (B1 : Nat) (xs : List (Ln s)) (W : World) : Prop where
  r : Boxed W w.heap.size 4 (.bool false)
  b : ∃ v, Boxed W B1 23 v ∧ W.ownsRow (B1 + 2) 5 1 v (partL xs).length (cellsOf (partL xs))
  p : Boxed W (B1 + 1) 9 (.string s)
  bel : Below w.heap.size w W
  le : (partL xs).length ≤ xs.length * (s.size + 1)
theorem partI_own {s : ByteArray} (w : World) (B1 : Nat) (h0 : w.heap.size ≤ B1) : OwnFrom (B1 + 2) (PartI (s := s) w B1) := fun xs X Y row hs hg hr => by
  obtain ⟨v, hv, ho⟩ := hs.b
  refine ⟨boxed_keep hs.r hg hr, ⟨v, boxed_keep hv hg hr, ho.kept hg ?_⟩, boxed_keep hs.p hg hr, below_keep hs.bel (Nat.le_refl _) (by omega) hg hr, hs.le⟩
  cases hv' : v.ownBlock with
  | none => exact .inl rfl
  | some r =>
    refine .inr fun e => ?_
    obtain ⟨_, o, ho', hc⟩ := hr r e.symm
    obtain ⟨_, _, cur, hcur⟩ := row_block ho r hv'
    rw [ho'] at hcur; cases hcur; cases hc

theorem lines_stops (s : ByteArray) (hs : s.size ≤ maxLen) (w : World) (B : Nat) (hB : Boxed w B 9 (.string s)) (n : Nat) (hn : 1 ≤ n) :
    SeqStopsK Fence.wide n Tryd.prog 8 #[.pointer (some ⟨B, 0, none⟩)] Ln.encs (KpB B) (fun xs : List (Ln s) => xs.map Ln.at = nums 0 (linesL (bs s))) (fun pre : List (Ln s) => ∃ rest, pre.map Ln.at ++ rest = nums 0 (linesL (bs s))) (s.size + 1) w := by
  intro l J Jx W hW hJ hJx hY h0
  refine lines_told s hs w B hB n hn l J Jx W hW hJ (fun pre x W1 hj hsp => hY pre x W1 hj ?_) h0
  obtain ⟨rest, h⟩ := hsp
  have h1 := congrArg List.length h
  rw [List.length_append, List.length_map, List.length_append, nums_len] at h1
  have h2 := cutN_len (bs s) []
  rw [bs_len] at h2
  have h3 : (linesL (bs s)).length = (cutN [] (bs s)).length := rfl
  simp only [List.length_singleton] at h1
  omega

theorem bool_ret_d {n k : Nat} {f : Func} {W : World} {p D : Nat} {u : Value} {tmps : Array Value} {P : Ending → World → Prop} (hf : f.results = #[ResultVar.cell k 4]) (hb : Boxed W p 4 u) (ha : tmps[k]?.getD undef = .pointer (some ⟨p, 0, none⟩)) (hK : W.heap[D]? = some (.deferred (some []))) (hP : P (.returned u) (W.putObj D (.deferred none))) :
    bodyPostM Fence.wide n Tryd.prog f P Exit.ret { tmps := tmps, defers := [{ target := .collected D, args := #[] }] } W := by
  have hb' : Boxed (W.putObj D (.deferred none)) p 4 u := boxed_keep (b0 := 0) hb (grownBy_putObj' _ D (.deferred none)) (fun r e => by cases e; exact ⟨Nat.zero_le _, _, hK, rfl⟩)
  have c0 := hb'.cell
  refine ⟨by simp, .inl ⟨_, _, rfl, run_takeDeferred hK, ?_⟩⟩
  exact ⟨u, by simp [results, hf, go_sem, ha, c0], hP⟩

theorem row_cells {W : World} {base n : Nat} {v : Value} {xs : List Value} (h : W.ownsRow base 5 1 v n xs) (j : Nat) (o : Obj) (e : v.ownBlock = some j) (ho : W.heap[j]? = some o) : o.isCells = true := by
  obtain ⟨_, _, cur, hc⟩ := row_block h j e
  rw [ho] at hc; cases hc; rfl
/-- a round: the line and a byte 10 are put behind -/
theorem PartI.step {s : ByteArray} {w : World} {B1 : Nat} {pre : List (Ln s)} {W : World} (hI : PartI w B1 pre W) (h0 : w.heap.size + 1 ≤ B1) (x : Ln s) {v : Value} (hv : Boxed W B1 23 v) (ho : W.ownsRow (B1 + 2) 5 1 v (partL pre).length (cellsOf (partL pre)))
    {v2 : Value} {W2 : World} (h2 : W2.ownsRow (B1 + 2) 5 1 v2 ((partL pre).length + x.1.2.size) (cellsOf (partL pre) ++ cellsOf (bs x.1.2))) (g2 : W.grownBy W2 v.ownBlock)
    (o : Obj) {v3 : Value} {W3 : World} (h3 : W3.ownsRow (B1 + 2) 5 1 v3 ((partL pre).length + x.1.2.size + 1) (cellsOf (partL pre) ++ cellsOf (bs x.1.2) ++ cellsOf [10])) (g3 : (W2.alloc o).grownBy W3 v2.ownBlock) :
    W3.cell? ⟨B1, 0, none⟩ = some v ∧ W3.frozen? ⟨B1, 0, none⟩ = false ∧ Hid (KeepsFrom (B1 + 2) W (W3.setCell ⟨B1, 0, none⟩ v3) ∧ KpB (B1 + 1) W (W3.setCell ⟨B1, 0, none⟩ v3) ∧ PartI w B1 (pre ++ [x]) (W3.setCell ⟨B1, 0, none⟩ v3)) := by
  have d1 : 23 ≠ 5 := by decide
  have d2 : 4 ≠ 5 := by decide
  have d3 : 9 ≠ 5 := by decide
  have hv3 : Boxed W3 B1 23 v := ((hv.kept g2 (hv.not_row d1 ho)).alloc o).kept g3 (((hv.kept g2 (hv.not_row d1 ho)).alloc o).not_row d1 (h2.alloc o))
  have hr3 : Boxed W3 w.heap.size 4 (.bool false) := ((hI.r.kept g2 (hI.r.not_row d2 ho)).alloc o).kept g3 (((hI.r.kept g2 (hI.r.not_row d2 ho)).alloc o).not_row d2 (h2.alloc o))
  have hp3 : Boxed W3 (B1 + 1) 9 (.string s) := ((hI.p.kept g2 (hI.p.not_row d3 ho)).alloc o).kept g3 (((hI.p.kept g2 (hI.p.not_row d3 ho)).alloc o).not_row d3 (h2.alloc o))
  have hk : KeepsOthers W (W3.setCell ⟨B1, 0, none⟩ v3) :=
    (((KeepsOthers.of_grownBy g2 (row_cells ho)).trans (KeepsOthers.alloc W2 o)).trans (KeepsOthers.of_grownBy g3 (row_cells (h2.alloc o)))).trans (KeepsOthers.setCell _ _ _)
  have hs2 := g2.size
  have hs3 := g3.size
  have hws := hI.bel.size
  have hp : Boxed (W3.setCell ⟨B1, 0, none⟩ v3) (B1 + 1) 9 (.string s) := hp3.other (by omega) _
  refine ⟨hv3.cell, hv3.frozen, hk.from _, ⟨hk.walks, hp.trans hI.p.symm⟩, hr3.other (by omega) _, ⟨v3, hv3.set v3, ?_⟩, hp, ?_, ?_⟩
  · rw [partL_snoc, List.length_append, List.length_append, cellsOf_append, cellsOf_append, bs_len]
    exact h3.kept (grownBy_setCell' W3 B1 v3) (.inr (hv3.not_row d1 h3).symm)
  · refine ((((hI.bel.grown g2 hws (fun k hk => by have := (row_block ho k hk).1; omega)).alloc (by omega) o).grown g3 (by simp; omega) (fun k hk => by have := (row_block (h2.alloc o) k hk).1; omega)).setCell (p := ⟨B1, 0, none⟩) (by show w.heap.size ≤ B1; omega) _)
  · have := hI.le
    have hx := x.2.2.1
    rw [partL_snoc, List.length_append, List.length_append, List.length_append, bs_len, List.length_singleton, List.length_singleton, Nat.add_mul]
    omega

theorem part_ret {s : ByteArray} {w W w5 : World} {B1 D n : Nat} {xs : List (Ln s)} {tmps : Array Value} (hI : PartI w B1 xs W) (hD : w.heap.size < D) (hK : W.heap[D]? = some (.deferred (some []))) (hB : Below W.heap.size W w5) (ha : tmps[2]?.getD undef = .pointer (some ⟨w.heap.size, 0, none⟩)) :
    bodyPostM Fence.wide n Tryd.prog Tryd.f3 (fun e w' => e = .returned (.bool true) ∧ Below w.heap.size w w') Exit.ret { tmps := tmps, defers := [{ target := .collected D, args := #[] }] } (w5.setCell ⟨w.heap.size, 0, none⟩ (.bool true)) := by
  have hR5 : Boxed w5 w.heap.size 4 (.bool false) := (hB.block _ hI.r.lt).trans hI.r
  have hDlt : D < W.heap.size := (Array.getElem?_eq_some_iff.1 hK).1
  have hK' : (w5.setCell ⟨w.heap.size, 0, none⟩ (.bool true)).heap[D]? = some (.deferred (some [])) := by
    rw [Below.heap_setCell _ _ _ _ (by show D ≠ w.heap.size; omega), hB.block D hDlt]; exact hK
  refine bool_ret_d (k := 2) rfl (hR5.set (.bool true)) ha hK' ⟨rfl, ?_⟩
  exact ((hI.bel.trans (hB.mono hI.bel.size)).setCell (p := ⟨w.heap.size, 0, none⟩) (Nat.le_refl _) _).trans (belowK_b (w := w) (Nat.le_refl _) _ D _ _ (by omega) hK' rfl rfl)

set_option maxRecDepth 100000 in
set_option maxHeartbeats 4000000 in
theorem quoteParts_walk (s : ByteArray) (w : World) (hs : s.size ≤ 1048576) (hT : Tabs w) :
    Calls Tryd.prog 3 #[.string s] w fun e w' => e = .returned (.bool true) ∧ Below w.heap.size w w' := by
  have hs' : s.size ≤ 9223372036854775807 := by omega
  have hT0 : Tabs (w.alloc (.cells #[.bool false] 4)) := hT.below ((Below.refl _ w).alloc (Nat.le_refl _) _)
  refine (callsIn_wide (n := 5)).1 ?_
  refine callsIn_of_wp_marks Tryd.func3 rfl trivial ?_ rfl
  simp only [Tryd.ntmps3, List.size_toArray, List.length_cons, List.length_nil, Nat.reduceAdd, Nat.reduceSub, Array.replicate_succ, Array.replicate_zero, List.push_toArray, List.append_toArray, List.nil_append, List.cons_append]
  refine wpIn_wide.2 ?_
  go_wp2_with first
    | (go_at_call 4; refine (wakes_any _ hT0).mono ?_; rintro e w1 ⟨rfl, hB1⟩; clear hT0)
    | (go_at_call 5; refine (lines_any s _).mono ?_; rintro e w' ⟨rfl, rfl⟩)
  obtain ⟨w4, hw4⟩ : ∃ w4, w4 = (w1.alloc (.cells #[.slice none 0 0] 23)).alloc (.cells #[.string s] 9) := ⟨_, rfl⟩
  have hs1 : w.heap.size + 1 ≤ w1.heap.size := by have := hB1.size; rw [World.size_alloc] at this; exact this
  have hs4 : w4.heap.size = w1.heap.size + 2 := by rw [hw4]; simp
  have hB1' : Below w.heap.size w w1 := ((Below.refl _ w).alloc (Nat.le_refl _) _).trans (hB1.mono (by simp))
  have hB4 : Below w.heap.size w w4 := by
    rw [hw4]; exact (hB1'.alloc (by omega) _).alloc (by simp; omega) _
  have bR : Boxed w4 w.heap.size 4 (.bool false) := by
    rw [hw4]
    exact Boxed.alloc (Boxed.alloc ((hB1.block w.heap.size (by simp)).trans (Boxed.new w 4 (.bool false))) _) _
  have bV : Boxed w4 w1.heap.size 23 (.slice none 0 0) := by rw [hw4]; exact (Boxed.new w1 _ _).alloc _
  have bP : Boxed w4 (w1.heap.size + 1) 9 (.string s) := by
    have := Boxed.new (w1.alloc (.cells #[.slice none 0 0] 23)) 9 (.string s)
    rw [World.size_alloc] at this
    rw [hw4]; exact this
  rw [← hw4]
  clear hw4 hB1 hB1'
  refine (wpIn_wide (n := 5)).1 ?_
  refine wpIn_rangeFunc_ownG (w := w4) (w0 := w4) rfl (by omega) (gf := 8) (lb := #[.pointer (some ⟨w1.heap.size + 1, 0, none⟩)]) rfl trivial (enters_of Tryd.func8 (by kernel_rfl) rfl)
    (lines_stops s (by unfold maxLen; omega) w4 (w1.heap.size + 1) bP 4 (by omega)) KpB.t (fun W l o o' hl ho _ hw => ⟨KeepsWalks.putObj _ ho hw, World.putObj_heap_other (by omega)⟩) (Below.refl _ _) (fun _ => rfl)
    (PartI w w1.heap.size) (fun _ _ _ => False) (by rw [hs4]; exact partI_own w _ (by omega)) (fun _ _ _ _ _ h _ _ => h)
    ⟨bR, ⟨_, bV, World.ownsRow_nil _ _ _ _⟩, bP, hB4, by simp [partL, backL]⟩ ?act ?assign ?body ?done ?stop
  case assign =>
    intro l x W K hK
    gi_wp2
    exact hK
  case body =>
    rintro l pre x W hI hlen
    obtain ⟨v, hv, ho⟩ := hI.b
    have hx2 := x.2.2.1
    have hWs : w1.heap.size + 2 ≤ W.heap.size := by have := hI.p.lt; omega
    have hle := hI.le
    have hlen2 : pre.length * (s.size + 1) ≤ 1048577 * 1048577 := Nat.mul_le_mul (by omega) (by omega)
    have hbn : (partL pre).length + x.1.2.size + 1 ≤ 140737488355328 := by omega
    have cV := hv.cell
    have fV := hv.frozen
    have HI : Hid (PartI w w1.heap.size pre W) := hI
    have HV : Hid (Boxed W w1.heap.size 23 v) := hv
    obtain ⟨X, hX⟩ : ∃ X, X = x.1.2 := ⟨_, rfl⟩
    have HX : Hid (X = x.1.2) := hX
    have Hten : Hid ((10 : UInt8) ∉ bs X) := by show _; rw [hX]; exact x.2.2.2
    rw [← hX] at hx2 hbn ⊢
    clear hI hv hX bR bV bP hB4 hle hlen2
    gi_wp2
    gi_loopw [6] (fun i wr => ∃ k : Nat, k ≤ X.size ∧ i = .int .i64 (k : Int) ∧ wr = W) (fun i _ => X.size - (intOf i).toNat)
    case atStart => exact ⟨0, Nat.zero_le _, rfl, rfl⟩
    case round =>
      obtain ⟨k, hk, rfl, rfl⟩ := hrel
      by_cases hlt : k < X.size
      · have ilt : (k : Int) < X.size := by omega
        obtain ⟨c, hc⟩ : ∃ c, X[k]'hlt = c := ⟨_, rfl⟩
        have hcn : c ≠ 10 := fun e => Hten.out (by
          rw [← e, ← hc]
          show X.data.toList[k] ∈ X.data.toList
          exact List.getElem_mem _)
        have hb : ((c.toNat : Int) == 10) = false := beq_eq_false_iff_ne.2 (fun e => hcn (UInt8.toNat_inj.1 (by show _ = 10; omega)))
        have i4 : (k : Int) + 1 ≤ 9223372036854775807 := by omega
        clear hcn
        gi_wp2
        go_roundw
        case rel => exact ⟨k + 1, by omega, by simp, by simp⟩
        case measure => simp [intOf]; omega
      · obtain rfl : k = X.size := by omega
        have ilt : ¬ (X.size : Int) < X.size := by omega
        have HO := HX.out
        subst HO
        have hbn1 : (partL pre).length + x.1.2.size ≤ 140737488355328 := by omega
        gi_wp2_with first
          | (gi_at_builtin; refine wpListIn_app_text _ (w1.heap.size + 2) hWs rfl _ _ rfl v (partL pre).length _ rfl ho x.1.2 rfl hbn1 ?_; intro v2 W2 ho2 hg2; have hW2s := hg2.size)
          | (gi_at_builtin; refine wpListIn_app _ (w1.heap.size + 2) (by simp; omega) rfl _ _ rfl v2 ((partL pre).length + x.1.2.size) _ rfl (ho2.alloc _) (some ⟨W2.heap.size, 0, none⟩) 1 1 [10] rfl (bytes_new W2 [10] _ rfl) (fun h => by cases h) hbn ?_; intro v3 W3 ho3 hg3; obtain ⟨cV3, fV3, HF⟩ := HI.out.step hs1 x HV.out ho ho2 hg2 _ ho3 hg3; obtain ⟨ad3, cp3, rfl, _⟩ := row_shape ho3; clear ho3 hg3 ho2 hg2)
        exact HF.out
  case done =>
    rintro D xs W hD hS hI hK
    obtain ⟨v, hv, ho⟩ := hI.b
    have hpl := partL_all xs hS
    rw [hpl] at ho
    obtain ⟨N, hN⟩ : ∃ N, N = (backL (linesL (bs s))).length := ⟨_, rfl⟩
    rw [← hN] at ho
    obtain ⟨ad, cp, rfl, _⟩ := row_shape ho
    have hcv := run_string W ad N cp _ (row_bytes ho)
    obtain ⟨T, hTT⟩ : ∃ T : ByteArray, T = ⟨(backL (linesL (bs s))).toArray⟩ := ⟨_, rfl⟩
    rw [← hTT] at hcv
    have hTb : bs T = backL (linesL (bs s)) := by rw [hTT]; exact bs_mk _
    have cV := hv.cell
    have cR := hI.r.cell
    have fR := hI.r.frozen
    have H : Hid (PartI w w1.heap.size xs W ∧ W.heap[D]? = some (.deferred (some [])) ∧ w4.heap.size ≤ D) := ⟨hI, hK, hD⟩
    have hTW : Tabs W := hT.below hI.bel
    have hcmp := back_lines (bs s)
    rw [← hTb] at hcmp
    clear hI hS hK hD bR bV bP hB4 hTT hTb hpl hN hv ho
    by_cases hc1 : (T.toList == s.toList) = true
    · gi_wp2
      go_wp2_with (go_at_call 4; refine (wakes_any _ hTW).mono ?_; rintro e w5 ⟨rfl, hB5⟩; have hR5 : Boxed w5 w.heap.size 4 (.bool false) := (hB5.block _ H.out.1.r.lt).trans H.out.1.r; have cR5 := hR5.cell; have fR5 := hR5.frozen; have HB5 : Hid (Below W.heap.size W w5) := hB5; clear hB5 cR fR)
      exact part_ret H.out.1 (by have := H.out.2.2; omega) H.out.2.1 HB5.out rfl
    · have hc1' : (T.toList == s.toList) = false := Bool.eq_false_iff.2 hc1
      have hc2 : bs T = bs s ++ [10] ∧ bs s ≠ [] := by
        rcases hcmp with h | h
        · exact absurd (by rw [toList_bs, toList_bs, h]; simp) hc1
        · exact h
      have hc3 : (T.toList == (s ++ (⟨#[10]⟩ : ByteArray)).toList) = true := by
        rw [toList_bs, toList_bs, bs_append, hc2.1, beq_iff_eq]; rfl
      have hc4 : s.toList.isEmpty = false := by rw [toList_bs]; simpa using hc2.2
      clear hcmp hc2 hc1
      gi_wp2
      go_wp2_with (go_at_call 4; refine (wakes_any _ hTW).mono ?_; rintro e w5 ⟨rfl, hB5⟩; have hR5 : Boxed w5 w.heap.size 4 (.bool false) := (hB5.block _ H.out.1.r.lt).trans H.out.1.r; have cR5 := hR5.cell; have fR5 := hR5.frozen; have HB5 : Hid (Below W.heap.size W w5) := hB5; clear hB5 cR fR)
      exact part_ret H.out.1 (by have := H.out.2.2; omega) H.out.2.1 HB5.out rfl
  case stop =>
    rintro D c pre W hD _ h _
    exact h.elim
end Go.Proofs.YtfppfbalhhbjdabDoor
