import Derived.Test.YtncagdfbgpdhfaaGreatP31
import Derived.Test.YtncagdfbgpdhfaaGreatP40
import Derived.Test.YtncagdfbgpdhfaaGreatP28
import Derived.Test.YtncagdfbgpdhfaaGreatP37
import Derived.Laws.MakeOwn
import Derived.Deep.LoopGhost
import Derived.Deep.Cut
import Derived.Laws.AppendOwnNone
import Derived.Deep.RegionHeld3
import Derived.ProofKit
import Derived.OpenShut
import Derived.ShutString
import Derived.ChangeOld
import Derived.SizedLaws
import Derived.Deep.Slices
/- Marks of commits in memory: a map of ids to small numbers; a history of package parents. -/
namespace Go.Proofs.YtncagdfbgpdhfaaGreat
open Go.RowKit Go.Maps

theorem bits_and (a b : Nat) (ha : a < 16) (hb : b < 16) : bits .and .u64 (a : Int) (b : Int) = ((a &&& b : Nat) : Int) := by
  have h : ∀ a b : Fin 16, bits .and .u64 ((a : Nat) : Int) ((b : Nat) : Int) = (((a : Nat) &&& (b : Nat) : Nat) : Int) := by decide +kernel
  exact h ⟨a, ha⟩ ⟨b, hb⟩
theorem bits_or (a b : Nat) (ha : a < 16) (hb : b < 16) : bits .or .u64 (a : Int) (b : Int) = ((a ||| b : Nat) : Int) := by
  have h : ∀ a b : Fin 16, bits .or .u64 ((a : Nat) : Int) ((b : Nat) : Int) = (((a : Nat) ||| (b : Nat) : Nat) : Int) := by decide +kernel
  exact h ⟨a, ha⟩ ⟨b, hb⟩
theorem or_lt8 {a b : Nat} (ha : a < 8) (hb : b < 8) : a ||| b < 8 := Nat.or_lt_two_pow (n := 3) ha hb
theorem or_lt16 {a b : Nat} (ha : a < 16) (hb : b < 16) : a ||| b < 16 := Nat.or_lt_two_pow (n := 4) ha hb

theorem setN_lt {f : Int → Nat} {n : Nat} (h : ∀ x, f x < n) (x : Int) (v : Nat) (hv : v < n) : ∀ y, setN f x v y < n := fun y => by
  unfold setN
  split
  · exact hv
  · exact h y
theorem orP_lt : ∀ (ps : List Int) (b : Nat) (m : Int → Nat), (∀ x, m x < 8) → b < 8 → ∀ x, orP ps b m x < 8
  | [], _, _, h, _, x => h x
  | p :: r, b, _, h, hb, x => orP_lt r b _ (setN_lt h p _ (or_lt8 (h p) hb)) hb x
theorem bitsB_lt {s b : Nat} (hb : b < 8) : bitsB s b < 8 := by
  unfold bitsB
  split
  · exact or_lt8 hb (by decide)
  · exact hb
theorem spr_lt (P : Int → List Int) (s : Nat) : ∀ (l : List Int) (m : Int → Nat), (∀ x, m x < 8) → ∀ x, spr P s l m x < 8
  | [], _, h, x => h x
  | y :: r, m, h, x => spr_lt P s r _ (orP_lt (P y) _ m h (bitsB_lt (h y))) x
theorem spr_snoc (P : Int → List Int) (s : Nat) : ∀ (l : List Int) (y : Int) (m : Int → Nat), spr P s (l ++ [y]) m = orP (P y) (bitsB s (spr P s l m y)) (spr P s l m)
  | [], _, _ => rfl
  | z :: r, y, m => by
    show spr P s (r ++ [y]) _ = _
    rw [spr_snoc P s r y]; rfl
theorem orP_snoc : ∀ (ps : List Int) (p : Int) (b : Nat) (m : Int → Nat), orP (ps ++ [p]) b m = setN (orP ps b m) p (orP ps b m p ||| b)
  | [], p, b, m => rfl
  | q :: r, p, b, m => by
    show orP (r ++ [p]) b _ = _
    rw [orP_snoc r p b]; rfl

theorem zeroUint (w : World) : (zeroValue 93).run Tryz.prog w = .ok (.int .u64 0) w := by kernel_rfl
/-- block b is a map of ids to marks -/
def MkAt (w : World) (b : Nat) (f : Int → Nat) (k : Nat) : Prop := ∃ M : DataW Value, w.ownsMap Tryz.prog 31 rvO b (size M) M ∧ size M ≤ k ∧ ∀ i, M.atKey (.int .u64 i) (.held (.int .u64 0)) = .held (.int .u64 (f i : Int))
theorem MkAt.look {w : World} {b : Nat} {f : Int → Nat} {k : Nat} (h : MkAt w b f k) (i : Int) (h0 : 0 ≤ i) (h1 : i ≤ 18446744073709551615) (W : World) (hW : W.heap[b]? = w.heap[b]?) : (Instr.lookup 88 (.map (some b)) (.int .u64 i) false).run Tryz.prog W = .ok (.int .u64 (f i : Int)) W := by
  obtain ⟨M, h2, h3, h4⟩ := h
  obtain ⟨u', ps, hrun, hu'⟩ := (ownsMap_kept h2 hW).lookup keyedI Tryz.underlying88 (zeroUint W) (show rvO (.int .u64 0) = some (.held (.int .u64 0), []) from rfl) (keyOfI i h0 h1)
  rw [h4] at hu'
  simp only [rvO, Option.some.injEq, Prod.mk.injEq] at hu'
  obtain ⟨e, _⟩ := hu'
  cases e
  exact hrun
theorem MkAt.kept {w w' : World} {b : Nat} {f : Int → Nat} {k : Nat} (h : MkAt w b f k) (hk : w'.heap[b]? = w.heap[b]?) : MkAt w' b f k := by
  obtain ⟨M, h1, h2⟩ := h
  exact ⟨M, ownsMap_kept h1 hk, h2⟩
theorem MkAt.lt {w : World} {b : Nat} {f : Int → Nat} {k : Nat} (h : MkAt w b f k) : b < w.heap.size := by
  obtain ⟨M, h1, h2⟩ := h
  exact h1.lt
theorem MkAt.put {w : World} {b : Nat} {f : Int → Nat} {k : Nat} (h : MkAt w b f k) (i : Int) (h0 : 0 ≤ i) (h1 : i ≤ 18446744073709551615) (hk : k < maxLen) (v : Nat) : ∃ w2, (Instr.mapUpdate 88 (.map (some b)) (.int .u64 i) (.int .u64 (v : Int))).run Tryz.prog w = .ok () w2 ∧ MkAt w2 b (setN f i v) (k + 1) ∧ w.grownBy w2 (some b) := by
  obtain ⟨M, h2, h3, h4⟩ := h
  obtain ⟨w2, hrun, own2, hg2⟩ := h2.update keyedI Tryz.underlying88 (by omega) (keyOfI i h0 h1) (show rvO (.int .u64 (v : Int)) = some (.held (.int .u64 (v : Int)), []) from rfl)
  have hm := h2.isMap
  have htidy := h2.tidy keyedI
  refine ⟨w2, hrun, ⟨_, ownsMap_tightI own2, ?_, fun l => ?_⟩, hg2⟩
  · rw [size_put htidy]
    split <;> omega
  · by_cases e : l = i
    · subst e
      rw [atKey_put_same hm (keyLitI _)]
      simp [setN]
    · rw [atKey_put_other (key_neI e), h4]
      simp [setN, e]
theorem MkAt.new (w : World) : MkAt (w.alloc (.map #[] 0)) w.heap.size (fun _ => 0) 0 := ⟨.map [], World.ownsMap_made w Tryz.prog 31 rvO, Nat.le_refl _, fun _ => rfl⟩
theorem turn_grown {w w' : World} {b : Nat} (h : w.grownBy w' (some b)) : Turn (fun k => k = b) w w' := ⟨h.os, h.tape, h.output, h.size, fun k hk hn => h.block k hk (fun e => hn (Option.some.inj e))⟩

/-- block g is a history of package parents -/
def BoxH (W : World) (g : Nat) (u0 u1 : Value) : Prop := W.heap[g]? = some (.cells #[u0, u1] 90 (0, 0))
theorem BoxH.lt {W : World} {g : Nat} {u0 u1 : Value} (h : BoxH W g u0 u1) : g < W.heap.size := (Array.getElem?_eq_some_iff.1 h).1
theorem BoxH.new (W : World) (u0 u1 : Value) : BoxH (W.alloc (.cells #[u0, u1] 90)) W.heap.size u0 u1 := World.alloc_heap_new W _
theorem BoxH.cell {W : World} {g : Nat} {u0 u1 : Value} (h : BoxH W g u0 u1) : W.cell? ⟨g, 0, none⟩ = some u0 ∧ W.cell? ⟨g, 1, none⟩ = some u1 := by
  unfold BoxH at h
  refine ⟨?_, ?_⟩ <;> simp [World.cell?, h]
theorem BoxH.frozen {W : World} {g : Nat} {u0 u1 : Value} (h : BoxH W g u0 u1) : W.frozen? ⟨g, 0, none⟩ = false ∧ W.frozen? ⟨g, 1, none⟩ = false := by
  unfold BoxH at h
  refine ⟨?_, ?_⟩ <;> simp [World.frozen?, h]
theorem BoxH.all {W : World} {g : Nat} {v0 v1 : Value} (h : BoxH W g v0 v1) (u0 u1 : Value) : BoxH ((W.setCell ⟨g, 0, none⟩ u0).setCell ⟨g, 1, none⟩ u1) g u0 u1 := by
  have h' := h
  unfold BoxH at h'
  simp [BoxH, World.setCell, Array.getElem?_modify, h', Array.setIfInBounds]
theorem BoxH.other {W : World} {g j i : Nat} {v0 v1 : Value} (h : BoxH W g v0 v1) (hk : g ≠ j) (u : Value) : BoxH (W.setCell ⟨j, i, none⟩ u) g v0 v1 :=
  (Below.heap_setCell _ _ _ _ hk).trans h
end Go.Proofs.YtncagdfbgpdhfaaGreat

/- What slices.Backward of ids tells. -/
namespace Go.Proofs.YtncagdfbgpdhfaaGreat
open Go.RowKit Go.Shelf

attribute [local go_sem] Oper.semAt_some

def bkEncs (x : Nat × Int) : Array Value := #[.int .i64 (x.1 : Int), .int .u64 x.2]
def bkOk (n : Nat) (l : List Int) (pre : List (Nat × Int)) (x : Nat × Int) (_ : World) : Prop := l.reverse[pre.length]? = some x.2 ∧ x.1 + pre.length + 1 = n
def bkKeep (B : Nat) (a : Option Addr) (k : Nat) : Prop := k = B ∨ ∃ b off, a = some ⟨b, off, none⟩ ∧ k = b
set_option maxRecDepth 100000 in
set_option maxHeartbeats 4000000 in
theorem backward_tells (w : World) (B : Nat) (a : Option Addr) (n c : Nat) (l : List Int) (hB : w.cell? ⟨B, 0, none⟩ = some (.slice a n c)) (hl : l.length = n ∧ (0 < n → ∃ b off, a = some ⟨b, off, none⟩ ∧ ∀ (j : Nat) x, l[j]? = some x → w.cell? ⟨b, off + j, none⟩ = some (.int .u64 x))) (hn : n ≤ 1000000000) (m : Nat) (hm : 1 ≤ m) :
    TellsB Fence.wide m Tryz.prog 109 #[.pointer (some ⟨B, 0, none⟩)] bkEncs (bkOk n l) (bkKeep B a) (fun xs => xs.map (·.2) = l.reverse) w := by
  intro lp J Jx W hW hJg hJxg hY h0
  have hcB : W.cell? ⟨B, 0, none⟩ = some (.slice a n c) := (hW.cell (p := ⟨B, 0, none⟩) (World.block_lt_of_cell? w _ hB)).trans hB
  refine callsIn_of_wp Tryz.func109 rfl trivial ?_ rfl
  simp only [Tryz.ntmps109, List.size_toArray, List.length_cons, List.length_nil, Nat.reduceAdd, Nat.reduceSub, Array.replicate_succ, Array.replicate_zero, List.push_toArray, List.append_toArray, List.nil_append, List.cons_append]
  have HL : Hid (l.length = n ∧ (0 < n → ∃ b off, a = some ⟨b, off, none⟩ ∧ ∀ (j : Nat) x, l[j]? = some x → W.cell? ⟨b, off + j, none⟩ = some (.int .u64 x))) := ⟨hl.1, fun h => by
    obtain ⟨b, off, e, hc⟩ := hl.2 h
    exact ⟨b, off, e, fun j x hx => (hW.cell (p := ⟨b, off + j, none⟩) (World.block_lt_of_cell? w _ (hc j x hx))).trans (hc j x hx)⟩⟩
  have HcB : Hid (W.cell? ⟨B, 0, none⟩ = some (.slice a n c)) := hcB
  have i0 : (n : Int) - 1 ≤ 9223372036854775807 := by omega
  have i1 : -9223372036854775808 ≤ (n : Int) - 1 := by omega
  clear hl
  gi_wp2
  clear hcB
  gi_loopw [3] (fun i wr => ∃ (k t : Nat) (pre : List (Nat × Int)), k + t = n ∧ i = .int .i64 ((t : Int) - 1) ∧ Hid (pre.length = k ∧ pre.map (·.2) = l.reverse.take k ∧ J pre wr ∧ Keep (bkKeep B a) W wr)) (fun i _ => (intOf i + 1).toNat)
  case atStart => exact ⟨0, n, [], by omega, rfl, rfl, by simp, h0, Keep.refl _ _⟩
  case round =>
    obtain ⟨k, t', pre, hkt, rfl, H⟩ := hrel
    cases t' with
    | zero =>
      have j1 : ¬ (0 : Int) ≤ ((0 : Nat) : Int) - 1 := by omega
      have HS : Hid (pre.map (·.2) = l.reverse) := by
        have h1 := H.out.2.1
        rw [List.take_of_length_le (by rw [List.length_reverse, HL.out.1]; omega)] at h1
        exact h1
      gi_wp2
      go_end0
      exact ⟨⟨_, rfl⟩, .inl ⟨pre, HS.out, H.out.2.2.1⟩⟩
    | succ t =>
      have e1 : ((t + 1 : Nat) : Int) - 1 = (t : Int) := by omega
      rw [e1]
      have htn : t < n := by omega
      have hkl : k < l.reverse.length := by rw [List.length_reverse, HL.out.1]; omega
      obtain ⟨x, hx⟩ : ∃ x, l.reverse[k]? = some x := ⟨_, List.getElem?_eq_getElem hkl⟩
      have hxl : l[t]? = some x := by
        rw [List.getElem?_reverse (by rw [List.length_reverse] at hkl; exact hkl)] at hx
        rw [← hx, HL.out.1]
        congr 1
        omega
      obtain ⟨b, off, hae, hc⟩ := HL.out.2 (by omega)
      have q0 : wr.cell? ⟨b, off + t, none⟩ = some (.int .u64 x) := (World.cell?_of_block (by exact H.out.2.2.2.2 b (.inr ⟨b, off, hae, rfl⟩))).trans (hc t x hxl)
      have q1 : wr.cell? ⟨B, 0, none⟩ = some (.slice a n c) := (World.cell?_of_block (by exact H.out.2.2.2.2 B (.inl rfl))).trans HcB.out
      subst hae
      have HY : Hid (YieldAt Fence.wide (m - 1) Tryz.prog lp #[.int .i64 (t : Int), .int .u64 x] wr fun e W' => (e = .returned (.bool true) ∧ J (pre ++ [(t, x)]) W' ∧ Keep (bkKeep B (some ⟨b, off, none⟩)) wr W') ∨ (e = .returned (.bool false) ∧ Jx (pre ++ [(t, x)]) W')) := hY pre (t, x) wr H.out.2.2.1 ⟨by rw [H.out.1]; exact hx, by rw [H.out.1]; show t + k + 1 = n; omega⟩
      have HT : Hid ((pre ++ [(t, x)]).map (·.2) = l.reverse.take (k + 1)) := by
        show _ = _
        rw [List.map_append, H.out.2.1, List.take_succ_eq_append_getElem hkl]
        have : l.reverse[k] = x := (List.getElem?_eq_some_iff.1 hx).2
        rw [this]
        rfl
      have j1 : (0 : Int) ≤ (t : Int) := by omega
      have j2 : (t : Int) < (n : Int) := by omega
      have j3 : ¬ n ≤ t := by omega
      clear hc hx hxl hkl
      obtain ⟨fn, tmps, assign, body, hy, hR⟩ := HY.out
      gi_wp2_with fail
      refine hR.mono ?_
      rintro e W3 (⟨rfl, hJ3, hk3⟩ | ⟨rfl, hJ3⟩)
      · have HE : Hid ((pre ++ [(t, x)]).length = k + 1 ∧ (pre ++ [(t, x)]).map (·.2) = l.reverse.take (k + 1) ∧ J (pre ++ [(t, x)]) W3 ∧ Keep (bkKeep B (some ⟨b, off, none⟩)) W W3) := ⟨by rw [List.length_append, H.out.1]; rfl, HT.out, hJ3, H.out.2.2.2.trans hk3⟩
        clear hJ3 hk3 hy hR
        gi_wp2
        go_roundw
        case rel => exact ⟨k + 1, t, _, by omega, by go_num, HE.out⟩
        case measure => simp [intOf]
      · have HE : Hid (Jx (pre ++ [(t, x)]) W3) := hJ3
        clear hJ3 hy hR
        gi_wp2
        refine bodyPost_ret (results_none rfl _ _ _) rfl ?_
        exact ⟨⟨_, rfl⟩, .inr ⟨_, HE.out⟩⟩
set_option maxRecDepth 20000 in
theorem backward_any (w : World) (a : Option Addr) (n c : Nat) :
    Calls Tryz.prog 80 #[.slice a n c] w fun e w' => e = .returned (.func (.func 109) #[] #[.pointer (some ⟨w.heap.size, 0, none⟩)]) ∧ w' = w.alloc (.cells #[.slice a n c] 28) := by
  go_enter Tryz.func80, Tryz.ntmps80
  go_wp2
  go_ret
  exact ⟨rfl, rfl⟩
end Go.Proofs.YtncagdfbgpdhfaaGreat

/- The document's Has and From: a commit gone through behind others. -/
namespace Go.Proofs.YtncagdfbgpdhfaaGreat
open Go.RowKit Go.Maps

attribute [local go_sem] Oper.semAt_some

end Go.Proofs.YtncagdfbgpdhfaaGreat

/- The walk of the document's From. -/
namespace Go.Proofs.YtncagdfbgpdhfaaGreat
open Go.RowKit Go.Maps

attribute [local go_sem] Oper.semAt_some

end Go.Proofs.YtncagdfbgpdhfaaGreat

/- Ids appended to a row of one's own; the document's Parents. -/
namespace Go.Proofs.YtncagdfbgpdhfaaGreat
open Go.RowKit Go.Maps

attribute [local go_sem] Oper.semAt_some

theorem wpList_app_ids {wr : World} {ops : Array Oper} {rest : List Oper} {o : Oper} {a : Act} {Q : Exit → Act → World → Prop}
    (hgd : o.guard = none) (s x : Operand) (hop : o.op = Op.call { callee := Callee.builtin Builtin.append, args := #[s, x], argTypes := #[28, 28] })
    (base n m c : Nat) (v : Value) (k l : List Int) (ad : Option Addr) (hs : a.eval s = v) (hx : a.eval x = .slice ad m c)
    (hown : wr.ownsRow base 31 1 v n (k.map (Value.int .u64))) (hb : Ids wr ad m l) (hnil : ad = none → m = 0 ∧ c = 0) (hm : n + m ≤ 1000000) (hbase : base ≤ wr.heap.size)
    (hK : ∀ ad' c' w', n + m ≤ c' → w'.ownsRow base 31 1 (.slice ad' (n + m) c') (n + m) ((k ++ l).map (Value.int .u64)) → Below base wr w' → wpList Tryz.prog ops Q rest (a.put o.dst (.slice ad' (n + m) c')) w') :
    wpList Tryz.prog ops Q (o :: rest) a wr := by
  obtain ⟨i0, hi, hz0, hz1, hz2⟩ := info_parts infoIdG
  cases ad with
  | none =>
    obtain ⟨rfl, rfl⟩ := hnil rfl
    have hl : l = [] := List.eq_nil_of_length_eq_zero hb.1
    subst hl
    obtain ⟨ad', c', rfl, hc', _⟩ := row_shapeN hown
    refine wpList_append_own_none hgd s x 28 hop base 31 i0 1 Tryz.underlying28 hi _ n _ hs hown hx ?_
    have := hK ad' c' wr (by omega) (by simpa using hown) (Below.refl _ _)
    simpa using this
  | some ad =>
    refine wpList_append_own_at _ hgd s x 28 hop base 31 i0 _ 1 8 Tryz.underlying28 hi hz0 hz1 hz2 rfl (by omega) v n _ hs hown ad m c (l.map (Value.int .u64)) hx (by rw [List.length_map, hb.1]; omega) ?_ (fun u hu => by obtain ⟨y, _, rfl⟩ := List.mem_map.1 hu; rfl) (by unfold maxLen; omega) (by omega) hbase ?_
    · intro j u hj
      rw [List.getElem?_map] at hj
      cases hy : l[j]? with
      | none => rw [hy] at hj; cases hj
      | some y =>
        rw [hy] at hj
        cases hj
        have hjl : j < l.length := (List.getElem?_eq_some_iff.1 hy).1
        have hl := hb.1
        obtain ⟨b, off, hx', hc⟩ := hb.2 (by omega)
        obtain rfl := Option.some.inj hx'
        rw [Addr.add_lit]
        exact hc j y hy
    · intro v' w' h1 h2 _ _
      obtain ⟨ad', c', rfl, hc', _⟩ := row_shapeN h1
      exact hK ad' c' w' hc' (by rw [List.map_append]; exact h1) ((Below.refl base wr).grown h2 hbase (fun k hk => (hown.lt k hk).1))
/-- one id appended, out of a block that is new -/
theorem wpList_app_id {wr : World} {ops : Array Oper} {rest : List Oper} {o : Oper} {a : Act} {Q : Exit → Act → World → Prop} (z : Int) (fz : Nat × Nat)
    (hgd : o.guard = none) (s x : Operand) (hop : o.op = Op.call { callee := Callee.builtin Builtin.append, args := #[s, x], argTypes := #[28, 28] })
    (base n : Nat) (v : Value) (k : List Int) (hs : a.eval s = v) (hx : a.eval x = .slice (some ⟨wr.heap.size, 0, none⟩) 1 1)
    (hown : wr.ownsRow base 31 1 v n (k.map (Value.int .u64))) (hm : n + 1 ≤ 1000000) (hbase : base ≤ wr.heap.size)
    (hK : ∀ ad' c' w', n + 1 ≤ c' → w'.ownsRow base 31 1 (.slice ad' (n + 1) c') (n + 1) ((k ++ [z]).map (Value.int .u64)) → Below base wr w' → wpList Tryz.prog ops Q rest (a.put o.dst (.slice ad' (n + 1) c')) w') :
    wpList Tryz.prog ops Q (o :: rest) a (wr.alloc (.cells #[.int .u64 z] 31 fz)) := by
  refine wpList_app_ids hgd s x hop base n 1 1 v k [z] _ hs hx (hown.alloc _) ?_ (by intro h; cases h) hm (by simp; omega) ?_
  · have hb := World.alloc_heap_new wr (.cells #[.int .u64 z] 31 fz)
    generalize wr.alloc (.cells #[.int .u64 z] 31 fz) = W' at hb
    refine ⟨rfl, fun _ => ⟨_, _, rfl, fun j y hj => ?_⟩⟩
    match j, hj with
    | 0, hj => simp at hj; subst hj; simp [World.cell?, hb]
  · intro ad' c' w' h1 h2 h3
    exact hK ad' c' w' h1 h2 (((Below.refl base wr).alloc hbase _).trans h3)
end Go.Proofs.YtncagdfbgpdhfaaGreat

/- A row of ints of the call's own, read and set in place. -/
namespace Go.Proofs.YtncagdfbgpdhfaaGreat
open Go.RowKit Go.Maps

attribute [local go_sem] Oper.semAt_some

end Go.Proofs.YtncagdfbgpdhfaaGreat

/- The walk of the document's Depth. -/
namespace Go.Proofs.YtncagdfbgpdhfaaGreat
open Go.RowKit Go.Maps

attribute [local go_sem] Oper.semAt_some

end Go.Proofs.YtncagdfbgpdhfaaGreat

/- The walk of the document's Lines. -/
namespace Go.Proofs.YtncagdfbgpdhfaaGreat
open Go.RowKit Go.Maps

attribute [local go_sem] Oper.semAt_some

end Go.Proofs.YtncagdfbgpdhfaaGreat

/- The walk of Between. -/
namespace Go.Proofs.YtncagdfbgpdhfaaGreat
open Go.RowKit Go.Maps

attribute [local go_sem] Oper.semAt_some

end Go.Proofs.YtncagdfbgpdhfaaGreat

/- The walk of the document's Order. -/
namespace Go.Proofs.YtncagdfbgpdhfaaGreat
open Go.RowKit Go.Maps

attribute [local go_sem] Oper.semAt_some

end Go.Proofs.YtncagdfbgpdhfaaGreat

/- Commits and numbers that came in, opened. -/
namespace Go.Proofs.YtncagdfbgpdhfaaGreat
open Go.ChangeShapes Go.WideShapes Go.ChangeAt Go.RowKit

end Go.Proofs.YtncagdfbgpdhfaaGreat

/- The walk of the law's heads: ids of a history, by numbers. -/
namespace Go.Proofs.YtncagdfbgpdhfaaGreat
open Go.RowKit Go.Maps

attribute [local go_sem] Oper.semAt_some

end Go.Proofs.YtncagdfbgpdhfaaGreat

/- The nodes of a history and the objects of its store say the same of every id but the empty tree's; and so it is gone through in the same way. -/
namespace Go.Proofs.YtncagdfbgpdhfaaGreat

end Go.Proofs.YtncagdfbgpdhfaaGreat

/- What Between tells of two lists of heads, plain; heads as a list of ids. -/
namespace Go.Proofs.YtncagdfbgpdhfaaGreat
open Go.RowKit Go.Maps

/-- every id of an order is a commit: there are no more of them than objects -/
theorem ord_len {os : List Ob} {l : List Int} {gs : GS} (h : ordG os l GS.none = .ok gs) : gs.ord.length ≤ os.length := by
  obtain ⟨hI, _⟩ := btw_sim os l [] gs h
  have h1 := nodup_le gs.ord (oids os) hI.nd (fun x hx => by
    obtain ⟨i, hi⟩ := List.getElem?_of_mem hx
    obtain ⟨ps, hp, _⟩ := hI.topo i x hi
    exact findO_oids (by rw [hp]; rfl))
  simpa [oids] using h1
end Go.Proofs.YtncagdfbgpdhfaaGreat

/- The walk of Roots. -/
namespace Go.Proofs.YtncagdfbgpdhfaaGreat
open Go.RowKit Go.Maps

attribute [local go_sem] Oper.semAt_some

end Go.Proofs.YtncagdfbgpdhfaaGreat

/- Plain facts for GraphParts: heads behind heads; commits of a history without parents. -/
namespace Go.Proofs.YtncagdfbgpdhfaaGreat
open Go.RowKit Go.Maps

end Go.Proofs.YtncagdfbgpdhfaaGreat

/- Plain facts for GraphTells: how many parents there are, how great ways get, what the last of an order is. -/
namespace Go.Proofs.YtncagdfbgpdhfaaGreat
open Go.RowKit Go.Maps

end Go.Proofs.YtncagdfbgpdhfaaGreat

/- The walk of the laws' place: where an id stands. -/
namespace Go.Proofs.YtncagdfbgpdhfaaGreat
open Go.RowKit Go.Maps

attribute [local go_sem] Oper.semAt_some

end Go.Proofs.YtncagdfbgpdhfaaGreat

/- Plain facts for GraphLaws: places, depths and ancestors within one order. -/
namespace Go.Proofs.YtncagdfbgpdhfaaGreat
open Go.RowKit Go.Maps

theorem ord_rng {os : List Ob} {l : List Int} {g : GS} (h : ordG os l GS.none = .ok g) : ∀ u ∈ g.ord, 0 ≤ u ∧ u ≤ 18446744073709551615 := by
  intro u hu
  obtain ⟨i, hi⟩ := List.getElem?_of_mem hu
  obtain ⟨ps, hp, _⟩ := (ord_inv h).topo i u hi
  unfold parsO at hp
  cases hf : findO os u with
  | none => rw [hf] at hp; cases hp
  | some o =>
    obtain ⟨_, h2⟩ := findO_mem hf
    rw [← h2]
    exact (oid_rng o).2
end Go.Proofs.YtncagdfbgpdhfaaGreat
