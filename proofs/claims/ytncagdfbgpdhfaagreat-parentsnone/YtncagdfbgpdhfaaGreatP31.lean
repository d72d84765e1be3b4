import Derived.Test.YtncagdfbgpdhfaaGreatP30
import Derived.Laws.OwnMore
/- The walk of Commit. -/
namespace Go.Proofs.YtncagdfbgpdhfaaGreat
open Go.RowKit Go.Maps

attribute [local go_sem] Oper.semAt_some
theorem step_kindError {ops : Array Oper} {o : Oper} {a : Act} {K : Act → World → Prop} {Q : Exit → Act → World → Prop} {E : Prop} (w : World) (ok : Bool) (e0 E0 : Int) (hE : E0 = if e0 = 0 ∧ ok = false then 170 else e0) (hgd : o.guard = none) (x y : Nat)
    (ho : o.op = .call { callee := .value (.func 142), args := #[.tmp x, .tmp y], argTypes := #[4, 32] }) (hx : a.tmps[x]?.getD undef = .bool ok) (hy : a.tmps[y]?.getD undef = .int .i64 e0)
    (hK : K (a.put o.dst (.int .i64 E0)) w) :
    if Region.wanted o (yielded ops a.tmps) = true then Oper.wp Tryz.prog o a w K Q else E := by
  have hw : Region.wanted o (yielded ops a.tmps) = true := by simp [Region.wanted, hgd]
  rw [if_pos hw]
  have hc := kindError_any ok e0 w
  rw [← hE] at hc
  unfold Oper.wp execOp
  simp [ho, resolve, invoke, go_sem, hx, hy]
  refine hc.mono ?_
  rintro y w' ⟨rfl, h2⟩
  rw [h2]
  simpa [go_sem] using hK

set_option maxRecDepth 20000 in
set_option maxHeartbeats 4000000 in
theorem sasCommit_any (X : Value) (t : Int) (a : Option Addr) (n c : Nat) (au : ByteArray) (dt : Int) (tx : ByteArray) (ok : Bool) (e0 E : Int) (h1 : ∀ xT w, (Instr.typeAssert X xT 78 true).run Tryz.prog w = .ok (.tuple #[.agg #[.int .u64 t, .slice a n c, .string au, .int .i64 dt, .string tx], .bool ok]) w) (hE : E = if e0 = 0 ∧ ok = false then 170 else e0) (w : World) :
    Calls Tryz.prog 110 #[X, .int .i64 e0] w fun e w' => e = .returned (.tuple #[.agg #[.int .u64 t, .slice a n c, .string au, .int .i64 dt, .string tx], .int .i64 E]) ∧ Below w.heap.size w w' := by
  go_enter Tryz.func110, Tryz.ntmps110
  go_wp2_with fail
  obtain ⟨W0, hW0⟩ : ∃ W0, W0 = ((w.alloc (.cells #[.int .u64 0, .slice none 0 0, .string ⟨#[]⟩, .int .i64 0, .string ⟨#[]⟩] 78)).alloc (.cells #[.int .u64 t, .slice a n c, .string au, .int .i64 dt, .string tx] 78)) := ⟨_, rfl⟩
  have HB0 : Hid (Below w.heap.size w W0) := (by rw [hW0]; exact ((Below.refl _ w).alloc (Nat.le_refl _) _).alloc (by simp) _ : Below w.heap.size w W0)
  have HK : Hid (E = if e0 = 0 ∧ ok = false then 170 else e0) := hE
  have b1 : Box5 W0 (w.heap.size + 1) (.int .u64 t) (.slice a n c) (.string au) (.int .i64 dt) (.string tx) := by
    have := Box5.new (w.alloc (.cells #[.int .u64 0, .slice none 0 0, .string ⟨#[]⟩, .int .i64 0, .string ⟨#[]⟩] 78)) (.int .u64 t) (.slice a n c) (.string au) (.int .i64 dt) (.string tx)
    rw [World.size_alloc] at this
    rw [hW0]; exact this
  have b0 : Box5 W0 w.heap.size (.int .u64 0) (.slice none 0 0) (.string ⟨#[]⟩) (.int .i64 0) (.string ⟨#[]⟩) := by
    have h0 := Box5.new w (.int .u64 0) (.slice none 0 0) (.string ⟨#[]⟩) (.int .i64 0) (.string ⟨#[]⟩)
    rw [hW0]; exact h0.kept ((Below.refl _ _).alloc (Nat.le_refl _) _)
  obtain ⟨x0, x1, x2, x3, x4⟩ := b1.cell
  obtain ⟨y0, y1, y2, y3, y4⟩ := b0.frozen
  obtain ⟨v0, v1, v2, v3, v4⟩ := b0.cell
  obtain ⟨z0, z1, z2, z3, z4⟩ := (b0.all (.int .u64 t) (.slice a n c) (.string au) (.int .i64 dt) (.string tx)).cell
  rw [← hW0]
  clear hW0 hE
  go_region_law (first
    | (refine step_kindError _ ok e0 E HK.out (by rfl) _ _ (by rfl) (by rfl) (by rfl) ?_))
  all_goals
   go_wp2
   refine bodyPost_ret (v := .tuple #[.agg #[.int .u64 t, .slice a n c, .string au, .int .i64 dt, .string tx], .int .i64 E]) (by simp [results, Tryz.results110, go_sem, z0, z1, z2, z3, z4]) rfl ⟨rfl, ?_⟩
   have hBd : Below w.heap.size w W0.drew := ⟨HB0.out.os, HB0.out.tape, HB0.out.output, HB0.out.size, HB0.out.block⟩
   exact below5 hBd (Nat.le_refl _) _ _ _ _ _
set_option maxRecDepth 20000 in
set_option maxHeartbeats 4000000 in
theorem scom_of (w : World) (s : Value) (i : Int) (e0 E : Int) (Rx : Value → World → Prop) (hg : Calls Tryz.prog 63 #[s, .int .u64 i] (w.alloc (.cells #[.int .u64 0, .slice none 0 0, .string ⟨#[]⟩, .int .i64 0, .string ⟨#[]⟩] 78)) fun e w' => ∃ X, e = .returned (.tuple #[X, .int .i64 e0]) ∧ Rx X w' ∧ Below (w.alloc (.cells #[.int .u64 0, .slice none 0 0, .string ⟨#[]⟩, .int .i64 0, .string ⟨#[]⟩] 78)).heap.size (w.alloc (.cells #[.int .u64 0, .slice none 0 0, .string ⟨#[]⟩, .int .i64 0, .string ⟨#[]⟩] 78)) w')
    (hX : ∀ X W, Rx X W → ∃ t a n c au dt tx ok, (∀ xT w, (Instr.typeAssert X xT 78 true).run Tryz.prog w = .ok (.tuple #[.agg #[.int .u64 t, .slice a n c, .string au, .int .i64 dt, .string tx], .bool ok]) w) ∧ (E = if e0 = 0 ∧ ok = false then 170 else e0)) :
    Calls Tryz.prog 81 #[s, .int .u64 i] w fun e w' => ∃ t a n c au dt tx X W1, e = .returned (.tuple #[.agg #[.int .u64 t, .slice a n c, .string au, .int .i64 dt, .string tx], .int .i64 E]) ∧ Rx X W1 ∧ (∃ ok, ∀ xT w, (Instr.typeAssert X xT 78 true).run Tryz.prog w = .ok (.tuple #[.agg #[.int .u64 t, .slice a n c, .string au, .int .i64 dt, .string tx], .bool ok]) w) ∧ Below (w.alloc (.cells #[.int .u64 0, .slice none 0 0, .string ⟨#[]⟩, .int .i64 0, .string ⟨#[]⟩] 78)).heap.size (w.alloc (.cells #[.int .u64 0, .slice none 0 0, .string ⟨#[]⟩, .int .i64 0, .string ⟨#[]⟩] 78)) W1 ∧ Below w.heap.size w w' ∧ (∀ k, k ≠ w.heap.size → k < W1.heap.size → w'.heap[k]? = W1.heap[k]?) := by
  have hB0 : Below w.heap.size w (w.alloc (.cells #[.int .u64 0, .slice none 0 0, .string ⟨#[]⟩, .int .i64 0, .string ⟨#[]⟩] 78)) := (Below.refl _ w).alloc (Nat.le_refl _) _
  have HX : Hid (∀ X W, Rx X W → ∃ t a n c au dt tx ok, (∀ xT w, (Instr.typeAssert X xT 78 true).run Tryz.prog w = .ok (.tuple #[.agg #[.int .u64 t, .slice a n c, .string au, .int .i64 dt, .string tx], .bool ok]) w) ∧ (E = if e0 = 0 ∧ ok = false then 170 else e0)) := hX
  clear hX
  go_enter Tryz.func81, Tryz.ntmps81
  go_wp2_with first
    | (go_at_call 63; refine hg.mono ?_; clear hg; rintro e w0 ⟨X, rfl, hR0, hBg⟩; have HR : Hid (Rx X w0) := hR0; have HBg : Hid (Below (w.alloc (.cells #[.int .u64 0, .slice none 0 0, .string ⟨#[]⟩, .int .i64 0, .string ⟨#[]⟩] 78)).heap.size (w.alloc (.cells #[.int .u64 0, .slice none 0 0, .string ⟨#[]⟩, .int .i64 0, .string ⟨#[]⟩] 78)) w0) := hBg; obtain ⟨t, a, n, c, au, dt, tx, ok, hta, hE⟩ := HX.out X w0 hR0; have HTA : Hid (∀ xT w, (Instr.typeAssert X xT 78 true).run Tryz.prog w = .ok (.tuple #[.agg #[.int .u64 t, .slice a n c, .string au, .int .i64 dt, .string tx], .bool ok]) w) := hta; have HE : Hid (E = if e0 = 0 ∧ ok = false then 170 else e0) := hE; clear hR0 hBg hta hE)
    | (go_at_call 110; refine (sasCommit_any X t a n c au dt tx ok e0 E HTA.out HE.out _).mono ?_; rintro e w1 ⟨rfl, hB1⟩; have HB : Below (w.alloc (.cells #[.int .u64 0, .slice none 0 0, .string ⟨#[]⟩, .int .i64 0, .string ⟨#[]⟩] 78)).heap.size (w.alloc (.cells #[.int .u64 0, .slice none 0 0, .string ⟨#[]⟩, .int .i64 0, .string ⟨#[]⟩] 78)) w1 := HBg.out.trans (hB1.mono HBg.out.size); have hb : Box5 w1 w.heap.size (.int .u64 0) (.slice none 0 0) (.string ⟨#[]⟩) (.int .i64 0) (.string ⟨#[]⟩) := (HB.block w.heap.size (by simp)).trans (World.alloc_heap_new _ _); obtain ⟨cb0, cb1, cb2, cb3, cb4⟩ := hb.cell; obtain ⟨fb0, fb1, fb2, fb3, fb4⟩ := hb.frozen)
  obtain ⟨d0, d1, d2, d3, d4⟩ := (hb.all (.int .u64 t) (.slice a n c) (.string au) (.int .i64 dt) (.string tx)).cell
  refine bodyPost_ret (v := .tuple #[.agg #[.int .u64 t, .slice a n c, .string au, .int .i64 dt, .string tx], .int .i64 E]) (by simp [results, Tryz.results81, go_sem, d0, d1, d2, d3, d4]) rfl ⟨t, a, n, c, au, dt, tx, X, w0, rfl, HR.out, ⟨ok, HTA.out⟩, HBg.out, below5 (hB0.trans (HB.mono (by simp))) (Nat.le_refl _) _ _ _ _ _, fun k hk hl => ?_⟩
  rw [Below.heap_setCell _ _ _ _ (by exact hk), Below.heap_setCell _ _ _ _ (by exact hk), Below.heap_setCell _ _ _ _ (by exact hk), Below.heap_setCell _ _ _ _ (by exact hk), Below.heap_setCell _ _ _ _ (by exact hk)]
  exact hB1.block k hl
theorem scom_no (w : World) (s d : Nat) (os : List Ob) (sz : Nat) (cut : Bool) (F : Nat → Prop) (h : IsSt w s d os sz cut F) (i : Int) (h0 : 0 ≤ i) (h1 : i ≤ 18446744073709551615) (o : Ob) (hf : findO os i = some o) (hk : isCom o = false) :
    Calls Tryz.prog 81 #[.pointer (some ⟨s, 0, none⟩), .int .u64 i] w fun e w' => ∃ t a n c au dt tx, e = .returned (.tuple #[.agg #[.int .u64 t, .slice a n c, .string au, .int .i64 dt, .string tx], .int .i64 170]) ∧ Below w.heap.size w w' := by
  refine (scom_of w (.pointer (some ⟨s, 0, none⟩)) i 0 170 (fun X W => ∃ O, Held O o X W) ((get_there _ s d os sz cut F (h.below ((Below.refl _ w).alloc (Nat.le_refl _) _)) i h0 h1 o hf).mono fun e w' ⟨u, h1, h2, h3⟩ => ⟨u, h1, ⟨_, h2⟩, h3⟩) ?_).mono ?_
  · rintro X W ⟨O, hX⟩
    obtain ⟨t, u, rfl, ht⟩ := held_iface hX
    refine ⟨0, none, 0, 0, ⟨#[]⟩, 0, ⟨#[]⟩, false, no_commit t ?_ u, rfl⟩
    rw [ht]
    cases o <;> first | (cases hk; done) | (show obT _ ≠ _; simp [obT]; done) | (simp only [obT]; decide)
  · rintro e w' ⟨t, a, n, c, au, dt, tx, X, W1, he, _, _, _, hB, _⟩
    exact ⟨t, a, n, c, au, dt, tx, he, hB⟩
end Go.Proofs.YtncagdfbgpdhfaaGreat

/- A history of package graph in memory: members, frames of the pile, the map of how far ids have come. -/
namespace Go.Proofs.YtncagdfbgpdhfaaGreat
open Go.RowKit Go.Maps

/-- ids that lie in these blocks alone -/
def HI (K : Nat → Prop) (w : World) (a : Option Addr) (n : Nat) (l : List Int) : Prop := ∀ W : World, (∀ k, K k → W.heap[k]? = w.heap[k]?) → Ids W a n l
theorem HI.get {K : Nat → Prop} {w : World} {a : Option Addr} {n : Nat} {l : List Int} (h : HI K w a n l) : Ids w a n l := h w fun _ _ => rfl
theorem HI.kept {K : Nat → Prop} {w w' : World} {a : Option Addr} {n : Nat} {l : List Int} (h : HI K w a n l) (hk : ∀ k, K k → w'.heap[k]? = w.heap[k]?) : HI K w' a n l := fun W hW => h W fun k hK => (hW k hK).trans (hk k hK)
theorem HI.wide {K K' : Nat → Prop} {w : World} {a : Option Addr} {n : Nat} {l : List Int} (h : HI K w a n l) (hs : ∀ k, K k → K' k) : HI K' w a n l := fun W hW => h W fun k hK => hW k (hs k hK)
theorem HI.of_ids {w : World} {a : Option Addr} {n : Nat} {l : List Int} (h : Ids w a n l) : HI (fun k => k < w.heap.size) w a n l := fun W hW =>
  ⟨h.1, fun h0 => by
    obtain ⟨b, off, e, hc⟩ := h.2 h0
    refine ⟨b, off, e, fun j x hx => ?_⟩
    have := hc j x hx
    rw [World.cell?_of_block (hW b (World.block_lt_of_cell? w _ this))]
    exact this⟩

theorem HI.tail {K : Nat → Prop} {w : World} {b o n : Nat} {x : Int} {l : List Int} (h : HI K w (some ⟨b, o, none⟩) n (x :: l)) : HI K w (some ⟨b, o + 1, none⟩) (n - 1) l := fun W hW => by
  have h1 := h W hW
  have h2 := h1.1
  rw [List.length_cons] at h2
  refine ⟨by omega, fun h0 => ?_⟩
  obtain ⟨b', o', e, hc⟩ := h1.2 (by omega)
  cases e
  refine ⟨b, o + 1, rfl, fun j y hy => ?_⟩
  have := hc (j + 1) y (by simpa using hy)
  rw [show o + 1 + j = o + (j + 1) by omega]
  exact this
theorem HI.tail0 {K : Nat → Prop} {w : World} {a a' : Option Addr} {n : Nat} {x : Int} {l : List Int} (h : HI K w a n (x :: l)) (hn : n = 1) : HI K w a' 0 l := fun W hW => by
  have h2 := (h W hW).1
  rw [List.length_cons] at h2
  exact ⟨by omega, fun h0 => by omega⟩
/-- a commit of a history in memory -/
structure Mb where
  id : Int
  t : Int
  pa : Option Addr
  pn : Nat
  pc : Nat
  au : ByteArray
  d : Int
  tx : ByteArray
  ps : List Int
def Mb.none : Mb := ⟨0, 0, .none, 0, 0, ⟨#[]⟩, 0, ⟨#[]⟩, []⟩
def mbCells : List Mb → List Value
  | [] => []
  | m :: r => .int .u64 m.id :: .int .u64 m.t :: .slice m.pa m.pn m.pc :: .string m.au :: .int .i64 m.d :: .string m.tx :: mbCells r
theorem mbCells_one : ∀ (l : List Mb), ∀ u ∈ mbCells l, u.oneCell' = true
  | [], u, h => by cases h
  | m :: r, u, h => by
    simp only [mbCells, List.mem_cons] at h
    rcases h with rfl | rfl | rfl | rfl | rfl | rfl | h
    · rfl
    · rfl
    · rfl
    · rfl
    · rfl
    · rfl
    · exact mbCells_one r u h
theorem mbCells_append : ∀ (l m : List Mb), mbCells (l ++ m) = mbCells l ++ mbCells m
  | [], m => rfl
  | x :: r, m => by simp [mbCells, mbCells_append r m]
theorem mbCells_get : ∀ (l : List Mb) (j : Nat) (m : Mb), l[j]? = some m → (mbCells l)[j * 6]? = some (.int .u64 m.id) ∧ (mbCells l)[j * 6 + 1]? = some (.int .u64 m.t) ∧ (mbCells l)[j * 6 + 2]? = some (.slice m.pa m.pn m.pc) ∧ (mbCells l)[j * 6 + 3]? = some (.string m.au) ∧ (mbCells l)[j * 6 + 4]? = some (.int .i64 m.d) ∧ (mbCells l)[j * 6 + 5]? = some (.string m.tx)
  | [], j, m, h => by simp at h
  | y :: r, 0, m, h => by
    simp at h; subst h
    exact ⟨rfl, rfl, rfl, rfl, rfl, rfl⟩
  | y :: r, j + 1, m, h => by
    have ih := mbCells_get r j m (by simpa using h)
    rw [show (j + 1) * 6 = j * 6 + 6 by omega]
    exact ih

/-- a frame of the pile: a commit, and those of its parents that are left -/
structure Fr where
  m : Mb
  la : Option Addr
  ln : Nat
  lc : Nat
  l : List Int
def frCells : List Fr → List Value
  | [] => []
  | f :: r => .int .u64 f.m.id :: .int .u64 f.m.t :: .slice f.m.pa f.m.pn f.m.pc :: .string f.m.au :: .int .i64 f.m.d :: .string f.m.tx :: .slice f.la f.ln f.lc :: frCells r
theorem frCells_len : ∀ l : List Fr, (frCells l).length = l.length * 7
  | [] => rfl
  | m :: r => by simp only [frCells, List.length_cons, frCells_len r]; omega
theorem frCells_one : ∀ (l : List Fr), ∀ u ∈ frCells l, u.oneCell' = true
  | [], u, h => by cases h
  | m :: r, u, h => by
    simp only [frCells, List.mem_cons] at h
    rcases h with rfl | rfl | rfl | rfl | rfl | rfl | rfl | h
    · rfl
    · rfl
    · rfl
    · rfl
    · rfl
    · rfl
    · rfl
    · exact frCells_one r u h
theorem frCells_append : ∀ (l m : List Fr), frCells (l ++ m) = frCells l ++ frCells m
  | [], m => rfl
  | x :: r, m => by simp [frCells, frCells_append r m]
theorem frCells_last (r : List Fr) (f : Fr) : (frCells (r ++ [f]))[r.length * 7]? = some (.int .u64 f.m.id) ∧ (frCells (r ++ [f]))[r.length * 7 + 1]? = some (.int .u64 f.m.t) ∧ (frCells (r ++ [f]))[r.length * 7 + 2]? = some (.slice f.m.pa f.m.pn f.m.pc) ∧ (frCells (r ++ [f]))[r.length * 7 + 3]? = some (.string f.m.au) ∧ (frCells (r ++ [f]))[r.length * 7 + 4]? = some (.int .i64 f.m.d) ∧ (frCells (r ++ [f]))[r.length * 7 + 5]? = some (.string f.m.tx) ∧ (frCells (r ++ [f]))[r.length * 7 + 6]? = some (.slice f.la f.ln f.lc) := by
  rw [frCells_append]
  have e := frCells_len r
  refine ⟨?_, ?_, ?_, ?_, ?_, ?_, ?_⟩ <;> rw [List.getElem?_append_right (by omega), e] <;> simp [frCells]
theorem frCells_set (r : List Fr) (f : Fr) (a : Option Addr) (n c : Nat) (l : List Int) : (frCells (r ++ [f])).set (r.length * 7 + 6) (.slice a n c) = frCells (r ++ [⟨f.m, a, n, c, l⟩]) := by
  rw [frCells_append, frCells_append]
  have e := frCells_len r
  rw [List.set_append_right _ _ (by omega), e]
  simp [frCells]
/-- the pile as it is told: its top first -/
def toldP (fs : List Fr) : List (Int × List Int) := fs.reverse.map fun f => (f.m.id, f.l)
theorem toldP_snoc (r : List Fr) (f : Fr) : toldP (r ++ [f]) = (f.m.id, f.l) :: toldP r := by simp [toldP]
theorem toldP_len (r : List Fr) : (toldP r).length = r.length := by simp [toldP]

theorem zeroIntN (w : World) : (zeroValue 3).run Tryz.prog w = .ok (.int .i64 0) w := by kernel_rfl
/-- block b is a map of ids to numbers -/
def BnAt (w : World) (b : Nat) (f : Int → Int) (k : Nat) : Prop := ∃ M : DataW Value, w.ownsMap Tryz.prog 31 rvO b (size M) M ∧ size M ≤ k ∧ ∀ i, M.atKey (.int .u64 i) (.held (.int .i64 0)) = .held (.int .i64 (f i))
theorem BnAt.look {w : World} {b : Nat} {f : Int → Int} {k : Nat} (h : BnAt w b f k) (i : Int) (h0 : 0 ≤ i) (h1 : i ≤ 18446744073709551615) (W : World) (hW : W.heap[b]? = w.heap[b]?) : (Instr.lookup 100 (.map (some b)) (.int .u64 i) false).run Tryz.prog W = .ok (.int .i64 (f i)) W := by
  obtain ⟨M, h2, h3, h4⟩ := h
  obtain ⟨u', ps, hrun, hu'⟩ := (ownsMap_kept h2 hW).lookup keyedI Tryz.underlying100 (zeroIntN W) (show rvO (.int .i64 0) = some (.held (.int .i64 0), []) from rfl) (keyOfI i h0 h1)
  rw [h4] at hu'
  simp only [rvO, Option.some.injEq, Prod.mk.injEq] at hu'
  obtain ⟨e, _⟩ := hu'
  cases e
  exact hrun
theorem BnAt.kept {w w' : World} {b : Nat} {f : Int → Int} {k : Nat} (h : BnAt w b f k) (hk : w'.heap[b]? = w.heap[b]?) : BnAt w' b f k := by
  obtain ⟨M, h1, h2⟩ := h
  exact ⟨M, ownsMap_kept h1 hk, h2⟩
theorem BnAt.lt {w : World} {b : Nat} {f : Int → Int} {k : Nat} (h : BnAt w b f k) : b < w.heap.size := by
  obtain ⟨M, h1, h2⟩ := h
  exact h1.lt
theorem BnAt.put {w : World} {b : Nat} {f : Int → Int} {k : Nat} (h : BnAt w b f k) (i : Int) (h0 : 0 ≤ i) (h1 : i ≤ 18446744073709551615) (hk : k < maxLen) (v : Int) : ∃ w2, (Instr.mapUpdate 100 (.map (some b)) (.int .u64 i) (.int .i64 v)).run Tryz.prog w = .ok () w2 ∧ BnAt w2 b (setG f i v) (k + 1) ∧ w.grownBy w2 (some b) := by
  obtain ⟨M, h2, h3, h4⟩ := h
  obtain ⟨w2, hrun, own2, hg2⟩ := h2.update keyedI Tryz.underlying100 (by omega) (keyOfI i h0 h1) (show rvO (.int .i64 v) = some (.held (.int .i64 v), []) from rfl)
  have hm := h2.isMap
  have htidy := h2.tidy keyedI
  refine ⟨w2, hrun, ⟨_, ownsMap_tightI own2, ?_, fun l => ?_⟩, hg2⟩
  · rw [size_put htidy]
    split <;> omega
  · by_cases e : l = i
    · subst e
      rw [atKey_put_same hm (keyLitI _)]
      simp [setG]
    · rw [atKey_put_other (key_neI e), h4]
      simp [setG, e]
theorem BnAt.new (w : World) : BnAt (w.alloc (.map #[] 0)) w.heap.size (fun _ => 0) 0 := ⟨.map [], World.ownsMap_made w Tryz.prog 31 rvO, Nat.le_refl _, fun _ => rfl⟩

/-- what a member says is what the store has -/
structure MbOk (os : List Ob) (K : Nat → Prop) (w : World) (m : Mb) : Prop where
  rng : 0 ≤ m.id ∧ m.id ≤ 18446744073709551615
  com : parsO os m.id = some m.ps
  par : HI K w m.pa m.pn m.ps
  len : m.pn ≤ m.pc ∧ m.pn ≤ 8
  pars : ∀ x ∈ m.ps, 0 ≤ x ∧ x ≤ 18446744073709551615
  tree : 0 ≤ m.t ∧ m.t ≤ 18446744073709551615
theorem MbOk.kept {os : List Ob} {K : Nat → Prop} {w w' : World} {m : Mb} (h : MbOk os K w m) (hk : ∀ k, K k → w'.heap[k]? = w.heap[k]?) : MbOk os K w' m := { h with par := h.par.kept hk }
theorem MbOk.wide {os : List Ob} {K K' : Nat → Prop} {w : World} {m : Mb} (h : MbOk os K w m) (hs : ∀ k, K k → K' k) : MbOk os K' w m := { h with par := h.par.wide hs }

/-- block h is a history: the store at s, the map at mb, the order ov -/
structure HAt (w : World) (h s mb : Nat) (ov : Value) (os : List Ob) (been : Int → Int) (c : Nat) (ms : List Mb) (K : Nat → Prop) : Prop where
  c0 : w.cell? ⟨h, 0, none⟩ = some (.pointer (some ⟨s, 0, none⟩))
  c1 : w.cell? ⟨h, 1, none⟩ = some (.map (some mb))
  c2 : w.cell? ⟨h, 2, none⟩ = some ov
  f2 : w.frozen? ⟨h, 2, none⟩ = false
  bn : BnAt w mb been c
  row : w.ownsRow 0 137 6 ov ms.length (mbCells ms)
  mem : ∀ m ∈ ms, MbOk os K w m
  hm : h ≠ mb
  vo : ∀ g, ov.ownBlock = some g → g ≠ h ∧ g ≠ mb ∧ ¬ K g
  nk : ¬ K h ∧ ¬ K mb
  klt : ∀ k, K k → k < w.heap.size
/-- the blocks that a history owns -/
def HX (h mb : Nat) (ov : Value) : Nat → Prop := fun k => k = h ∨ k = mb ∨ ov.ownBlock = some k
theorem HAt.hlt {w : World} {h s mb : Nat} {ov : Value} {os : List Ob} {been : Int → Int} {c : Nat} {ms : List Mb} {K : Nat → Prop} (H : HAt w h s mb ov os been c ms K) : h < w.heap.size := World.block_lt_of_cell? w _ H.c0
theorem HAt.xlt {w : World} {h s mb : Nat} {ov : Value} {os : List Ob} {been : Int → Int} {c : Nat} {ms : List Mb} {K : Nat → Prop} (H : HAt w h s mb ov os been c ms K) (k : Nat) (hk : HX h mb ov k) : k < w.heap.size := by
  rcases hk with rfl | rfl | hk
  · exact H.hlt
  · exact H.bn.lt
  · exact (H.row.lt k hk).2
theorem HAt.xk {w : World} {h s mb : Nat} {ov : Value} {os : List Ob} {been : Int → Int} {c : Nat} {ms : List Mb} {K : Nat → Prop} (H : HAt w h s mb ov os been c ms K) (k : Nat) (hk : HX h mb ov k) : ¬ K k := by
  rcases hk with rfl | rfl | hk
  · exact H.nk.1
  · exact H.nk.2
  · exact (H.vo k hk).2.2
theorem HAt.kept {w w' : World} {h s mb : Nat} {ov : Value} {os : List Ob} {been : Int → Int} {c : Nat} {ms : List Mb} {K : Nat → Prop} (H : HAt w h s mb ov os been c ms K) (hs : w.heap.size ≤ w'.heap.size) (hk : ∀ k, HX h mb ov k ∨ K k → w'.heap[k]? = w.heap[k]?) : HAt w' h s mb ov os been c ms K :=
  { H with
    c0 := by rw [World.cell?_of_block (hk h (.inl (.inl rfl)))]; exact H.c0
    c1 := by rw [World.cell?_of_block (hk h (.inl (.inl rfl)))]; exact H.c1
    c2 := by rw [World.cell?_of_block (hk h (.inl (.inl rfl)))]; exact H.c2
    f2 := by rw [World.frozen?_of_block (hk h (.inl (.inl rfl)))]; exact H.f2
    bn := H.bn.kept (hk mb (.inl (.inr (.inl rfl))))
    row := row_moved H.row fun g hg => hk g (.inl (.inr (.inr hg)))
    mem := fun m hm => (H.mem m hm).kept fun k hK => hk k (.inr hK)
    klt := fun k hK => Nat.lt_of_lt_of_le (H.klt k hK) hs }
theorem HAt.turn {w w' : World} {h s mb : Nat} {ov : Value} {os : List Ob} {been : Int → Int} {c : Nat} {ms : List Mb} {K Gp : Nat → Prop} (H : HAt w h s mb ov os been c ms K) (ht : Turn Gp w w') (hd : ∀ k, HX h mb ov k ∨ K k → ¬ Gp k) : HAt w' h s mb ov os been c ms K :=
  H.kept ht.size fun k hk => ht.block k (hk.elim (H.xlt k) (H.klt k)) (hd k hk)
theorem HAt.below {w w' : World} {h s mb : Nat} {ov : Value} {os : List Ob} {been : Int → Int} {c : Nat} {ms : List Mb} {K : Nat → Prop} (H : HAt w h s mb ov os been c ms K) (hB : Below w.heap.size w w') : HAt w' h s mb ov os been c ms K :=
  H.turn (Turn.of_below (fun _ => False) hB) (fun _ _ => id)
end Go.Proofs.YtncagdfbgpdhfaaGreat

/- What a store answers of a commit that is asked for by its id, as the graph's walks need it. -/
namespace Go.Proofs.YtncagdfbgpdhfaaGreat
open Go.RowKit Go.Maps

theorem scom_not (w : World) (s d : Nat) (os : List Ob) (sz : Nat) (cut : Bool) (F : Nat → Prop) (h : IsSt w s d os sz cut F) (i : Int) (h0 : 0 ≤ i) (h1 : i ≤ 18446744073709551615) (hf : findO os i = none) :
    Calls Tryz.prog 81 #[.pointer (some ⟨s, 0, none⟩), .int .u64 i] w fun e w' => ∃ t a n c au dt tx, e = .returned (.tuple #[.agg #[.int .u64 t, .slice a n c, .string au, .int .i64 dt, .string tx], .int .i64 4]) ∧ Below w.heap.size w w' := by
  refine (scom_of w (.pointer (some ⟨s, 0, none⟩)) i 4 4 (fun X _ => X = .nilIface) ((get_not _ s d os sz cut F (h.below ((Below.refl _ w).alloc (Nat.le_refl _) _)) i h0 h1 hf).mono fun e w' h => ⟨_, h.1, rfl, h.2 ▸ Below.refl _ _⟩) ?_).mono ?_
  · rintro X W rfl
    exact ⟨0, none, 0, 0, ⟨#[]⟩, 0, ⟨#[]⟩, false, nil_commit, rfl⟩
  · rintro e w' ⟨t, a, n, c, au, dt, tx, X, W1, he, _, _, _, hB, _⟩
    exact ⟨t, a, n, c, au, dt, tx, he, hB⟩
theorem scom_held (w : World) (s d : Nat) (os : List Ob) (sz : Nat) (cut : Bool) (F : Nat → Prop) (h : IsSt w s d os sz cut F) (i : Int) (h0 : 0 ≤ i) (h1 : i ≤ 18446744073709551615) (o : Ob) (hf : findO os i = some o) (hk : isCom o = true) :
    Calls Tryz.prog 81 #[.pointer (some ⟨s, 0, none⟩), .int .u64 i] w fun e w' => ∃ t a n c au dt tx, e = .returned (.tuple #[.agg #[.int .u64 t, .slice a n c, .string au, .int .i64 dt, .string tx], .int .i64 0]) ∧ Held (fun k => w.heap.size ≤ k ∧ k < w'.heap.size) o (.iface 78 (.agg #[.int .u64 t, .slice a n c, .string au, .int .i64 dt, .string tx])) w' ∧ Below w.heap.size w w' := by
  refine (scom_of w (.pointer (some ⟨s, 0, none⟩)) i 0 0 (fun X W => Held (Fresh (w.heap.size + 1) W) o X W) ((get_there _ s d os sz cut F (h.below ((Below.refl _ w).alloc (Nat.le_refl _) _)) i h0 h1 o hf).mono fun e w' ⟨u, h1, h2, h3⟩ => ⟨u, h1, by rw [World.size_alloc] at h2; exact h2, h3⟩) ?_).mono ?_
  · rintro X W hX
    cases o <;> first | (cases hk; done) | skip
    obtain ⟨ad, cp, rfl, _⟩ := hX.get.1; exact ⟨_, ad, _, cp, _, _, _, true, as_commit _, rfl⟩
  · rintro e w' ⟨t, a, n, c, au, dt, tx, X, W1, he, hX, ⟨ok, hta⟩, hBW, hB, hsame⟩
    refine ⟨t, a, n, c, au, dt, tx, he, ?_, hB⟩
    have hX' := hX.kept (W' := w') fun k hk => hsame k (by have := hk.1; omega) hk.lt
    obtain ⟨t0, u, rfl, ht⟩ := held_iface hX
    have h2 : t0 = 78 := by rw [ht]; cases o <;> first | (cases hk; done) | rfl
    subst h2
    have h3 := hta 0 w
    rw [as_commit] at h3
    cases h3
    refine hX'.wide fun k hk => ⟨by have := hk.1; omega, ?_⟩
    have h4 := hsame k (by have := hk.1; omega) hk.lt
    obtain ⟨_, ob, hob, _⟩ := hk
    rw [hob] at h4
    exact (Array.getElem?_eq_some_iff.1 h4).1

theorem par_len {c : ComD} (h : obErr (.com c) = 0) : c.2.1.length ≤ 8 := by
  have h0' : comErr c.1 c.2.1 c.2.2.1 c.2.2.2.2 = 0 := h
  unfold comErr at h0'
  split at h0'
  · omega
  · split at h0'
    · rename_i hp; omega
    · rename_i hp
      simp only [ne_eq, Decidable.not_not] at hp
      unfold parErr at hp
      split at hp
      · omega
      · omega
theorem gcom_yes (w : World) (s d : Nat) (os : List Ob) (sz : Nat) (cut : Bool) (F : Nat → Prop) (h : IsSt w s d os sz cut F) (i : Int) (h0 : 0 ≤ i) (h1 : i ≤ 18446744073709551615) (ps : List Int) (hp : parsO os i = some ps) :
    Calls Tryz.prog 81 #[.pointer (some ⟨s, 0, none⟩), .int .u64 i] w fun e w' => (∃ m : Mb, m.id = i ∧ m.ps = ps ∧ e = .returned (.tuple #[.agg #[.int .u64 m.t, .slice m.pa m.pn m.pc, .string m.au, .int .i64 m.d, .string m.tx], .int .i64 0]) ∧ MbOk os (fun k => w.heap.size ≤ k ∧ k < w'.heap.size) w' m) ∧ Below w.heap.size w w' := by
  have hp0 := hp
  unfold parsO at hp
  cases hf : findO os i with
  | none => rw [hf] at hp; cases hp
  | some o =>
    rw [hf] at hp
    cases o with
    | blob b => cases hp
    | tree l => cases hp
    | com c =>
      have hc : c.2.1 = ps := by simpa [parO] using hp
      have hgd : obErr (.com c) = 0 := by
        obtain ⟨j, b, M, v, FJ, O, h⟩ := h
        exact h.good _ (findO_mem hf).1
      have hl := par_len hgd
      refine (scom_held w s d os sz cut F h i h0 h1 _ hf rfl).mono ?_
      rintro e w' ⟨t, a, n, cc, au, dt, tx, rfl, hH, hB⟩
      obtain ⟨ad, cp, hv, hC⟩ := hH.get.1
      cases hv
      refine ⟨⟨⟨i, c.1, a, c.2.1.length, cc, c.2.2.1, c.2.2.2.1, c.2.2.2.2, c.2.1⟩, rfl, hc, rfl, ⟨h0, h1⟩, by rw [hp0, hc], fun W hW => ?_, ⟨hC.len.1, hl⟩, fun x hx => ?_, ?_⟩, hB⟩
      · obtain ⟨ad, cp, hv, hC⟩ := (hH W hW).1
        cases hv
        exact hC.par
      · have := hC.pars x hx
        omega
      · have := hC.tree
        show 0 ≤ c.1 ∧ c.1 ≤ _
        omega
theorem gcom_no (w : World) (s d : Nat) (os : List Ob) (sz : Nat) (cut : Bool) (F : Nat → Prop) (h : IsSt w s d os sz cut F) (i : Int) (h0 : 0 ≤ i) (h1 : i ≤ 18446744073709551615) (hp : parsO os i = none) :
    Calls Tryz.prog 81 #[.pointer (some ⟨s, 0, none⟩), .int .u64 i] w fun e w' => ∃ t a n c au dt tx, e = .returned (.tuple #[.agg #[.int .u64 t, .slice a n c, .string au, .int .i64 dt, .string tx], .int .i64 (errO os i)]) ∧ Below w.heap.size w w' := by
  unfold errO
  unfold parsO at hp
  cases hf : findO os i with
  | none => exact scom_not w s d os sz cut F h i h0 h1 hf
  | some o =>
    rw [hf] at hp
    cases o with
    | com c => cases hp
    | blob b => exact scom_no w s d os sz cut F h i h0 h1 _ hf rfl
    | tree l => exact scom_no w s d os sz cut F h i h0 h1 _ hf rfl
theorem errO_ne (os : List Ob) (i : Int) : errO os i ≠ 0 := by unfold errO; split <;> omega
end Go.Proofs.YtncagdfbgpdhfaaGreat
