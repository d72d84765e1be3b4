import Derived.Test.YtggnglgehobglaaL14
import Derived.Maps.OwnIn
import Derived.Maps.AppendAt
import Derived.Carry
/- Rules in a row of one's own, without the layer quote. -/
namespace Go.Proofs.Ytggnglgehobglaa
open Go.RowKit Go.Shelf Go.Maps

attribute [local go_sem] Oper.semAt_some

theorem infoRule : (Try.prog.info? 41).map (fun i => (i.zero, i.size, i.bytes)) = some (some (.agg #[.int .i64 0, .string ⟨#[]⟩, .string ⟨#[]⟩]), 3, 40) := by kernel_rfl
def ruCells : List Ru → List Value
  | [] => []
  | x :: r => .int .i64 x.1 :: .string (mk x.2.1) :: .string (mk x.2.2) :: ruCells r
theorem ruCells_len : ∀ l : List Ru, (ruCells l).length = l.length * 3
  | [] => rfl
  | x :: r => by simp only [ruCells, List.length_cons, ruCells_len r]; omega
theorem ruCells_one : ∀ (l : List Ru), ∀ u ∈ ruCells l, u.oneCell' = true
  | [], u, h => by cases h
  | x :: r, u, h => by
    simp only [ruCells, List.mem_cons] at h
    rcases h with rfl | rfl | rfl | h
    · rfl
    · rfl
    · rfl
    · exact ruCells_one r u h
theorem ruCells_append : ∀ (l m : List Ru), ruCells (l ++ m) = ruCells l ++ ruCells m
  | [], m => rfl
  | x :: r, m => by simp [ruCells, ruCells_append r m]
theorem ruCells_get : ∀ (l : List Ru) (j : Nat) (x : Ru), l[j]? = some x → (ruCells l)[j * 3]? = some (.int .i64 x.1) ∧ (ruCells l)[j * 3 + 1]? = some (.string (mk x.2.1)) ∧ (ruCells l)[j * 3 + 2]? = some (.string (mk x.2.2))
  | [], j, x, h => by simp at h
  | y :: r, 0, x, h => by
    simp at h; subst h
    exact ⟨rfl, rfl, rfl⟩
  | y :: r, j + 1, x, h => by
    have ih := ruCells_get r j x (by simpa using h)
    rw [show (j + 1) * 3 = j * 3 + 3 by omega]
    exact ih
/-- a slice of rules -/
def Rus (w : World) (a : Option Addr) (n : Nat) (l : List Ru) : Prop := l.length = n ∧ (0 < n → ∃ b off, a = some ⟨b, off, none⟩ ∧ ∀ (j : Nat) x, l[j]? = some x → w.cell? ⟨b, off + j * 3, none⟩ = some (.int .i64 x.1) ∧ w.cell? ⟨b, off + j * 3 + 1, none⟩ = some (.string (mk x.2.1)) ∧ w.cell? ⟨b, off + j * 3 + 2, none⟩ = some (.string (mk x.2.2)))
theorem Rus.kept {w w' : World} {a : Option Addr} {n : Nat} {l : List Ru} (h : Rus w a n l) (hB : Below w.heap.size w w') : Rus w' a n l :=
  ⟨h.1, fun h0 => by
    obtain ⟨b, off, e, hc⟩ := h.2 h0
    refine ⟨b, off, e, fun j x hx => ?_⟩
    obtain ⟨h1, h2, h3⟩ := hc j x hx
    exact ⟨(hB.cell (p := ⟨b, off + j * 3, none⟩) (World.block_lt_of_cell? w _ h1)).trans h1, (hB.cell (p := ⟨b, off + j * 3 + 1, none⟩) (World.block_lt_of_cell? w _ h2)).trans h2, (hB.cell (p := ⟨b, off + j * 3 + 2, none⟩) (World.block_lt_of_cell? w _ h3)).trans h3⟩⟩
theorem rus_nil (w : World) (a : Option Addr) : Rus w a 0 [] := ⟨rfl, fun h => by omega⟩
theorem row_shapeR {w : World} {B n : Nat} {v : Value} {xs : List Value} (h : w.ownsRow B 41 3 v n xs) : ∃ ad c, v = .slice ad n c ∧ n ≤ c ∧ (ad = none → n = 0 ∧ c = 0) := by
  rcases h.2 with ⟨rfl, rfl⟩ | ⟨g, cap, cur, rfl, _, _, hc, _⟩
  · exact ⟨none, 0, rfl, Nat.le_refl _, fun _ => ⟨rfl, rfl⟩⟩
  · exact ⟨_, _, rfl, hc, fun h => by cases h⟩
theorem own_rus {w : World} {B n c : Nat} {ad : Option Addr} {l : List Ru} (h : w.ownsRow B 41 3 (.slice ad n c) n (ruCells l)) (hl : l.length = n) : Rus w ad n l := by
  refine ⟨hl, fun h0 => ?_⟩
  rcases h.2 with ⟨e, h'⟩ | ⟨g, cap, cur, e, _⟩
  · omega
  · cases e
    refine ⟨g, 0, rfl, fun j x hx => ?_⟩
    obtain ⟨h1, h2, h3⟩ := ruCells_get l j x hx
    have c1 := h.cells (g := g) rfl _ _ h1
    have c2 := h.cells (g := g) rfl _ _ h2
    have c3 := h.cells (g := g) rfl _ _ h3
    rw [Addr.add_lit] at c1 c2 c3
    simp only [Nat.zero_add] at c1 c2 c3 ⊢
    exact ⟨c1, c2, c3⟩
theorem row_blockR {W : World} {base n : Nat} {v : Value} {xs : List Value} (h : W.ownsRow base 41 3 v n xs) : ∀ r, v.ownBlock = some r → base ≤ r ∧ r < W.heap.size ∧ ∃ cur, W.heap[r]? = some (.cells cur 41 (0, 0)) := by
  intro r hr
  rcases h.2 with ⟨rfl, _⟩ | ⟨g, cap, cur, rfl, hb, hg, _⟩
  · cases hr
  · cases hr
    exact ⟨hb, (Array.getElem?_eq_some_iff.1 hg).1, cur, hg⟩
theorem below_grR {W W' : World} {B n : Nat} {v : Value} {xs : List Value} (h : W.ownsRow B 41 3 v n xs) (hB : B ≤ W.heap.size) (hg : W.grownBy W' v.ownBlock) : Below B W W' :=
  ⟨hg.os, hg.tape, hg.output, hg.size, fun k hk => hg.block k (by omega) (fun e => by have := (row_blockR h k e.symm).1; omega)⟩
theorem row_movedR {W W' : World} {base n : Nat} {v : Value} {xs : List Value} (h : W.ownsRow base 41 3 v n xs) (hs : ∀ r, v.ownBlock = some r → W'.heap[r]? = W.heap[r]?) : W'.ownsRow base 41 3 v n xs := by
  refine ⟨h.1, ?_⟩
  rcases h.2 with h | ⟨g, cap, cur, rfl, hg, hb, rest⟩
  · exact .inl h
  · exact .inr ⟨g, cap, cur, rfl, hg, (hs g rfl).trans hb, rest⟩
theorem row_baseR {W : World} {base base' n : Nat} {v : Value} {xs : List Value} (h : W.ownsRow base 41 3 v n xs) (hb : base' ≤ base) : W.ownsRow base' 41 3 v n xs := by
  refine ⟨h.1, ?_⟩
  rcases h.2 with h | ⟨g, cap, cur, rfl, hg, rest⟩
  · exact .inl h
  · exact .inr ⟨g, cap, cur, rfl, Nat.le_trans hb hg, rest⟩
theorem cells_ru_new (W : World) (x : Ru) : ∀ (j : Nat) u, (ruCells [x])[j]? = some u → (W.alloc (.cells #[.int .i64 x.1, .string (mk x.2.1), .string (mk x.2.2)] 41)).cell? (Addr.add ⟨W.heap.size, 0, none⟩ j) = some u := by
  intro j u hj
  match j, hj with
  | 0, hj => simp [ruCells] at hj; subst hj; simp [Addr.add]
  | 1, hj => simp [ruCells] at hj; subst hj; simp [Addr.add]
  | 2, hj => simp [ruCells] at hj; subst hj; simp [Addr.add]
end Go.Proofs.Ytggnglgehobglaa

/- A table of rules by their Froms: what it is in memory, its answers, and tableOf. -/
namespace Go.Proofs.Ytggnglgehobglaa
open Go.RowKit Go.Shelf Go.Maps

attribute [local go_sem] Oper.semAt_some

def rvT (v : Value) : Option (DataW Value × List MemPlace) := some (.held v, [])
theorem keyedT : Keyed Try.prog 9 := string_keyed Try.underlying9
theorem keyOfT (s : ByteArray) (hs : s.size ≤ maxLen) : keyOf Try.prog 9 (.string s) = some (.string (bs s)) := WideMaps.keyOf_string_mk (P := Try.prog) Try.underlying9 hs
theorem zeroRule (w : World) : (zeroValue 41).run Try.prog w = .ok (rv 0 ⟨#[]⟩ ⟨#[]⟩) w := by kernel_rfl
theorem keyNeT {l l' : List UInt8} (h : l' ≠ l) : (Lit.string l' : Lit) ≠ .string l := fun e => h (by cases e; rfl)
theorem ownsMap_keptT {w w' : World} {b n : Nat} {M : DataW Value} (h : w.ownsMap Try.prog 9 rvT b n M) (hk : w'.heap[b]? = w.heap[b]?) : w'.ownsMap Try.prog 9 rvT b n M := by
  obtain ⟨es, clock, hb, r⟩ := h
  exact ⟨es, clock, hk.trans hb, r⟩
theorem ownsMap_tightT {w : World} {b n : Nat} {M : DataW Value} (h : w.ownsMap Try.prog 9 rvT b n M) : w.ownsMap Try.prog 9 rvT b (size M) M := by
  obtain ⟨es, clock, h1, h2, h3, rfl⟩ := h
  exact ⟨es, clock, h1, h2, by simp [size, length_sorted], rfl⟩
/-- a table, plain: what stands at a From -/
abbrev Tb := List UInt8 → Option Ru
def setT (g : Tb) (l : List UInt8) (r : Ru) : Tb := fun k => if k = l then some r else g k
/-- block b is that table; it has at most n rules -/
def TbAt (w : World) (b : Nat) (g : Tb) (n : Nat) : Prop := ∃ M : DataW Value, w.ownsMap Try.prog 9 rvT b (size M) M ∧ size M ≤ n ∧ (∀ l, has M (.string l) = (g l).isSome) ∧ ∀ l, M.atKey (.string l) (.held (ruV noR)) = .held (ruV ((g l).getD noR))
theorem TbAt.lt {w : World} {b : Nat} {g : Tb} {n : Nat} (h : TbAt w b g n) : b < w.heap.size := by
  obtain ⟨M, h1, _⟩ := h
  exact h1.lt
theorem TbAt.kept {w w' : World} {b : Nat} {g : Tb} {n : Nat} (h : TbAt w b g n) (hk : w'.heap[b]? = w.heap[b]?) : TbAt w' b g n := by
  obtain ⟨M, h1, h2⟩ := h
  exact ⟨M, ownsMap_keptT h1 hk, h2⟩
theorem TbAt.below {w w' : World} {b : Nat} {g : Tb} {n : Nat} (h : TbAt w b g n) (hB : Below w.heap.size w w') : TbAt w' b g n := h.kept (hB.block b h.lt)
theorem TbAt.look {w : World} {b : Nat} {g : Tb} {n : Nat} (h : TbAt w b g n) (s : ByteArray) (hs : s.size ≤ maxLen) : (Instr.lookup 45 (.map (some b)) (.string s) true).run Try.prog w = .ok (.tuple #[ruV ((g (bs s)).getD noR), .bool (g (bs s)).isSome]) w := by
  obtain ⟨M, h1, _, h3, h4⟩ := h
  obtain ⟨u', ps, hrun, hu'⟩ := h1.look_ok keyedT Try.underlying45 (zeroRule w) (show rvT (rv 0 ⟨#[]⟩ ⟨#[]⟩) = some (.held (ruV noR), []) from rfl) (keyOfT s hs)
  rw [h4] at hu'
  simp only [rvT, Option.some.injEq, Prod.mk.injEq] at hu'
  obtain ⟨e, _⟩ := hu'
  have e2 : u' = ruV ((g (bs s)).getD noR) := by simpa using e
  rw [e2, h3] at hrun
  exact hrun
theorem TbAt.put {w : World} {b : Nat} {g : Tb} {n : Nat} (h : TbAt w b g n) (s : ByteArray) (hs : s.size ≤ maxLen) (hn : n < maxLen) (r : Ru) : ∃ w2, (Instr.mapUpdate 45 (.map (some b)) (.string s) (ruV r)).run Try.prog w = .ok () w2 ∧ TbAt w2 b (setT g (bs s) r) (n + 1) ∧ w.grownBy w2 (some b) := by
  obtain ⟨M, h1, h2, h3, h4⟩ := h
  obtain ⟨w2, hrun, own2, hg2⟩ := h1.update keyedT Try.underlying45 (by omega) (keyOfT s hs) (show rvT (ruV r) = some (.held (ruV r), []) from rfl)
  have hm := h1.isMap
  have htidy := h1.tidy keyedT
  refine ⟨w2, hrun, ⟨_, ownsMap_tightT own2, ?_, fun l => ?_, fun l => ?_⟩, hg2⟩
  · rw [size_put htidy]
    split <;> omega
  · by_cases e : l = bs s
    · subst e
      rw [has_put_same hm (show WideAt.IsKeyLit (.string (bs s)) from trivial)]
      simp [setT]
    · rw [has_put_other (keyNeT e), h3]
      simp [setT, e]
  · by_cases e : l = bs s
    · subst e
      rw [atKey_put_same hm (show WideAt.IsKeyLit (.string (bs s)) from trivial)]
      simp [setT]
    · rw [atKey_put_other (keyNeT e), h4]
      simp [setT, e]
theorem TbAt.new (w : World) : TbAt (w.alloc (.map #[] 0)) w.heap.size (fun _ => none) 0 := ⟨.map [], World.ownsMap_made w Try.prog 9 rvT, Nat.le_refl _, fun _ => rfl, fun _ => rfl⟩
/-- the table of rules: the last one of a From stands -/
def tabL : List Ru → Tb := fun rs => rs.foldl (fun g r => setT g r.2.1 r) (fun _ => none)
theorem tabL_step (rs : List Ru) (k : Nat) (r : Ru) (h : rs[k]? = some r) : tabL (rs.take (k + 1)) = setT (tabL (rs.take k)) r.2.1 r := by
  obtain ⟨hk, rfl⟩ := List.getElem?_eq_some_iff.1 h
  unfold tabL
  rw [List.take_succ_eq_append_getElem hk, List.foldl_append]
  rfl
set_option maxRecDepth 100000 in
set_option maxHeartbeats 4000000 in
theorem tableOf_any (w : World) (a : Option Addr) (n c : Nat) (rs : List Ru) (hl : Rus w a n rs) (hn : n ≤ 1000) (hs : ∀ r ∈ rs, r.2.1.length ≤ 1000000) :
    Calls Try.prog 17 #[.slice a n c] w fun e w' => ∃ b, e = .returned (.map (some b)) ∧ TbAt w' b (tabL rs) n ∧ w.heap.size ≤ b ∧ Below w.heap.size w w' := by
  have HL : Hid (Rus w a n rs ∧ ∀ r ∈ rs, r.2.1.length ≤ 1000000) := ⟨hl, hs⟩
  have hmm := @run_makeMap Try.prog
  have H0 : Hid (TbAt (w.alloc (.map #[] 0)) w.heap.size (fun _ => none) 0 ∧ Below w.heap.size w (w.alloc (.map #[] 0))) := ⟨TbAt.new w, (Below.refl _ w).alloc (Nat.le_refl _) _⟩
  clear hl hs
  go_enter Try.func17, Try.ntmps17
  go_wp2
  generalize w.alloc (.map #[] 0) = w1 at *
  generalize hmb : w.heap.size = mb at *
  have HMB : Hid (w.heap.size = mb) := hmb
  clear hmm hmb
  go_loopw [9] (fun v wr => ∃ k : Nat, k ≤ n ∧ v = .int .i64 (k : Int) ∧ Hid (TbAt wr mb (tabL (rs.take k)) k ∧ Below mb w wr)) (fun v _ => n - (intOf v).toNat)
  case atStart => exact ⟨0, Nat.zero_le _, rfl, H0.out⟩
  case round =>
    obtain ⟨k, hk, rfl, H⟩ := hrel
    by_cases hlt : k < n
    · obtain ⟨r, hr⟩ : ∃ r, rs[k]? = some r := ⟨_, List.getElem?_eq_getElem (by rw [HL.out.1.1]; exact hlt)⟩
      obtain ⟨b1, o1, hae, hc1⟩ := (HL.out.1.kept (by rw [HMB.out]; exact H.out.2)).2 (by omega)
      subst hae
      obtain ⟨q0, q1, q2⟩ := hc1 k r hr
      have hsz := HL.out.2 r (List.mem_of_getElem? hr)
      obtain ⟨f, hf⟩ : ∃ f, f = mk r.2.1 := ⟨_, rfl⟩
      obtain ⟨t, ht⟩ : ∃ t, t = mk r.2.2 := ⟨_, rfl⟩
      have hmkf : bs f = r.2.1 := by rw [hf, bs_mk]
      have hfs : f.size ≤ 1000000 := by rw [← bs_len, hmkf]; exact hsz
      have hbx : BoxR (wr.alloc (.cells #[.int .i64 r.1, .string f, .string t] 41)) wr.heap.size r.1 f t := BoxR.new wr r.1 f t
      obtain ⟨c0, c1, c2⟩ := hbx.cell
      have hB1 : Below mb w (wr.alloc (.cells #[.int .i64 r.1, .string f, .string t] 41)) := H.out.2.trans (((Below.refl _ wr).alloc (Nat.le_refl _) _).mono (by have := H.out.2.size; have := HMB.out; omega))
      have hT1 : TbAt (wr.alloc (.cells #[.int .i64 r.1, .string f, .string t] 41)) mb (tabL (rs.take k)) k := H.out.1.below ((Below.refl _ wr).alloc (Nat.le_refl _) _)
      obtain ⟨w3, hrun, hT3, hg3⟩ := hT1.put f (by unfold maxLen; omega) (by unfold maxLen; omega) r
      rw [hmkf, ← tabL_step rs k r hr] at hT3
      have hruv : ruV r = rv r.1 f t := by rw [hf, ht]
      rw [hruv] at hrun
      rw [← hf] at q1
      rw [← ht] at q2
      have HN : Hid (TbAt w3 mb (tabL (rs.take (k + 1))) (k + 1) ∧ Below mb w w3) := ⟨hT3, by
        refine ⟨hg3.os.trans hB1.os, hg3.tape.trans hB1.tape, hg3.output.trans hB1.output, Nat.le_trans hB1.size hg3.size, fun z hz => ?_⟩
        exact (hg3.block z (Nat.lt_of_lt_of_le (Nat.lt_of_lt_of_le hz (by have := HMB.out; omega)) (Nat.le_trans (Nat.le_refl _) hB1.size)) (fun e => by have := Option.some.inj e; omega)).trans (hB1.block z hz)⟩
      have i5 : (k : Int) < (n : Int) := by omega
      have i6 : ¬ n ≤ k := by omega
      generalize r.1 = kk at *
      clear hc1 hr hsz hf ht hmkf hbx hT1 hT3 hg3 hB1 H hruv
      go_wp2
      go_roundw
      case rel => exact ⟨k + 1, by omega, by simp, HN.out⟩
      case measure => simp [intOf]; omega
    · obtain rfl : k = n := by omega
      have i5 : ¬ (k : Int) < (k : Int) := by omega
      have HE : Hid (TbAt wr mb (tabL rs) k ∧ Below mb w wr) := by
        have h := H.out
        rw [List.take_of_length_le (by rw [HL.out.1.1]; exact Nat.le_refl _)] at h
        exact h
      clear H
      go_wp2
      go_ret
      exact ⟨mb, rfl, HE.out.1, Nat.le_of_eq HMB.out, by rw [HMB.out]; exact HE.out.2⟩
end Go.Proofs.Ytggnglgehobglaa
