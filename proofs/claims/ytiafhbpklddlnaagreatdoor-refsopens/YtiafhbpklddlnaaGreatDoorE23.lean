import Derived.Test.YtiafhbpklddlnaaGreatDoorE22
/- The walk of apply: changes are made. -/
namespace Go.Proofs.YtiafhbpklddlnaaGreatDoor
open Go.RowKit Go.Maps

attribute [local go_sem] Oper.semAt_some

/-- a change is made: where names lead, and how many do -/
def stepR (q : (List UInt8 → Int) × Nat) (x : Ch) : (List UInt8 → Int) × Nat :=
  (setR q.1 (bs x.1) x.2, if x.2 = 0 then (if q.1 (bs x.1) = 0 then q.2 else q.2 - 1) else (if q.1 (bs x.1) = 0 then q.2 + 1 else q.2))
def applyR (q : (List UInt8 → Int) × Nat) (l : List Ch) : (List UInt8 → Int) × Nat := l.foldl stepR q
theorem applyR_take (q : (List UInt8 → Int) × Nat) (l : List Ch) (k : Nat) (x : Ch) (h : l[k]? = some x) : applyR q (l.take (k + 1)) = stepR (applyR q (l.take k)) x := by
  have hk := (List.getElem?_eq_some_iff.1 h).1
  have hx : l[k] = x := (List.getElem?_eq_some_iff.1 h).2
  rw [List.take_succ_eq_append_getElem hk, hx]
  simp [applyR]

theorem RfAt.set {w : World} {r d j b : Nat} {M : DataW Value} {rs : List (List UInt8)} {g : List UInt8 → Int} {n sz : Nat} {cut : Bool} {FJ F : Nat → Prop} (h : RfAt w r d j b M rs g n sz cut FJ F) (s : ByteArray) (hs : s.size ≤ maxLen) (hn : n < maxLen) (i : Int) (h0 : i ≠ 0) (hi0 : 0 ≤ i) (hi1 : i ≤ 18446744073709551615) :
    ∃ w2, (Instr.mapUpdate 63 (.map (some b)) (.string s) (.int .u64 i)).run Tryz.prog w = .ok () w2 ∧ w.grownBy w2 (some b) ∧ ∃ M', RfAt w2 r d j b M' rs (stepR (g, n) (s, i)).1 (stepR (g, n) (s, i)).2 sz cut FJ F := by
  obtain ⟨w2, hrun, own2, hg2⟩ := h.own.update keyed Tryz.underlying63 (by rw [h.msz]; exact hn) (keyOfS s hs) (show rvR (.int .u64 i) = some (.held (.int .u64 i), []) from rfl)
  have hm := h.own.isMap
  have htidy := h.own.tidy keyed
  refine ⟨w2, hrun, hg2, _, h.mapped hg2 (ownsMap_tightR own2) ?_ (fun l => ?_) (fun l hl => ?_) (fun l => ?_)⟩
  · rw [size_put htidy, h.has, h.msz]
    simp only [stepR, if_neg h0, bs]
    by_cases e : g s.data.toList = 0
    · simp [e]
    · simp [e]
  · by_cases e : l = s.data.toList
    · subst e; rw [has_put_same hm (keyLit _)]; simp [stepR, setR, bs, h0]
    · rw [has_put_other (keyNeS e), h.has]; simp [stepR, setR, bs, e]
  · by_cases e : l = s.data.toList
    · subst e; rw [atKey_put_same hm (keyLit _)]; simp [stepR, setR, bs]
    · rw [atKey_put_other (keyNeS e)]
      simp only [stepR, setR, bs, if_neg e] at hl ⊢
      exact h.atk l hl
  · simp only [stepR, setR]
    split
    · exact ⟨hi0, hi1⟩
    · exact h.rng l
theorem RfAt.drop {w : World} {r d j b : Nat} {M : DataW Value} {rs : List (List UInt8)} {g : List UInt8 → Int} {n sz : Nat} {cut : Bool} {FJ F : Nat → Prop} (h : RfAt w r d j b M rs g n sz cut FJ F) (s : ByteArray) (hs : s.size ≤ maxLen) (ty : TypeId) :
    ∃ w2, (Builtin.delete_ #[63, 9] ty #[.map (some b), .string s]).run Tryz.prog w = .ok (.tuple #[]) w2 ∧ w.grownBy w2 (some b) ∧ ∃ M', RfAt w2 r d j b M' rs (stepR (g, n) (s, 0)).1 (stepR (g, n) (s, 0)).2 sz cut FJ F := by
  obtain ⟨w2, hrun, own2, ht⟩ := h.own.drop keyed Tryz.underlying63 (keyOfS s hs) ty
  have hg2 := ht.grown
  have htidy := h.own.tidy keyed
  refine ⟨w2, hrun, hg2, _, h.mapped hg2 (ownsMap_tightR own2) ?_ (fun l => ?_) (fun l hl => ?_) (fun l => ?_)⟩
  · have := size_del (k := .string s.data.toList) htidy
    rw [h.has, h.msz] at this
    by_cases e : g s.data.toList = 0
    · simp [e] at this
      simp [stepR, bs, e, this]
    · simp [e] at this
      simp [stepR, bs, e]
      omega
  · by_cases e : l = s.data.toList
    · subst e; rw [has_del_same]; simp [stepR, setR, bs]
    · rw [has_del_other (keyNeS e), h.has]; simp [stepR, setR, bs, e]
  · by_cases e : l = s.data.toList
    · simp [stepR, setR, bs, e] at hl
    · rw [atKey_del_other (keyNeS e)]
      simp only [stepR, setR, bs, if_neg e] at hl ⊢
      exact h.atk l hl
  · simp only [stepR, setR]
    split
    · exact ⟨Int.le_refl _, by omega⟩
    · exact h.rng l

theorem applyR_n (q : (List UInt8 → Int) × Nat) (l : List Ch) : (applyR q l).2 ≤ q.2 + l.length := by
  induction l generalizing q with
  | nil => simp [applyR]
  | cons x r ih =>
    have := ih (stepR q x)
    have h1 : (stepR q x).2 ≤ q.2 + 1 := by
      simp only [stepR]
      repeat' split
      all_goals omega
    simp only [applyR, List.foldl_cons, List.length_cons] at this ⊢
    omega

theorem wp_deleteR (w : World) {o : Oper} {a : Act} {K : Act → World → Prop} {Q : Exit → Act → World → Prop} (s x : Operand)
    (ho : o.op = .call { callee := .builtin .delete, args := #[s, x], argTypes := #[63, 9] })
    (m k : Value) (hs : a.eval s = m) (hx : a.eval x = k) (w' : World) (hr : (Builtin.delete_ #[63, 9] o.type #[m, k]).run Tryz.prog w = .ok (.tuple #[]) w')
    (h : K (a.put o.dst (.tuple #[])) w') : o.wp Tryz.prog a w K Q := by
  unfold Oper.wp execOp
  simp only [ho, resolve, invoke, builtin, Sem.run_bind, Sem.run_pure, Result.andThen_ok, List.map_toArray, List.map_cons, List.map_nil, hs, hx, hr]
  exact h
theorem step_deleteR (w : World) {ops : Array Oper} {o : Oper} {a : Act} {K : Act → World → Prop} {Q : Exit → Act → World → Prop} {E : Prop} (hgd : o.guard = none) (s x : Operand)
    (ho : o.op = .call { callee := .builtin .delete, args := #[s, x], argTypes := #[63, 9] })
    (m k : Value) (hs : a.eval s = m) (hx : a.eval x = k) (w' : World) (hr : (Builtin.delete_ #[63, 9] o.type #[m, k]).run Tryz.prog w = .ok (.tuple #[]) w')
    (h : K (a.put o.dst (.tuple #[])) w') :
    if Region.wanted o (yielded ops a.tmps) = true then Oper.wp Tryz.prog o a w K Q else E := by
  have hw : Region.wanted o (yielded ops a.tmps) = true := by simp [Region.wanted, hgd]
  rw [if_pos hw]
  exact wp_deleteR w s x ho m k hs hx w' hr h

set_option maxRecDepth 100000 in
set_option maxHeartbeats 4000000 in
theorem apply_any (w : World) (r d j b : Nat) (M : DataW Value) (rs : List (List UInt8)) (g : List UInt8 → Int) (n sz : Nat) (cut : Bool) (FJ F : Nat → Prop) (h : RfAt w r d j b M rs g n sz cut FJ F) (a : Option Addr) (m c : Nat) (l : List Ch) (hl : Chs w a m l) (hs : ShortR l) (hi : ∀ x ∈ l, 0 ≤ x.2 ∧ x.2 ≤ 18446744073709551615) (hm : m ≤ 1000000000000) (hn : n ≤ 1000000000000) (hab : ∀ x, a = some x → x.block ≠ b) :
    Calls Tryz.prog 24 #[.pointer (some ⟨r, 0, none⟩), .slice a m c] w fun e w' => e = .returned (.tuple #[]) ∧ Turn (fun k => k = b) w w' ∧ ∃ M', RfAt w' r d j b M' rs (applyR (g, n) l).1 (applyR (g, n) l).2 sz cut FJ F := by
  have hll := hl.1
  have HH : Hid (RfAt w r d j b M rs g n sz cut FJ F) := h
  clear h
  go_enter Tryz.func24, Tryz.ntmps24
  go_wp2
  go_loopw [8] (fun i wr => ∃ (k : Nat), k ≤ m ∧ i = .int .i64 (k : Int) ∧ Hid (Turn (fun k => k = b) w wr ∧ ∃ Mk, RfAt wr r d j b Mk rs (applyR (g, n) (l.take k)).1 (applyR (g, n) (l.take k)).2 sz cut FJ F)) (fun i _ => m - (intOf i).toNat)
  case atStart => exact ⟨0, Nat.zero_le _, rfl, Turn.refl _ _, M, HH.out⟩
  case round =>
    obtain ⟨k, hk, rfl, H⟩ := hrel
    by_cases hlt : k < m
    · obtain ⟨x, hx⟩ : ∃ x, l[k]? = some x := ⟨_, List.getElem?_eq_getElem (by omega)⟩
      obtain ⟨b1, o1, rfl, hc1⟩ := hl.2 (by omega)
      obtain ⟨t1, t2⟩ := hc1 k x hx
      have hsx := hs k x hx
      obtain ⟨hi0, hi1⟩ := hi x (List.mem_of_getElem? hx)
      obtain ⟨hT, Mk, hR⟩ := H.out
      have hb1 := hab _ rfl
      have q1 := hT.cell t1 hb1
      have q2 := hT.cell t2 hb1
      have hst := applyR_take (g, n) l k x hx
      have hnk := applyR_n (g, n) (l.take k)
      have hlk : (l.take k).length ≤ k := by rw [List.length_take]; omega
      have i2 : (k : Int) < (m : Int) := by omega
      have i3 : ¬ m ≤ k := by omega
      clear hc1 hx t1 t2 H
      obtain ⟨nm, id⟩ := x
      simp only at q1 q2 hsx hi0 hi1 hnk
      have hrb := hR.rb
      have hrl := hR.lt r hR.fs.1
      have hbl := hR.lt b hR.fs.2
      have hBa : Below wr.heap.size wr (wr.alloc (.cells #[.string nm, .int .u64 id] 38)).drew := ((Below.refl _ wr).alloc (Nat.le_refl _) _).trans ⟨rfl, rfl, rfl, Nat.le_refl _, fun _ _ => rfl⟩
      have hR1 := hR.below hBa
      have hTa : Turn (fun k => k = b) w (wr.alloc (.cells #[.string nm, .int .u64 id] 38)).drew := hT.trans (Turn.of_below (fun _ => False) hBa) (fun _ _ e => e.elim)
      have d0 : (wr.alloc (.cells #[.string nm, .int .u64 id] 38)).cell? ⟨wr.heap.size, 0, none⟩ = some (.string nm) := by simp only [World.cell?, World.alloc_heap_new]; rfl
      have d1 : (wr.alloc (.cells #[.string nm, .int .u64 id] 38)).cell? ⟨wr.heap.size, 1, none⟩ = some (.int .u64 id) := by simp only [World.cell?, World.alloc_heap_new]; rfl
      have d2 : (wr.alloc (.cells #[.string nm, .int .u64 id] 38)).cell? ⟨r, 1, none⟩ = some (.map (some b)) := hR1.c1
      have hn1 : some wr.heap.size ≠ some b := fun e => by have := Option.some.inj e; omega
      have hn2 : some r ≠ some b := fun e => hrb (Option.some.inj e)
      clear hBa hR hT hab
      generalize hQ : applyR (g, n) (l.take k) = Q at *
      obtain ⟨gk, nk⟩ := Q
      simp only at hR1 hnk hst
      by_cases h0 : id = 0
      · subst h0
        obtain ⟨w2, hrun, hg2, M2, hR2⟩ := hR1.drop nm hsx 0
        have k0 : w2.cell? ⟨wr.heap.size, 0, none⟩ = some (.string nm) := hg2.cell (show (wr.alloc (.cells #[.string nm, .int .u64 0] 38)).drew.cell? _ = _ from d0) hn1
        have k2 : w2.cell? ⟨r, 1, none⟩ = some (.map (some b)) := hR2.c1
        have HF : Hid (Turn (fun k => k = b) w w2 ∧ ∃ Mk, RfAt w2 r d j b Mk rs (applyR (g, n) (l.take (k + 1))).1 (applyR (g, n) (l.take (k + 1))).2 sz cut FJ F) := ⟨hTa.trans (Turn.of_grownBy (Fp := fun k => k = b) hg2 (fun k hk => .inl (by cases hk; rfl))) (fun _ _ e => e), M2, by rw [hst]; exact hR2⟩
        clear hg2 hR2 hR1 hTa hst
        go_wp2
        go_region_held3 (fun W => W.cell? ⟨wr.heap.size, 0, none⟩ = some (.string nm) ∧ W.cell? ⟨r, 1, none⟩ = some (.map (some b)))
          (first
            | (go_split_ands
               refine ⟨by go_keep, by go_keep⟩)
            | (exact ⟨k0, k2⟩))
          ((refine step_deleteR _ (by rfl) _ _ (by rfl) (.map (some b)) (.string nm) (by rfl) (by rfl) w2 hrun ?_))
        go_wp2
        go_roundw
        case rel => exact ⟨k + 1, by omega, by simp, HF.out⟩
        case measure => simp [intOf]; omega
      · have h0' : (id == 0) = false := beq_eq_false_iff_ne.2 h0
        obtain ⟨w2, hrun, hg2, M2, hR2⟩ := hR1.set nm hsx (by unfold maxLen; omega) id h0 hi0 hi1
        have k0 : w2.cell? ⟨wr.heap.size, 0, none⟩ = some (.string nm) := hg2.cell (show (wr.alloc (.cells #[.string nm, .int .u64 id] 38)).drew.cell? _ = _ from d0) hn1
        have k1 : w2.cell? ⟨wr.heap.size, 1, none⟩ = some (.int .u64 id) := hg2.cell (show (wr.alloc (.cells #[.string nm, .int .u64 id] 38)).drew.cell? _ = _ from d1) hn1
        have k2 : w2.cell? ⟨r, 1, none⟩ = some (.map (some b)) := hR2.c1
        have HF : Hid (Turn (fun k => k = b) w w2 ∧ ∃ Mk, RfAt w2 r d j b Mk rs (applyR (g, n) (l.take (k + 1))).1 (applyR (g, n) (l.take (k + 1))).2 sz cut FJ F) := ⟨hTa.trans (Turn.of_grownBy (Fp := fun k => k = b) hg2 (fun k hk => .inl (by cases hk; rfl))) (fun _ _ e => e), M2, by rw [hst]; exact hR2⟩
        clear hg2 hR2 hR1 hTa hst
        go_wp2
        go_region_held3 (fun W => W.cell? ⟨wr.heap.size, 0, none⟩ = some (.string nm) ∧ W.cell? ⟨wr.heap.size, 1, none⟩ = some (.int .u64 id) ∧ W.cell? ⟨r, 1, none⟩ = some (.map (some b)))
          (first
            | (go_split_ands
               refine ⟨by go_keep, by go_keep, by go_keep⟩)
            | (exact ⟨k0, k1, k2⟩))
          (fail)
        go_wp2
        go_roundw
        case rel => exact ⟨k + 1, by omega, by simp, HF.out⟩
        case measure => simp [intOf]; omega
    · obtain rfl : k = m := by omega
      have i2 : ¬ (k : Int) < (k : Int) := by omega
      have e0 : l.take k = l := List.take_of_length_le (by omega)
      rw [e0] at H
      go_wp2
      go_end0
      exact ⟨rfl, H.out⟩
end Go.Proofs.YtiafhbpklddlnaaGreatDoor

/- The walk of news: the changes that say something else than what is so already. -/
namespace Go.Proofs.YtiafhbpklddlnaaGreatDoor
open Go.RowKit Go.Maps

attribute [local go_sem] Oper.semAt_some

def chCells : List Ch → List Value
  | [] => []
  | x :: r => .string x.1 :: .int .u64 x.2 :: chCells r
theorem chCells_len : ∀ l : List Ch, (chCells l).length = l.length * 2
  | [] => rfl
  | x :: r => by simp only [chCells, List.length_cons, chCells_len r]; omega
theorem chCells_one : ∀ (l : List Ch), ∀ u ∈ chCells l, u.oneCell' = true
  | [], u, h => by cases h
  | x :: r, u, h => by
    simp only [chCells, List.mem_cons] at h
    rcases h with rfl | rfl | h
    · rfl
    · rfl
    · exact chCells_one r u h
theorem chCells_append : ∀ (l m : List Ch), chCells (l ++ m) = chCells l ++ chCells m
  | [], m => rfl
  | x :: r, m => by simp [chCells, chCells_append r m]
theorem chCells_get : ∀ (l : List Ch) (j : Nat) (x : Ch), l[j]? = some x → (chCells l)[j * 2]? = some (.string x.1) ∧ (chCells l)[j * 2 + 1]? = some (.int .u64 x.2)
  | [], j, x, h => by simp at h
  | y :: r, 0, x, h => by
    simp at h; subst h
    exact ⟨rfl, rfl⟩
  | y :: r, j + 1, x, h => by
    have ih := chCells_get r j x (by simpa using h)
    rw [show (j + 1) * 2 = j * 2 + 2 by omega]
    exact ih
theorem row_shapeC {w : World} {B n : Nat} {v : Value} {xs : List Value} (h : w.ownsRow B 38 2 v n xs) : ∃ ad c, v = .slice ad n c ∧ n ≤ c ∧ (ad = none → n = 0 ∧ c = 0) := by
  rcases h.2 with ⟨rfl, rfl⟩ | ⟨g, cap, cur, rfl, _, _, hc, _⟩
  · exact ⟨none, 0, rfl, Nat.le_refl _, fun _ => ⟨rfl, rfl⟩⟩
  · exact ⟨_, _, rfl, hc, fun h => by cases h⟩
theorem own_chs {w : World} {B n c : Nat} {ad : Option Addr} {l : List Ch} (h : w.ownsRow B 38 2 (.slice ad n c) n (chCells l)) (hl : l.length = n) : Chs w ad n l := by
  refine ⟨hl, fun h0 => ?_⟩
  rcases h.2 with ⟨e, h'⟩ | ⟨g, cap, cur, e, _⟩
  · omega
  · cases e
    refine ⟨g, 0, rfl, fun j x hx => ?_⟩
    obtain ⟨h1, h2⟩ := chCells_get l j x hx
    have c1 := h.cells (g := g) rfl _ _ h1
    have c2 := h.cells (g := g) rfl _ _ h2
    rw [Addr.add_lit] at c1 c2
    simp only [Nat.zero_add] at c1 c2 ⊢
    exact ⟨c1, c2⟩
theorem row_blockC {W : World} {base n : Nat} {v : Value} {xs : List Value} (h : W.ownsRow base 38 2 v n xs) : ∀ r, v.ownBlock = some r → base ≤ r ∧ r < W.heap.size := by
  intro r hr
  rcases h.2 with ⟨rfl, _⟩ | ⟨g, cap, cur, rfl, hb, hg, _⟩
  · cases hr
  · cases hr
    exact ⟨hb, (Array.getElem?_eq_some_iff.1 hg).1⟩
theorem below_grC {W W' : World} {B n : Nat} {v : Value} {xs : List Value} (h : W.ownsRow B 38 2 v n xs) (hB : B ≤ W.heap.size) (hg : W.grownBy W' v.ownBlock) : Below B W W' :=
  ⟨hg.os, hg.tape, hg.output, hg.size, fun k hk => hg.block k (by omega) (fun e => by have := (row_blockC h k e.symm).1; omega)⟩
theorem row_movedC {w w' : World} {B n : Nat} {v : Value} {xs : List Value} (h : w.ownsRow B 38 2 v n xs) (hb : ∀ g, v.ownBlock = some g → w'.heap[g]? = w.heap[g]?) : w'.ownsRow B 38 2 v n xs := by
  refine ⟨h.1, ?_⟩
  rcases h.2 with h0 | ⟨g, cap, cur, rfl, h1, h2, h3⟩
  · exact .inl h0
  · exact .inr ⟨g, cap, cur, rfl, h1, by rw [hb g rfl]; exact h2, h3⟩
theorem infoRef : (Tryz.prog.info? 38).map (fun i => (i.zero, i.size, i.bytes)) = some (some (.agg #[.string ⟨#[]⟩, .int .u64 0]), 2, 24) := by kernel_rfl
/-- a change appended to a row of one's own -/
theorem cells_two_new (w : World) (x : Ch) : ∀ j u, (chCells [x])[j]? = some u → (w.alloc (.cells #[.string x.1, .int .u64 x.2] 38)).cell? ((⟨w.heap.size, 0, none⟩ : Addr).add j) = some u := by
  intro j u hj
  have d0 : (w.alloc (.cells #[.string x.1, .int .u64 x.2] 38)).cell? ⟨w.heap.size, 0, none⟩ = some (.string x.1) := by simp only [World.cell?, World.alloc_heap_new]; rfl
  have d1 : (w.alloc (.cells #[.string x.1, .int .u64 x.2] 38)).cell? ⟨w.heap.size, 1, none⟩ = some (.int .u64 x.2) := by simp only [World.cell?, World.alloc_heap_new]; rfl
  match j, hj with
  | 0, hj => simp [chCells] at hj; subst hj; rw [Addr.add_lit]; exact d0
  | 1, hj => simp [chCells] at hj; subst hj; rw [Addr.add_lit]; exact d1
  | j + 2, hj => simp [chCells] at hj

/-- the changes that say something else than what is so already -/
def newsR (g : List UInt8 → Int) (l : List Ch) : List Ch := l.filter fun x => g (bs x.1) != x.2
theorem newsR_take (g : List UInt8 → Int) (l : List Ch) (k : Nat) (x : Ch) (h : l[k]? = some x) : newsR g (l.take (k + 1)) = newsR g (l.take k) ++ (if g (bs x.1) = x.2 then [] else [x]) := by
  have hk := (List.getElem?_eq_some_iff.1 h).1
  have hx : l[k] = x := (List.getElem?_eq_some_iff.1 h).2
  rw [List.take_succ_eq_append_getElem hk, hx]
  simp only [newsR, List.filter_append]
  congr 1
  by_cases e : g (bs x.1) = x.2
  · rw [if_pos e]; simp [e]
  · rw [if_neg e]; simp [e]

set_option maxRecDepth 100000 in
set_option maxHeartbeats 4000000 in
theorem news_any (w : World) (r d j b : Nat) (M : DataW Value) (rs : List (List UInt8)) (g : List UInt8 → Int) (n sz : Nat) (cut : Bool) (FJ F : Nat → Prop) (h : RfAt w r d j b M rs g n sz cut FJ F) (a : Option Addr) (m c : Nat) (l : List Ch) (hl : Chs w a m l) (hs : ShortR l) (hm : m ≤ 1000000000000) :
    Calls Tryz.prog 25 #[.pointer (some ⟨r, 0, none⟩), .slice a m c] w fun e w' => ∃ ad cp, e = .returned (.slice ad (newsR g l).length cp) ∧ w'.ownsRow w.heap.size 38 2 (.slice ad (newsR g l).length cp) (newsR g l).length (chCells (newsR g l)) ∧ Below w.heap.size w w' := by
  have hll := hl.1
  obtain ⟨i0, hi, hz0, hz1, hz2⟩ := info_parts infoRef
  have HH : Hid (RfAt w r d j b M rs g n sz cut FJ F) := h
  clear h
  go_enter Tryz.func25, Tryz.ntmps25
  go_wp2
  go_loopw [5, 10] (fun v i wr => ∃ (k : Nat) (ad : Option Addr) (p cp : Nat), k ≤ m ∧ i = .int .i64 (k : Int) ∧ v = .slice ad p cp ∧ Hid (p = (newsR g (l.take k)).length ∧ wr.ownsRow w.heap.size 38 2 (.slice ad p cp) p (chCells (newsR g (l.take k))) ∧ Below w.heap.size w wr)) (fun _ i _ => m - (intOf i).toNat)
  case atStart => exact ⟨0, none, 0, 0, Nat.zero_le _, rfl, rfl, rfl, ⟨rfl, .inl ⟨rfl, rfl⟩⟩, Below.refl _ _⟩
  case round =>
    obtain ⟨k, ad, p, cp, hk, rfl, rfl, H⟩ := hrel
    by_cases hlt : k < m
    · obtain ⟨x, hx⟩ : ∃ x, l[k]? = some x := ⟨_, List.getElem?_eq_getElem (by omega)⟩
      obtain ⟨b1, o1, rfl, hc1⟩ := hl.2 (by omega)
      obtain ⟨t1, t2⟩ := hc1 k x hx
      have hsx := hs k x hx
      obtain ⟨hp, hrow, hB⟩ := H.out
      have q1 := (hB.cell (p := ⟨b1, o1 + k * 2, none⟩) (World.block_lt_of_cell? w _ t1)).trans t1
      have q2 := (hB.cell (p := ⟨b1, o1 + k * 2 + 1, none⟩) (World.block_lt_of_cell? w _ t2)).trans t2
      have hst : Hid _ := newsR_take g l k x hx
      have hpk : p ≤ k := by rw [hp]; unfold newsR; have := List.length_filter_le (fun x : Ch => g (bs x.1) != x.2) (l.take k); rw [List.length_take] at this; omega
      have i2 : (k : Int) < (m : Int) := by omega
      have i3 : ¬ m ≤ k := by omega
      clear hc1 hx t1 t2 H
      obtain ⟨nm, id⟩ := x
      simp only at q1 q2 hsx hst
      have hBa : Below wr.heap.size wr (wr.alloc (.cells #[.string nm, .int .u64 id] 38)) := (Below.refl _ wr).alloc (Nat.le_refl _) _
      have hR1 := (HH.out.below hB).below hBa
      have d0 : (wr.alloc (.cells #[.string nm, .int .u64 id] 38)).cell? ⟨wr.heap.size, 0, none⟩ = some (.string nm) := by simp only [World.cell?, World.alloc_heap_new]; rfl
      have d1 : (wr.alloc (.cells #[.string nm, .int .u64 id] 38)).cell? ⟨wr.heap.size, 1, none⟩ = some (.int .u64 id) := by simp only [World.cell?, World.alloc_heap_new]; rfl
      have d2 : (wr.alloc (.cells #[.string nm, .int .u64 id] 38)).cell? ⟨r, 1, none⟩ = some (.map (some b)) := hR1.c1
      have hget := fun q => hR1.get nm hsx ((wr.alloc (.cells #[.string nm, .int .u64 id] 38)).drewN q) rfl
      rw [show nm.data.toList = bs nm from rfl] at hget
      have HP : Hid (p = (newsR g (l.take k)).length) := hp
      have HS : Hid (∀ q, Below w.heap.size w ((wr.alloc (.cells #[.string nm, .int .u64 id] 38)).drewN q) ∧ ((wr.alloc (.cells #[.string nm, .int .u64 id] 38)).drewN q).ownsRow w.heap.size 38 2 (.slice ad p cp) p (chCells (newsR g (l.take k))) ∧ ((wr.alloc (.cells #[.string nm, .int .u64 id] 38)).drewN q).heap.size = wr.heap.size + 1) := fun q =>
        ⟨(hB.trans (hBa.mono hB.size)).trans ⟨rfl, rfl, rfl, Nat.le_refl _, fun _ _ => rfl⟩, row_movedC hrow (fun z hz => hBa.block z (row_blockC hrow z hz).2), by show (wr.alloc (.cells #[.string nm, .int .u64 id] 38)).heap.size = _; simp⟩
      have HB : Hid (Below w.heap.size w wr) := hB
      clear hBa hB hR1 hp hrow
      generalize g (bs nm) = gx at *
      by_cases he : gx = id
      · subst he
        rw [if_pos rfl, List.append_nil] at hst
        go_wp2
        go_quiet (fail)
        go_wp2
        go_roundw
        case rel => exact ⟨k + 1, ad, p, cp, by omega, by simp, rfl, by rw [hst.out]; exact HP.out, by rw [hst.out]; exact (HS.out _).2.1, (HS.out _).1⟩
        case measure => simp [intOf]; omega
      · rw [if_neg he] at hst
        have he' : (gx == id) = false := beq_eq_false_iff_ne.2 he
        go_wp2
        go_quiet (fail)
        obtain ⟨hBq, hrq, hsq⟩ := HS.out nq
        have e0 : ((wr.alloc (.cells #[.string nm, .int .u64 id] 38)).drewN nq).cell? ⟨wr.heap.size, 0, none⟩ = some (.string nm) := d0
        have e1 : ((wr.alloc (.cells #[.string nm, .int .u64 id] 38)).drewN nq).cell? ⟨wr.heap.size, 1, none⟩ = some (.int .u64 id) := d1
        generalize (wr.alloc (.cells #[.string nm, .int .u64 id] 38)).drewN nq = wq at *
        have hr2 := hrq.alloc (.cells #[.string nm, .int .u64 id] 38)
        have HB2 : Hid (Below w.heap.size w (wq.alloc (.cells #[.string nm, .int .u64 id] 38))) := hBq.alloc hBq.size _
        clear HS d0 d1 d2 hget hBq hsq
        go_wp2_with (at_builtin; (refine wpList_append_own_at _ rfl _ _ 30 rfl w.heap.size 38 i0 _ 2 24 Tryz.underlying30 hi hz0 hz1 hz2 rfl (by decide) _ p _ rfl hr2 ⟨wq.heap.size, 0, none⟩ 1 1 (chCells [(nm, id)]) rfl rfl (cells_two_new wq (nm, id)) (chCells_one _) (by unfold maxLen; omega) (by omega) HB2.out.size ?_; intro v' w5 hown5 hgr5 _ hat5; have HB5 : Hid (Below w.heap.size w w5) := HB2.out.trans (below_grC hr2 HB2.out.size hgr5); have H5 : Hid (w5.ownsRow w.heap.size 38 2 v' (p + 1) (chCells (newsR g (l.take k)) ++ chCells [(nm, id)])) := hown5; clear hgr5 hat5; obtain ⟨ad5, cp5, hv5, _⟩ := row_shapeC hown5; clear hown5; subst hv5))
        go_roundw
        case rel => exact ⟨k + 1, ad5, p + 1, cp5, by omega, by simp, rfl, by rw [hst.out, List.length_append, ← HP.out]; rfl, by rw [hst.out, chCells_append]; exact H5.out, HB5.out⟩
        case measure => simp [intOf]; omega
    · obtain rfl : k = m := by omega
      have i2 : ¬ (k : Int) < (k : Int) := by omega
      have e0 : l.take k = l := List.take_of_length_le (by omega)
      rw [e0] at H
      obtain ⟨hp, hrow, hB⟩ := H.out
      subst hp
      go_wp2
      go_ret
      exact ⟨ad, cp, rfl, hrow, hB⟩
end Go.Proofs.YtiafhbpklddlnaaGreatDoor
