import Derived.Test.YtiafhbpklddlnaaGreatDoorD51
import Derived.Test.YtiafhbpklddlnaaGreatDoorD43
/- What stands in the law RefsAgain while changes are set one by one. -/
namespace Go.Proofs.YtiafhbpklddlnaaGreatDoor
open Go.RowKit Go.Shelf Go.Maps

/-- block b of w is a map of names to where they lead -/
def LastAt (w : World) (b : Nat) (g : List UInt8 → Int) (k : Nat) : Prop := ∃ M : DataW Value, w.ownsMap Tryz.prog 9 rvR b (size M) M ∧ size M ≤ k ∧ ∀ l, has M (.string l) = true → M.atKey (.string l) zeroR = .held (.int .u64 (g l))
theorem LastAt.kept {w w' : World} {b : Nat} {g : List UInt8 → Int} {k : Nat} (h : LastAt w b g k) (hk : w'.heap[b]? = w.heap[b]?) : LastAt w' b g k := by
  obtain ⟨M, h1, h2⟩ := h
  exact ⟨M, ownsMap_keptR h1 hk, h2⟩
theorem LastAt.lt {w : World} {b : Nat} {g : List UInt8 → Int} {k : Nat} (h : LastAt w b g k) : b < w.heap.size := by
  obtain ⟨M, h1, h2⟩ := h
  exact h1.lt
theorem LastAt.put {w : World} {b : Nat} {g g' : List UInt8 → Int} {k : Nat} (h : LastAt w b g k) (s : ByteArray) (hs : s.size ≤ maxLen) (hk : k < maxLen) (i : Int) (hg : g' (bs s) = i) (ho : ∀ l, l ≠ bs s → g' l = g l) : ∃ w2, (Instr.mapUpdate 63 (.map (some b)) (.string s) (.int .u64 i)).run Tryz.prog w = .ok () w2 ∧ LastAt w2 b g' (k + 1) ∧ w.grownBy w2 (some b) := by
  obtain ⟨M, h1, h2, h3⟩ := h
  obtain ⟨w2, hrun, own2, hg2⟩ := h1.update keyed Tryz.underlying63 (by omega) (keyOfS s hs) (show rvR (.int .u64 i) = some (.held (.int .u64 i), []) from rfl)
  have hm := h1.isMap
  have htidy := h1.tidy keyed
  refine ⟨w2, hrun, ⟨_, ownsMap_tightR own2, ?_, fun l hl => ?_⟩, hg2⟩
  · rw [size_put htidy]
    split <;> omega
  · by_cases e : l = s.data.toList
    · subst e; rw [atKey_put_same hm (keyLit _)]; rw [show g' s.data.toList = i from hg]
    · rw [has_put_other (keyNeS e)] at hl
      rw [atKey_put_other (keyNeS e), h3 l hl, ho l e]

structure AInv (w wr : World) (r d mb : Nat) (g : List UInt8 → Int) (n : Nat) (rs : List (List UInt8)) (S : DG) (F G : Nat → Prop) (k : Nat) (ad : Option Addr) (N : Nat) (L : List Ch) : Prop where
  rf : RfG wr r d g n rs S F G
  nm : NamesR g n
  len : (fileB rs).length ≤ k * 248
  bel : Below w.heap.size w wr
  q : ∀ x, F x ∨ G x → w.heap.size ≤ x ∧ x ≠ mb ∧ (∀ y, ad = some y → y.block ≠ x)
  mbw : w.heap.size ≤ mb
  adr : ∀ y, ad = some y → y.block ≠ mb ∧ y.block < wr.heap.size
  last : LastAt wr mb g k
  row : Chs wr ad N L
theorem AInv.mono {w wr : World} {r d mb : Nat} {g : List UInt8 → Int} {n : Nat} {rs : List (List UInt8)} {S : DG} {F G : Nat → Prop} {k : Nat} {ad : Option Addr} {N : Nat} {L : List Ch} (h : AInv w wr r d mb g n rs S F G k ad N L) {k' : Nat} (hk : k ≤ k') : AInv w wr r d mb g n rs S F G k' ad N L :=
  { h with
    len := Nat.le_trans h.len (Nat.mul_le_mul hk (Nat.le_refl _))
    last := by obtain ⟨M, h1, h2, h3⟩ := h.last; exact ⟨M, h1, by omega, h3⟩ }
theorem AInv.turn {w wr w' : World} {r d mb : Nat} {g : List UInt8 → Int} {n : Nat} {rs : List (List UInt8)} {S : DG} {F G X : Nat → Prop} {k : Nat} {ad : Option Addr} {N : Nat} {L : List Ch} (h : AInv w wr r d mb g n rs S F G k ad N L) (hT : Turn X wr w') (hX : ∀ z, X z → wr.heap.size ≤ z) : AInv w w' r d mb g n rs S F G k ad N L := by
  have hB : Below wr.heap.size wr w' := hT.below (Nat.le_refl _) hX
  exact
  { h with
    rf := h.rf.below hB
    bel := h.bel.trans (hB.mono h.bel.size)
    adr := fun y hy => ⟨(h.adr y hy).1, Nat.lt_of_lt_of_le (h.adr y hy).2 hB.size⟩
    last := h.last.kept (hB.block _ h.last.lt)
    row := h.row.kept hB }
theorem AInv.below {w wr w' : World} {r d mb : Nat} {g : List UInt8 → Int} {n : Nat} {rs : List (List UInt8)} {S : DG} {F G : Nat → Prop} {k : Nat} {ad : Option Addr} {N : Nat} {L : List Ch} (h : AInv w wr r d mb g n rs S F G k ad N L) (hB : Below wr.heap.size wr w') : AInv w w' r d mb g n rs S F G k ad N L :=
  h.turn (Turn.of_below (fun _ => False) hB) (fun _ h => h.elim)
/-- behind a Set, ahead of the note of it -/
theorem AInv.set {w wr w' : World} {r d mb : Nat} {g g' : List UInt8 → Int} {n n' : Nat} {rs rs' : List (List UInt8)} {S S' : DG} {F G F' G' : Nat → Prop} {k : Nat} {ad : Option Addr} {N : Nat} {L l : List Ch} (h : AInv w wr r d mb g n rs S F G k ad N L) (P : SetG wr w' r d g g' n n' rs rs' S S' F G F' G' l 1) :
    RfG w' r d g' n' rs' S' F' G' ∧ NamesR g' n' ∧ (fileB rs').length ≤ (k + 1) * 248 ∧ Below w.heap.size w w' ∧ (∀ x, F' x ∨ G' x → w.heap.size ≤ x ∧ x ≠ mb ∧ (∀ y, ad = some y → y.block ≠ x)) ∧ (∀ y, ad = some y → y.block ≠ mb ∧ y.block < w'.heap.size) ∧ LastAt w' mb g k ∧ Chs w' ad N L := by
  have hlt := h.last.lt
  have hsz := P.tn.size
  refine ⟨P.rf, P.nm, ?_, h.bel.trans (P.tn.below h.bel.size (fun x hx => (h.q x hx).1)), fun x hx => ?_, fun y hy => ⟨(h.adr y hy).1, Nat.lt_of_lt_of_le (h.adr y hy).2 hsz⟩, h.last.kept (P.tn.block _ hlt (fun e => (h.q _ e).2.1 rfl)), h.row.turn P.tn (fun y hy e => (h.q _ e).2.2 y hy rfl)⟩
  · have := P.len; have := h.len; rw [Nat.add_mul]; omega
  · have : (F x ∨ G x) ∨ wr.heap.size ≤ x := hx.elim (fun e => (P.hF x e).imp .inl (fun e => e)) (fun e => (P.hG x e).imp .inr (fun e => e))
    rcases this with e | e
    · exact h.q x e
    · have := h.bel.size
      exact ⟨by omega, by omega, fun y hy e' => by have := (h.adr y hy).2; omega⟩
theorem AInv.bad {w wr w' : World} {r d mb : Nat} {g g' : List UInt8 → Int} {n n' : Nat} {rs rs' : List (List UInt8)} {S S' : DG} {F G F' G' : Nat → Prop} {k : Nat} {ad : Option Addr} {N : Nat} {L l : List Ch} (h : AInv w wr r d mb g n rs S F G k ad N L) (P : SetG wr w' r d g g' n n' rs rs' S S' F G F' G' l 1) (he : chkR g n l ≠ 0) : AInv w w' r d mb g' n' rs' S' F' G' (k + 1) ad N L := by
  obtain ⟨h1, h2, h3, h4, h5, h6, h7, h8⟩ := h.set P
  obtain ⟨rfl, rfl⟩ := P.bad he
  obtain ⟨M, l1, l2, l3⟩ := h7
  exact ⟨h1, h2, h3, h4, h5, h.mbw, h6, ⟨M, l1, by omega, l3⟩, h8⟩
theorem one_apply (g : List UInt8 → Int) (n : Nat) (s : ByteArray) (i : Int) : (applyR (g, n) (newsR g [(s, i)])).1 (bs s) = i ∧ ∀ l, l ≠ bs s → (applyR (g, n) (newsR g [(s, i)])).1 l = g l := by
  by_cases e : g (bs s) = i
  · have : newsR g [(s, i)] = [] := by simp [newsR, e]
    rw [this]
    exact ⟨e, fun _ _ => rfl⟩
  · have : newsR g [(s, i)] = [(s, i)] := by simp [newsR, e]
    rw [this]
    refine ⟨by simp [applyR, stepR, setR], fun l hl => by simp [applyR, stepR, setR, hl]⟩
theorem AInv.good {w wr w' : World} {r d mb : Nat} {g g' : List UInt8 → Int} {n n' : Nat} {rs rs' : List (List UInt8)} {S S' : DG} {F G F' G' : Nat → Prop} {k : Nat} {ad : Option Addr} {N : Nat} {L : List Ch} {s : ByteArray} {i : Int} (h : AInv w wr r d mb g n rs S F G k ad N L) (P : SetG wr w' r d g g' n n' rs rs' S S' F G F' G' [(s, i)] 1) (he : chkR g n [(s, i)] = 0) (hs : s.size ≤ maxLen) (hk : k < maxLen) :
    ∃ w2, (Instr.mapUpdate 63 (.map (some mb)) (.string s) (.int .u64 i)).run Tryz.prog w' = .ok () w2 ∧ AInv w w2 r d mb g' n' rs' S' F' G' (k + 1) ad N L := by
  obtain ⟨h1, h2, h3, h4, h5, h6, h7, h8⟩ := h.set P
  have hg : g' = (applyR (g, n) (newsR g [(s, i)])).1 := congrArg Prod.fst (P.good he)
  obtain ⟨a1, a2⟩ := one_apply g n s i
  rw [← hg] at a1 a2
  obtain ⟨w2, hrun, hl2, hg2⟩ := h7.put s hs hk i a1 a2
  have hT : Turn (fun z => z = mb) w' w2 := Turn.of_grownBy hg2 (fun z hz => .inl (Option.some.inj hz).symm)
  refine ⟨w2, hrun, h1.turn hT (fun z hz e => (h5 z hz).2.1 e), h2, h3, ?_, h5, h.mbw, fun y hy => ⟨(h6 y hy).1, Nat.lt_of_lt_of_le (h6 y hy).2 hT.size⟩, hl2, h8.turn hT (fun y hy => (h6 y hy).1)⟩
  exact h4.trans (hT.below h4.size (fun z hz => by rw [hz]; exact h.mbw))
end Go.Proofs.YtiafhbpklddlnaaGreatDoor

/- The walk of the law RefsAgain. -/
namespace Go.Proofs.YtiafhbpklddlnaaGreatDoor
open Go.RowKit Go.Shelf Go.Maps

attribute [local go_sem] Oper.semAt_some

theorem cutR_ids {l : List Ch} (hi : ∀ x ∈ l, 0 ≤ x.2 ∧ x.2 ≤ 18446744073709551615) : ∀ x ∈ cutR l, 0 ≤ x.2 ∧ x.2 ≤ 18446744073709551615 := fun x hx => by
  obtain ⟨y, hy, rfl⟩ := List.mem_map.1 hx
  exact hi y (List.mem_of_mem_take hy)
theorem cutR_short (l : List Ch) : ∀ x ∈ cutR l, x.1.size ≤ 250 := fun x hx => by
  obtain ⟨y, hy, rfl⟩ := List.mem_map.1 hx
  simp only [cutOne, ByteArray.size_extract]
  omega
theorem row_chs_at {w : World} {B n c : Nat} {ad : Option Addr} {l : List Ch} (h : w.ownsRow B 38 2 (.slice ad n c) n (chCells l)) (hl : l.length = n) : Chs w ad n l ∧ ∀ y, ad = some y → B ≤ y.block ∧ y.block < w.heap.size := by
  refine ⟨own_chs h hl, fun y hy => ?_⟩
  subst hy
  rcases h.2 with ⟨e, _⟩ | ⟨g, cap, cur, e, hb, hg, _⟩
  · cases e
  · cases e
    exact ⟨hb, (Array.getElem?_eq_some_iff.1 hg).1⟩

theorem open_two (w : World) (r d : Nat) (g : List UInt8 → Int) (n : Nat) (rs : List (List UInt8)) (S : DG) (F G : Nat → Prop) (h : RfG w r d g n rs S F G) (hfit : (fileB rs).length ≤ 3000000) :
    Calls Tryz.prog 7 #[.pointer (some ⟨d, 0, none⟩)] w fun e w' => ∃ r2 F2 G2, e = .returned (.tuple #[.pointer (some ⟨r2, 0, none⟩), .int .i64 0]) ∧ RfG w' r2 d g n rs S F2 G2 ∧ RfG w' r d g n rs S F G2 ∧ Turn G w w' ∧ (∀ k, F2 k → w.heap.size ≤ k) ∧ (∀ k, G2 k → G k ∨ w.heap.size ≤ k) := by
  refine (ropen_good w d g n rs S G h.dk h.gd h.ld (by omega) (fun p hp => by have := h.gd.all p hp; omega)).mono ?_
  rintro e w' ⟨r2, F2, G2, he, hR, hT, hF, hG⟩
  obtain ⟨j, b, M, FJ, hr⟩ := h.rf
  refine ⟨r2, F2, G2, he, hR, ⟨⟨j, b, M, FJ, hr.turn hT h.dis⟩, hR.dk, fun k hk hg => (hG k hg).elim (h.dis k hk) (fun e => by have := hr.lt k hk; omega), h.gd, h.ld⟩, hT, hF, hG⟩
theorem HLS2 {g : List UInt8 → Int} {n : Nat} {LA : List Ch} (hL : AllR g n LA) (hN : NamesR g n) : ShortR LA ∧ (∀ {W : World} {r d : Nat} {rs : List (List UInt8)} {S : DG} {F G : Nat → Prop}, RfG W r d g n rs S F G → ∀ x ∈ LA, 0 ≤ x.2 ∧ x.2 ≤ 18446744073709551615) ∧ LA.length ≤ 1000 ∧ chkR g n LA = 0 ∧ newsR g LA = [] := by
  obtain ⟨h1, h2⟩ := hL.set hN
  refine ⟨fun j x hx => ?_, fun hR x hx => ?_, by rw [hL.len]; have := hN.2; omega, h1, h2⟩
  · have := chkFrom_short g LA _ _ h1 x (List.mem_of_getElem? hx)
    unfold maxLen; omega
  · obtain ⟨j, b, M, FJ, hr⟩ := hR.rf
    rw [← (hL.mem hx).1]
    exact hr.rng _

end Go.Proofs.YtiafhbpklddlnaaGreatDoor
