import Derived.Test.YtiafhbpklddlnaaA51
import Derived.Test.YtiafhbpklddlnaaA46
/- The law's own functions: two lists held against each other. -/
namespace Go.Proofs.Ytiafhbpklddlnaa
open Go.RowKit Go.Shelf Go.Maps

attribute [local go_sem] Oper.semAt_some

theorem below_drewR {n0 : Nat} {w W : World} (h : Below n0 w W) (t : Nat) : Below n0 w (W.drewN t) := ⟨h.os, h.tape, h.output, h.size, h.block⟩

set_option maxRecDepth 100000 in
set_option maxHeartbeats 4000000 in
theorem lalike_any (w : World) (a b : Option Addr) (n m c1 c2 : Nat) (k l : List Ch) (hk : Chs w a n k) (hl : Chs w b m l) (hn : n ≤ 1000000) :
    Calls Try.prog 18 #[.slice a n c1, .slice b m c2] w fun e w' => e = .returned (.bool (decide (k = l))) ∧ Below w.heap.size w w' := by
  have hkl := hk.1
  have hll := hl.1
  by_cases hnm : n = m
  · subst hnm
    obtain ⟨R, hR⟩ : ∃ R, R = decide (k = l) := ⟨_, rfl⟩
    rw [← hR]
    have HR : Hid (R = decide (k = l)) := hR
    clear hR
    go_enter Try.func18, Try.ntmps18
    go_wp2
    go_loopw [13] (fun i wr => ∃ (q : Nat), q ≤ n ∧ i = .int .i64 (q : Int) ∧ Hid (k.take q = l.take q ∧ Below w.heap.size w wr)) (fun i _ => n - (intOf i).toNat)
    case atStart => exact ⟨0, Nat.zero_le _, rfl, rfl, Below.refl _ _⟩
    case round =>
      obtain ⟨q, hq, rfl, H⟩ := hrel
      by_cases hlt : q < n
      · obtain ⟨x, hx⟩ : ∃ x, k[q]? = some x := ⟨_, List.getElem?_eq_getElem (by omega)⟩
        obtain ⟨y, hy⟩ : ∃ y, l[q]? = some y := ⟨_, List.getElem?_eq_getElem (by omega)⟩
        obtain ⟨b1, o1, rfl, hc1⟩ := hk.2 (by omega)
        obtain ⟨b2, o2, rfl, hc2⟩ := hl.2 (by omega)
        obtain ⟨t1, t2⟩ := hc1 q x hx
        obtain ⟨s1, s2⟩ := hc2 q y hy
        have hB := H.out.2
        have q1 := (hB.cell (p := ⟨b1, o1 + q * 2, none⟩) (World.block_lt_of_cell? w _ t1)).trans t1
        have q2 := (hB.cell (p := ⟨b1, o1 + q * 2 + 1, none⟩) (World.block_lt_of_cell? w _ t2)).trans t2
        have q3 := (hB.cell (p := ⟨b2, o2 + q * 2, none⟩) (World.block_lt_of_cell? w _ s1)).trans s1
        have q4 := (hB.cell (p := ⟨b2, o2 + q * 2 + 1, none⟩) (World.block_lt_of_cell? w _ s2)).trans s2
        have i2 : (q : Int) < (n : Int) := by omega
        have i3 : ¬ n ≤ q := by omega
        have HX : Hid (k[q]? = some x ∧ l[q]? = some y) := ⟨hx, hy⟩
        clear hc1 hc2 hx hy t1 t2 s1 s2
        obtain ⟨nm, iv⟩ := x
        obtain ⟨nm2, iv2⟩ := y
        simp only at q1 q2 q3 q4
        by_cases hxy : nm = nm2 ∧ iv = iv2
        · obtain ⟨rfl, rfl⟩ := hxy
          go_wp2_with fail
          go_quiet (fail)
          go_wp2_with fail
          go_roundw
          case rel => exact ⟨q + 1, by omega, by simp, by rw [List.take_add_one, List.take_add_one, HX.out.1, HX.out.2, H.out.1], below_drewR H.out.2 _⟩
          case measure => simp [intOf]; omega
        · have hne : R = false := by
            rw [HR.out]
            refine decide_eq_false (fun e => hxy ?_)
            have := HX.out.1
            rw [e, HX.out.2] at this
            cases this
            exact ⟨rfl, rfl⟩
          subst hne
          clear HR
          by_cases hnn : nm = nm2
          · subst hnn
            have hii : (iv == iv2) = false := beq_eq_false_iff_ne.2 (fun e => hxy ⟨rfl, e⟩)
            clear hxy
            go_wp2_with fail
            go_quiet (fail)
            go_wp2_with fail
            go_ret
            exact ⟨rfl, below_drewR H.out.2 _⟩
          · have hii : (nm.toList == nm2.toList) = false := beq_eq_false_iff_ne.2 (fun e => hnn (by rw [ByteArray.toList_eq, ByteArray.toList_eq] at e; exact ByteArray.ext (Array.toList_inj.1 e)))
            clear hxy
            go_wp2_with fail

            go_quiet (fail)
            go_wp2_with fail
            go_ret
            exact ⟨rfl, below_drewR H.out.2 _⟩
      · obtain rfl : q = n := by omega
        have i2 : ¬ (q : Int) < (q : Int) := by omega
        have hne : R = true := by
          rw [HR.out]
          refine decide_eq_true ?_
          have := H.out.1
          rwa [List.take_of_length_le (by omega), List.take_of_length_le (by omega)] at this
        subst hne
        clear HR
        go_wp2
        go_ret
        exact ⟨rfl, H.out.2⟩
  · have hne : decide (k = l) = false := decide_eq_false (fun e => hnm (by rw [← hkl, ← hll, e]))
    rw [hne]
    have i1 : ¬ (n : Int) = (m : Int) := by omega
    go_enter Try.func18, Try.ntmps18
    go_wp2
    go_ret
    exact ⟨rfl, Below.refl _ _⟩
end Go.Proofs.Ytiafhbpklddlnaa

/- A Set of whatever changes, on refs whose disk is not cut: one contract for all that it may answer. -/
namespace Go.Proofs.Ytiafhbpklddlnaa
open Go.RowKit Go.Shelf Go.Maps

theorem encR_bound (l : List Ch) (h : ∀ x ∈ l, x.1.size ≤ 200) : (recB (encR l)).length ≤ l.length * 218 + 30 := by
  have h1 := chsB_len l h
  have h2 := (recB_pos (encR l)).2
  have h3 := short_len l.length
  have h4 : (encR l).length = (short l.length).length + (chsB l).length := by simp [encR]
  omega
theorem applyR_nil (q : (List UInt8 → Int) × Nat) : applyR q [] = q := rfl
theorem RfG.cnt {w : World} {r d : Nat} {g : List UInt8 → Int} {n : Nat} {rs : List (List UInt8)} {S : DG} {F G : Nat → Prop} (h : RfG w r d g n rs S F G) : CntR g n := by
  obtain ⟨j, b, M, FJ, hr⟩ := h.rf
  exact hr.cnt
/-- what lies behind a Set -/
structure SetG (w w' : World) (r d : Nat) (g g' : List UInt8 → Int) (n n' : Nat) (rs rs' : List (List UInt8)) (S S' : DG) (F G F' G' : Nat → Prop) (l : List Ch) (m : Nat) : Prop where
  tn : Turn (fun k => F k ∨ G k) w w'
  rf : RfG w' r d g' n' rs' S' F' G'
  nm : NamesR g' n'
  hF : ∀ k, F' k → F k ∨ w.heap.size ≤ k
  hG : ∀ k, G' k → G k ∨ w.heap.size ≤ k
  bad : chkR g n l ≠ 0 → g' = g ∧ n' = n
  good : chkR g n l = 0 → (g', n') = applyR (g, n) (newsR g l)
  len : (fileB rs').length ≤ (fileB rs).length + m * 218 + 30
  same : newsR g l = [] → S' = S
theorem rset_g (w : World) (r d : Nat) (g : List UInt8 → Int) (n : Nat) (rs : List (List UInt8)) (S : DG) (F G : Nat → Prop) (h : RfG w r d g n rs S F G) (hN : NamesR g n) (a : Option Addr) (m c : Nat) (l : List Ch) (hl : Chs w a m l) (hs : ShortR l) (hi : ∀ x ∈ l, 0 ≤ x.2 ∧ x.2 ≤ 18446744073709551615) (hm : m ≤ 1000) (hfit : (fileB rs).length ≤ 3000000) :
    Calls Try.prog 8 #[.pointer (some ⟨r, 0, none⟩), .slice a m c] w fun e w' => e = .returned (.int .i64 (chkR g n l)) ∧ ∃ g' n' rs' S' F' G', SetG w w' r d g g' n n' rs rs' S S' F G F' G' l m := by
  have hn := hN.2
  by_cases he : chkR g n l = 0
  · by_cases hnw : newsR g l = []
    · obtain ⟨j, b, M, FJ, hr⟩ := h.rf
      refine (rset_same w r d j b M rs g n _ false FJ F hr a m c l hl hs (by omega) (by omega) he hnw).mono ?_
      rintro e w' ⟨hee, hB⟩
      exact ⟨by rw [he]; exact hee, g, n, rs, S, F, G, Turn.of_below _ hB, h.below hB, hN, fun _ hk => .inl hk, fun _ hk => .inl hk, fun e => absurd he e, fun _ => by rw [hnw]; rfl, by omega, fun _ => rfl⟩
    · have hsh : ∀ x ∈ newsR g l, x.1.size ≤ 200 := fun x hx => chkFrom_short g l _ _ he x (newsR_sub g l x hx)
      have hNl : (newsR g l).length ≤ m := by rw [← hl.1]; exact List.length_filter_le _ _
      have hrb := encR_bound (newsR g l) hsh
      have hb2 : (newsR g l).length * 218 ≤ m * 218 := Nat.mul_le_mul hNl (Nat.le_refl _)
      have hb3 : m * 218 ≤ 1000 * 218 := Nat.mul_le_mul hm (Nat.le_refl _)
      refine (rset_good w r d g n rs S F G h a m c l hl hs hi hm (by omega) he hnw (by omega)).mono ?_
      rintro e w' ⟨hee, hT, S', F', G', hR, hF', hG'⟩
      refine ⟨by rw [he]; exact hee, _, _, _, S', F', G', hT, hR, ?_, hF', hG', fun e => absurd he e, fun _ => rfl, ?_, fun e => absurd e hnw⟩
      · exact hN.set h.cnt (chkR_news he)
      · rw [fileB_snoc, List.length_append]; omega
  · obtain ⟨j, b, M, FJ, hr⟩ := h.rf
    refine (rset_bad w r d j b M rs g n _ false FJ F hr a m c l hl hs (by omega) (by omega) he).mono ?_
    rintro e w' ⟨hee, hB⟩
    exact ⟨hee, g, n, rs, S, F, G, Turn.of_below _ hB, h.below hB, hN, fun _ hk => .inl hk, fun _ hk => .inl hk, fun _ => ⟨rfl, rfl⟩, fun e => absurd e he, by omega, fun _ => rfl⟩
end Go.Proofs.Ytiafhbpklddlnaa

/- What stands in the law RefsAgain while changes are set one by one. -/
namespace Go.Proofs.Ytiafhbpklddlnaa
open Go.RowKit Go.Shelf Go.Maps

/-- block b of w is a map of names to where they lead -/
def LastAt (w : World) (b : Nat) (g : List UInt8 → Int) (k : Nat) : Prop := ∃ M : DataW Value, w.ownsMap Try.prog 9 rvR b (size M) M ∧ size M ≤ k ∧ ∀ l, has M (.string l) = true → M.atKey (.string l) zeroR = .held (.int .u64 (g l))
theorem LastAt.kept {w w' : World} {b : Nat} {g : List UInt8 → Int} {k : Nat} (h : LastAt w b g k) (hk : w'.heap[b]? = w.heap[b]?) : LastAt w' b g k := by
  obtain ⟨M, h1, h2⟩ := h
  exact ⟨M, ownsMap_keptR h1 hk, h2⟩
theorem LastAt.lt {w : World} {b : Nat} {g : List UInt8 → Int} {k : Nat} (h : LastAt w b g k) : b < w.heap.size := by
  obtain ⟨M, h1, h2⟩ := h
  exact h1.lt
theorem LastAt.put {w : World} {b : Nat} {g g' : List UInt8 → Int} {k : Nat} (h : LastAt w b g k) (s : ByteArray) (hs : s.size ≤ maxLen) (hk : k < maxLen) (i : Int) (hg : g' (bs s) = i) (ho : ∀ l, l ≠ bs s → g' l = g l) : ∃ w2, (Instr.mapUpdate 51 (.map (some b)) (.string s) (.int .u64 i)).run Try.prog w = .ok () w2 ∧ LastAt w2 b g' (k + 1) ∧ w.grownBy w2 (some b) := by
  obtain ⟨M, h1, h2, h3⟩ := h
  obtain ⟨w2, hrun, own2, hg2⟩ := h1.update keyed Try.underlying51 (by omega) (keyOfS s hs) (show rvR (.int .u64 i) = some (.held (.int .u64 i), []) from rfl)
  have hm := h1.isMap
  have htidy := h1.tidy keyed
  refine ⟨w2, hrun, ⟨_, ownsMap_tightR own2, ?_, fun l hl => ?_⟩, hg2⟩
  · rw [size_put htidy]
    split <;> omega
  · by_cases e : l = s.data.toList
    · subst e; rw [atKey_put_same hm (keyLit _)]; rw [show g' s.data.toList = i from hg]
    · rw [has_put_other (keyNeS e)] at hl
      rw [atKey_put_other (keyNeS e), h3 l hl, ho l e]

structure AInv (w wr : World) (r d mb : Nat) (g : List UInt8 → Int) (n : Nat) (rs : List (List UInt8)) (S : DG) (F G : Nat → Prop) (k : Nat) (ad : Option Addr) (N : Nat) (L : List Ch) : Prop where
  rf : RfG wr r d g n rs S F G
  nm : NamesR g n
  len : (fileB rs).length ≤ k * 248
  bel : Below w.heap.size w wr
  q : ∀ x, F x ∨ G x → w.heap.size ≤ x ∧ x ≠ mb ∧ (∀ y, ad = some y → y.block ≠ x)
  mbw : w.heap.size ≤ mb
  adr : ∀ y, ad = some y → y.block ≠ mb ∧ y.block < wr.heap.size
  last : LastAt wr mb g k
  row : Chs wr ad N L
theorem AInv.mono {w wr : World} {r d mb : Nat} {g : List UInt8 → Int} {n : Nat} {rs : List (List UInt8)} {S : DG} {F G : Nat → Prop} {k : Nat} {ad : Option Addr} {N : Nat} {L : List Ch} (h : AInv w wr r d mb g n rs S F G k ad N L) {k' : Nat} (hk : k ≤ k') : AInv w wr r d mb g n rs S F G k' ad N L :=
  { h with
    len := Nat.le_trans h.len (Nat.mul_le_mul hk (Nat.le_refl _))
    last := by obtain ⟨M, h1, h2, h3⟩ := h.last; exact ⟨M, h1, by omega, h3⟩ }
theorem AInv.turn {w wr w' : World} {r d mb : Nat} {g : List UInt8 → Int} {n : Nat} {rs : List (List UInt8)} {S : DG} {F G X : Nat → Prop} {k : Nat} {ad : Option Addr} {N : Nat} {L : List Ch} (h : AInv w wr r d mb g n rs S F G k ad N L) (hT : Turn X wr w') (hX : ∀ z, X z → wr.heap.size ≤ z) : AInv w w' r d mb g n rs S F G k ad N L := by
  have hB : Below wr.heap.size wr w' := hT.below (Nat.le_refl _) hX
  exact
  { h with
    rf := h.rf.below hB
    bel := h.bel.trans (hB.mono h.bel.size)
    adr := fun y hy => ⟨(h.adr y hy).1, Nat.lt_of_lt_of_le (h.adr y hy).2 hB.size⟩
    last := h.last.kept (hB.block _ h.last.lt)
    row := h.row.kept hB }
theorem AInv.below {w wr w' : World} {r d mb : Nat} {g : List UInt8 → Int} {n : Nat} {rs : List (List UInt8)} {S : DG} {F G : Nat → Prop} {k : Nat} {ad : Option Addr} {N : Nat} {L : List Ch} (h : AInv w wr r d mb g n rs S F G k ad N L) (hB : Below wr.heap.size wr w') : AInv w w' r d mb g n rs S F G k ad N L :=
  h.turn (Turn.of_below (fun _ => False) hB) (fun _ h => h.elim)
/-- behind a Set, ahead of the note of it -/
theorem AInv.set {w wr w' : World} {r d mb : Nat} {g g' : List UInt8 → Int} {n n' : Nat} {rs rs' : List (List UInt8)} {S S' : DG} {F G F' G' : Nat → Prop} {k : Nat} {ad : Option Addr} {N : Nat} {L l : List Ch} (h : AInv w wr r d mb g n rs S F G k ad N L) (P : SetG wr w' r d g g' n n' rs rs' S S' F G F' G' l 1) :
    RfG w' r d g' n' rs' S' F' G' ∧ NamesR g' n' ∧ (fileB rs').length ≤ (k + 1) * 248 ∧ Below w.heap.size w w' ∧ (∀ x, F' x ∨ G' x → w.heap.size ≤ x ∧ x ≠ mb ∧ (∀ y, ad = some y → y.block ≠ x)) ∧ (∀ y, ad = some y → y.block ≠ mb ∧ y.block < w'.heap.size) ∧ LastAt w' mb g k ∧ Chs w' ad N L := by
  have hlt := h.last.lt
  have hsz := P.tn.size
  refine ⟨P.rf, P.nm, ?_, h.bel.trans (P.tn.below h.bel.size (fun x hx => (h.q x hx).1)), fun x hx => ?_, fun y hy => ⟨(h.adr y hy).1, Nat.lt_of_lt_of_le (h.adr y hy).2 hsz⟩, h.last.kept (P.tn.block _ hlt (fun e => (h.q _ e).2.1 rfl)), h.row.turn P.tn (fun y hy e => (h.q _ e).2.2 y hy rfl)⟩
  · have := P.len; have := h.len; rw [Nat.add_mul]; omega
  · have : (F x ∨ G x) ∨ wr.heap.size ≤ x := hx.elim (fun e => (P.hF x e).imp .inl (fun e => e)) (fun e => (P.hG x e).imp .inr (fun e => e))
    rcases this with e | e
    · exact h.q x e
    · have := h.bel.size
      exact ⟨by omega, by omega, fun y hy e' => by have := (h.adr y hy).2; omega⟩
theorem AInv.bad {w wr w' : World} {r d mb : Nat} {g g' : List UInt8 → Int} {n n' : Nat} {rs rs' : List (List UInt8)} {S S' : DG} {F G F' G' : Nat → Prop} {k : Nat} {ad : Option Addr} {N : Nat} {L l : List Ch} (h : AInv w wr r d mb g n rs S F G k ad N L) (P : SetG wr w' r d g g' n n' rs rs' S S' F G F' G' l 1) (he : chkR g n l ≠ 0) : AInv w w' r d mb g' n' rs' S' F' G' (k + 1) ad N L := by
  obtain ⟨h1, h2, h3, h4, h5, h6, h7, h8⟩ := h.set P
  obtain ⟨rfl, rfl⟩ := P.bad he
  obtain ⟨M, l1, l2, l3⟩ := h7
  exact ⟨h1, h2, h3, h4, h5, h.mbw, h6, ⟨M, l1, by omega, l3⟩, h8⟩
theorem one_apply (g : List UInt8 → Int) (n : Nat) (s : ByteArray) (i : Int) : (applyR (g, n) (newsR g [(s, i)])).1 (bs s) = i ∧ ∀ l, l ≠ bs s → (applyR (g, n) (newsR g [(s, i)])).1 l = g l := by
  by_cases e : g (bs s) = i
  · have : newsR g [(s, i)] = [] := by simp [newsR, e]
    rw [this]
    exact ⟨e, fun _ _ => rfl⟩
  · have : newsR g [(s, i)] = [(s, i)] := by simp [newsR, e]
    rw [this]
    refine ⟨by simp [applyR, stepR, setR], fun l hl => by simp [applyR, stepR, setR, hl]⟩
theorem AInv.good {w wr w' : World} {r d mb : Nat} {g g' : List UInt8 → Int} {n n' : Nat} {rs rs' : List (List UInt8)} {S S' : DG} {F G F' G' : Nat → Prop} {k : Nat} {ad : Option Addr} {N : Nat} {L : List Ch} {s : ByteArray} {i : Int} (h : AInv w wr r d mb g n rs S F G k ad N L) (P : SetG wr w' r d g g' n n' rs rs' S S' F G F' G' [(s, i)] 1) (he : chkR g n [(s, i)] = 0) (hs : s.size ≤ maxLen) (hk : k < maxLen) :
    ∃ w2, (Instr.mapUpdate 51 (.map (some mb)) (.string s) (.int .u64 i)).run Try.prog w' = .ok () w2 ∧ AInv w w2 r d mb g' n' rs' S' F' G' (k + 1) ad N L := by
  obtain ⟨h1, h2, h3, h4, h5, h6, h7, h8⟩ := h.set P
  have hg : g' = (applyR (g, n) (newsR g [(s, i)])).1 := congrArg Prod.fst (P.good he)
  obtain ⟨a1, a2⟩ := one_apply g n s i
  rw [← hg] at a1 a2
  obtain ⟨w2, hrun, hl2, hg2⟩ := h7.put s hs hk i a1 a2
  have hT : Turn (fun z => z = mb) w' w2 := Turn.of_grownBy hg2 (fun z hz => .inl (Option.some.inj hz).symm)
  refine ⟨w2, hrun, h1.turn hT (fun z hz e => (h5 z hz).2.1 e), h2, h3, ?_, h5, h.mbw, fun y hy => ⟨(h6 y hy).1, Nat.lt_of_lt_of_le (h6 y hy).2 hT.size⟩, hl2, h8.turn hT (fun y hy => (h6 y hy).1)⟩
  exact h4.trans (hT.below h4.size (fun z hz => by rw [hz]; exact h.mbw))
end Go.Proofs.Ytiafhbpklddlnaa
