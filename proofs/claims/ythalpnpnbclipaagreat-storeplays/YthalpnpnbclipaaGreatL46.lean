import Derived.Test.YthalpnpnbclipaaGreatL45
import Derived.Test.YthalpnpnbclipaaGreatL39
import Derived.Test.YthalpnpnbclipaaGreatL40
import Derived.Test.YthalpnpnbclipaaGreatL34
import Derived.Test.YthalpnpnbclipaaGreatL38
/- Which bytes the document calls right; what Decode answers lies in memory of its own. -/
namespace Go.Proofs.YthalpnpnbclipaaGreat
open Go.RowKit

attribute [local go_sem] Oper.semAt_some

def Z5o : Obj := .cells #[.int .u64 0, .slice none 0 0, .string ⟨#[]⟩, .int .i64 0, .string ⟨#[]⟩] 39
set_option maxHeartbeats 2000000 in
theorem right_tree (a : Option Addr) (n c : Nat) (l : List UInt8) (w : World) (hb : Bytes w a n l) (hnc : n ≤ c) (hsm : n ≤ 40000) (R : List Ent) (hT : treeC l = some R) (hC : comC l = none) :
    Calls Tryz.prog 21 #[.slice a n c] w fun e w' => e = .returned (.bool true) ∧ Below w.heap.size w w' := by
  have h1 := refAsTree_any a n c l w hb hnc hsm
  rw [hT] at h1
  have H2 : Hid (∀ W, Below w.heap.size w W → Calls Tryz.prog 57 #[.slice a n c] W fun e w' => e = .returned (.tuple #[cmt 0 none 0 0 ⟨#[]⟩ 0 ⟨#[]⟩, .bool false]) ∧ Below W.heap.size W w') := fun W hB => by
    have := refAsCommit_any a n c l W (bytes_below hb hB) hnc hsm
    rw [hC] at this
    exact this
  clear hb hT hC
  go_enter Tryz.func21, Tryz.ntmps21
  go_wp2_with first
    | (go_at_call 56; refine h1.mono ?_; clear h1; rintro e w1 ⟨hx, hB1⟩; obtain ⟨ad, cp, hy, _⟩ := hx; subst hy)
    | (go_at_call 57; refine (H2.out _ hB1).mono ?_; clear H2; rintro e w2 ⟨rfl, hB2⟩)
  go_ret
  exact ⟨rfl, (hB1.trans (hB2.mono hB1.size)).alloc (by have := hB1.size; have := hB2.size; omega) _⟩
set_option maxHeartbeats 2000000 in
theorem right_com (a : Option Addr) (n c : Nat) (l : List UInt8) (w : World) (hb : Bytes w a n l) (hnc : n ≤ c) (hsm : n ≤ 40000) (cc : ComD) (hT : treeC l = none) (hC : comC l = some cc) :
    Calls Tryz.prog 21 #[.slice a n c] w fun e w' => e = .returned (.bool true) ∧ Below w.heap.size w w' := by
  have h1 := refAsTree_any a n c l w hb hnc hsm
  rw [hT] at h1
  have h1' : Calls Tryz.prog 56 #[.slice a n c] w fun e w' => e = .returned (.tuple #[.slice none 0 0, .bool false]) ∧ Below w.heap.size w w' := h1
  obtain ⟨c1, c2, c3, c4, c5⟩ := cc
  have H2 : Hid (∀ W, Below w.heap.size w W → Calls Tryz.prog 57 #[.slice a n c] W fun e w' => (∃ ad cp, e = .returned (.tuple #[cmt c1 ad c2.length cp c3 c4 c5, .bool true])) ∧ Below W.heap.size W w') := fun W hB => by
    have := refAsCommit_any a n c l W (bytes_below hb hB) hnc hsm
    rw [hC] at this
    refine this.mono fun e w' hx => ⟨?_, hx.2⟩
    obtain ⟨ad, cp, h, _⟩ := hx.1
    exact ⟨ad, cp, h⟩
  clear hb hT hC h1
  go_enter Tryz.func21, Tryz.ntmps21
  go_wp2_with first
    | (go_at_call 56; refine h1'.mono ?_; clear h1'; rintro e w1 ⟨rfl, hB1⟩)
    | (go_at_call 57; refine (H2.out _ hB1).mono ?_; clear H2; rintro e w2 ⟨⟨ad, cp, rfl⟩, hB2⟩)
  go_ret
  exact ⟨rfl, (hB1.trans (hB2.mono hB1.size)).alloc (by have := hB1.size; have := hB2.size; omega) _⟩
/-- neither a tree nor a commit -/
theorem right_none (a : Option Addr) (n c : Nat) (l : List UInt8) (w : World) (hb : Bytes w a n l) (hnc : n ≤ c) (hsm : n ≤ 40000) (hT : treeC l = none) (hC : comC l = none) :
    Calls Tryz.prog 21 #[.slice a n c] w fun e w' => e = .returned (.bool (decide (l.head? = some 98) && decide (n ≤ 4097))) ∧ Below w.heap.size w w' := by
  have h1 := refAsTree_any a n c l w hb hnc hsm
  rw [hT] at h1
  have h1' : Calls Tryz.prog 56 #[.slice a n c] w fun e w' => e = .returned (.tuple #[.slice none 0 0, .bool false]) ∧ Below w.heap.size w w' := h1
  have H2 : Hid (∀ W, Below w.heap.size w W → Calls Tryz.prog 57 #[.slice a n c] W fun e w' => e = .returned (.tuple #[cmt 0 none 0 0 ⟨#[]⟩ 0 ⟨#[]⟩, .bool false]) ∧ Below W.heap.size W w') := fun W hB => by
    have := refAsCommit_any a n c l W (bytes_below hb hB) hnc hsm
    rw [hC] at this
    exact this
  have HB : Hid (Bytes w a n l) := hb
  have hl := hb.1
  clear hb hT hC h1
  cases l with
  | nil =>
    have h0 : n = 0 := by simpa using hl.symm
    subst h0
    go_enter Tryz.func21, Tryz.ntmps21
    go_wp2_with first
      | (go_at_call 56; refine h1'.mono ?_; clear h1'; rintro e w1 ⟨rfl, hB1⟩)
      | (go_at_call 57; refine (H2.out _ hB1).mono ?_; clear H2; rintro e w2 ⟨rfl, hB2⟩)
    go_ret
    exact ⟨rfl, (hB1.trans (hB2.mono hB1.size)).alloc (by have := hB1.size; have := hB2.size; omega) _⟩
  | cons x t =>
    obtain ⟨n', rfl⟩ : ∃ n', n = n' + 1 := ⟨t.length, by simpa using hl.symm⟩
    obtain ⟨bk, off0, rfl, hc⟩ := HB.out.2 (by omega)
    have hcell := head_cell HB.out (x := x) rfl
    have hlt : bk < w.heap.size := World.block_lt_of_cell? w _ hcell
    have HCE : Hid (∀ W, Below w.heap.size w W → W.cell? ⟨bk, off0, none⟩ = some (.int .u8 (x.toNat : Int))) := fun W hB => (World.cell?_of_block (hB.block _ hlt)).trans hcell
    have i0 : (0 : Int) < (n' : Int) + 1 := by omega
    have hhx : ((x :: t).head? = some 98) ↔ x.toNat = 98 := by
      simp
      constructor
      · rintro rfl; rfl
      · intro h; exact UInt8.toNat_inj.1 (by rw [h]; rfl)
    clear hcell hc HB hl
    by_cases hx : x.toNat = 98
    · have e1 : decide ((x :: t).head? = some 98) = true := decide_eq_true (hhx.2 hx)
      rw [e1]
      have z1 : ((x.toNat : Int) == 98) = true := by simp [hx]
      by_cases hn : n' + 1 ≤ 4097
      · have d1 : decide (n' + 1 ≤ 4097) = true := decide_eq_true hn
        rw [d1]
        have i1 : (n' : Int) + 1 ≤ 4097 := by omega
        have d2 : decide ((n' : Int) + 1 ≤ 4097) = true := decide_eq_true i1
        go_enter Tryz.func21, Tryz.ntmps21
        go_wp2_with first
          | (go_at_call 56; refine h1'.mono ?_; clear h1'; rintro e w1 ⟨rfl, hB1⟩)
          | (go_at_call 57; refine (H2.out _ hB1).mono ?_; clear H2; rintro e w2 ⟨rfl, hB2⟩; have B2 : Below w.heap.size w (w2.alloc Z5o) := (hB1.trans (hB2.mono hB1.size)).alloc (by have := hB1.size; have := hB2.size; omega) _; have cx := HCE.out _ B2; unfold Z5o at cx)
        go_ret
        exact ⟨rfl, B2⟩
      · have d1 : decide (n' + 1 ≤ 4097) = false := decide_eq_false hn
        rw [d1]
        have i1 : ¬ (n' : Int) + 1 ≤ 4097 := by omega
        have d2 : decide ((n' : Int) + 1 ≤ 4097) = false := decide_eq_false i1
        go_enter Tryz.func21, Tryz.ntmps21
        go_wp2_with first
          | (go_at_call 56; refine h1'.mono ?_; clear h1'; rintro e w1 ⟨rfl, hB1⟩)
          | (go_at_call 57; refine (H2.out _ hB1).mono ?_; clear H2; rintro e w2 ⟨rfl, hB2⟩; have B2 : Below w.heap.size w (w2.alloc Z5o) := (hB1.trans (hB2.mono hB1.size)).alloc (by have := hB1.size; have := hB2.size; omega) _; have cx := HCE.out _ B2; unfold Z5o at cx)
        go_ret
        exact ⟨rfl, B2⟩
    · have e1 : decide ((x :: t).head? = some 98) = false := decide_eq_false (fun h => hx (hhx.1 h))
      rw [e1]
      have z1 : ((x.toNat : Int) == 98) = false := by simp; omega
      have z2 : ¬ (x.toNat : Int) = 98 := by omega
      go_enter Tryz.func21, Tryz.ntmps21
      go_wp2_with first
        | (go_at_call 56; refine h1'.mono ?_; clear h1'; rintro e w1 ⟨rfl, hB1⟩)
        | (go_at_call 57; refine (H2.out _ hB1).mono ?_; clear H2; rintro e w2 ⟨rfl, hB2⟩; have B2 : Below w.heap.size w (w2.alloc Z5o) := (hB1.trans (hB2.mono hB1.size)).alloc (by have := hB1.size; have := hB2.size; omega) _; have cx := HCE.out _ B2; unfold Z5o at cx)
      go_ret
      exact ⟨rfl, B2⟩
theorem blob_iff (l : List UInt8) (hl : l.length ≤ 549755813888) (hT : treeC l = none) (hC : comC l = none) : (decide (l.head? = some 98) && decide (l.length ≤ 4097)) = (decG l).isSome := by
  cases hd : decG l with
  | none =>
    rw [Option.isSome_none]
    by_cases hh : l.head? = some 98
    · by_cases hn : l.length ≤ 4097
      · exfalso
        cases l with
        | nil => simp at hh
        | cons x t =>
          simp at hh; subst hh
          have h1 : decG (obB (.blob t)) = some (.blob t) := decG_of trivial (by
            show blobErr t.length = 0
            unfold blobErr
            simp at hn
            rw [if_neg (by omega)])
          have e : obB (.blob t) = 98 :: t := rfl
          rw [e, hd] at h1
          cases h1
      · simp [hn]
    · simp [hh]
  | some o =>
    obtain ⟨h1, h2, h3, h4⟩ := decG_some hd hl
    cases o with
    | blob b =>
      rw [← h3]
      have h0 : blobErr b.length = 0 := h2
      unfold blobErr at h0
      split at h0
      · omega
      · simp [obB]; omega
    | tree R => rw [(tree_iff l hl R).2 hd] at hT; cases hT
    | com c => rw [(com_iff l hl c).2 hd] at hC; cases hC
theorem refRight_any (a : Option Addr) (n c : Nat) (l : List UInt8) (w : World) (hb : Bytes w a n l) (hnc : n ≤ c) (hsm : n ≤ 40000) :
    Calls Tryz.prog 21 #[.slice a n c] w fun e w' => e = .returned (.bool (decG l).isSome) ∧ Below w.heap.size w w' := by
  have hl := hb.1
  have hl' : l.length ≤ 549755813888 := by omega
  cases hT : treeC l with
  | some R =>
    have hd := (tree_iff l hl' R).1 hT
    have hC : comC l = none := by
      cases hC : comC l with
      | none => rfl
      | some cc => rw [(com_iff l hl' cc).1 hC] at hd; cases hd
    rw [hd]
    exact right_tree a n c l w hb hnc hsm R hT hC
  | none =>
    cases hC : comC l with
    | some cc =>
      rw [(com_iff l hl' cc).1 hC]
      exact right_com a n c l w hb hnc hsm cc hT hC
    | none =>
      have := right_none a n c l w hb hnc hsm hT hC
      rw [← blob_iff l hl' hT hC, hl]
      exact this
end Go.Proofs.YthalpnpnbclipaaGreat

/- What stands in the law StoreOpens while rows are appended. -/
namespace Go.Proofs.YthalpnpnbclipaaGreat
open Go.RowKit Go.Shelf Go.Maps

/-- a block that is a document's store -/
def BoxM (W : World) (g : Nat) (u0 u1 : Value) : Prop := W.heap[g]? = some (.cells #[u0, u1] 35 (0, 0))
theorem BoxM.lt {W : World} {g : Nat} {u0 u1 : Value} (h : BoxM W g u0 u1) : g < W.heap.size := (Array.getElem?_eq_some_iff.1 h).1
theorem BoxM.cell {W : World} {g : Nat} {u0 u1 : Value} (h : BoxM W g u0 u1) : W.cell? ⟨g, 0, none⟩ = some u0 ∧ W.cell? ⟨g, 1, none⟩ = some u1 := two_cells h
theorem BoxM.frozen {W : World} {g : Nat} {u0 u1 : Value} (h : BoxM W g u0 u1) : W.frozen? ⟨g, 0, none⟩ = false ∧ W.frozen? ⟨g, 1, none⟩ = false := by
  unfold BoxM at h
  simp [World.frozen?, h]
theorem BoxM.set0 {W : World} {g : Nat} {u0 u1 : Value} (h : BoxM W g u0 u1) (u : Value) : BoxM (W.setCell ⟨g, 0, none⟩ u) g u u1 := by
  have h' : W.heap[g]? = _ := h
  simp [BoxM, World.setCell, Array.getElem?_modify, h', Array.setIfInBounds]
theorem BoxM.set1 {W : World} {g : Nat} {u0 u1 : Value} (h : BoxM W g u0 u1) (u : Value) : BoxM (W.setCell ⟨g, 1, none⟩ u) g u0 u := by
  have h' : W.heap[g]? = _ := h
  simp [BoxM, World.setCell, Array.getElem?_modify, h', Array.setIfInBounds]
theorem BoxM.set {W : World} {g : Nat} {v0 v1 : Value} (h : BoxM W g v0 v1) (u0 u1 : Value) : BoxM ((W.setCell ⟨g, 0, none⟩ u0).setCell ⟨g, 1, none⟩ u1) g u0 u1 := (h.set0 u0).set1 u1
theorem BoxM.turn {W W' : World} {g : Nat} {u0 u1 : Value} {Q : Nat → Prop} (h : BoxM W g u0 u1) (hT : Turn Q W W') (hn : ¬ Q g) : BoxM W' g u0 u1 := (hT.block g h.lt hn).trans h

theorem fidx_iff (os : List Ob) (i : Int) : (fidx (oids os) i).isSome = (findO os i).isSome := by
  unfold fidx findO oids
  rw [Bool.eq_iff_iff, List.findIdx?_isSome, List.find?_isSome]
  simp
theorem fidx_lt {ids : List Int} {i : Int} {k : Nat} (h : fidx ids i = some k) : k < ids.length := by
  unfold fidx at h
  exact (List.findIdx?_eq_some_iff_getElem.1 h).1
/-- one record more: what the document makes of it is what a store that is opened does -/
theorem load_one {rs : List (List UInt8)} {os : List Ob} (h : loadG rs [] = some os) (b : List UInt8) : loadG (rs ++ [b]) [] = match decG b with
    | none => none
    | some o => if (findO os (oid o)).isSome = true then none else some (os ++ [o]) := by
  rw [loadG_append, h]
  simp only [Option.bind_some, loadG]
  cases decG b with
  | none => rfl
  | some o => rfl
theorem load_all : ∀ (rs : List (List UInt8)) (os os' : List Ob), (∀ r ∈ rs, r.length ≤ 5000) → Pure os → (∀ o ∈ os, obErr o = 0) → loadG rs os = some os' → Pure os' ∧ ∀ o ∈ os', obErr o = 0
  | [], os, os', _, hp, hg, h => by cases h; exact ⟨hp, hg⟩
  | r :: rs, os, os', hl, hp, hg, h => by
    unfold loadG at h
    cases hd : decG r with
    | none => rw [hd] at h; cases h
    | some o =>
      rw [hd] at h
      simp only at h
      by_cases hf : (findO os (oid o)).isSome = true
      · rw [if_pos hf] at h; cases h
      · rw [if_neg hf] at h
        have hr := hl r (List.mem_cons_self ..)
        obtain ⟨_, he, hb, _⟩ := decG_some hd (by omega)
        refine load_all rs (os ++ [o]) os' (fun x hx => hl x (List.mem_cons_of_mem _ hx)) (hp.snoc (by rw [hb]; exact hd) (by simpa using hf)) (fun x hx => ?_) h
        rcases List.mem_append.1 hx with hx | hx
        · exact hg x hx
        · simp at hx; subst hx; exact he
theorem load_pure {rs : List (List UInt8)} {os : List Ob} (h : loadG rs [] = some os) (hl : ∀ r ∈ rs, r.length ≤ 5000) : Pure os := (load_all rs [] os hl Pure.nil (fun o ho => by cases ho) h).1
theorem load_good {rs : List (List UInt8)} {os : List Ob} (h : loadG rs [] = some os) (hl : ∀ r ∈ rs, r.length ≤ 5000) : ∀ o ∈ os, obErr o = 0 := (load_all rs [] os hl Pure.nil (fun o ho => by cases ho) h).2
/-- what holds ahead of each row -/
structure OI (w wr : World) (j d mb : Nat) (Q : Nat → Prop) (S : DG) (rs : List (List UInt8)) (X : Nat → Prop) (ia ra : Option Addr) (n ic rcp : Nat) (ids : List Int) (rows : List (List UInt8)) (wrong : Bool) (k : Nat) : Prop where
  jl : JL Q wr j d objNm rs S
  gd : JGd S objNm.data.toList rs
  rm : RM X wr ia ra n ids rows
  bx : BoxM wr mb (.slice ia n ic) (.slice ra n rcp)
  xq : ∀ z, X z → ¬ Q z ∧ z ≠ mb
  q : ∀ z, Q z → w.heap.size ≤ z ∧ z ≠ mb
  mbw : w.heap.size ≤ mb
  bel : Below w.heap.size w wr
  cnt : n ≤ k ∧ rs.length = k ∧ (fileB rs).length ≤ k * 5018 ∧ ∀ r ∈ rs, r.length ≤ 5000
  no : wrong = false → ∃ os, loadG rs [] = some os ∧ ids = oids os ∧ rows = os.map obB
  yes : wrong = true → loadG rs [] = none
theorem JL.qlt {Q : Nat → Prop} {w : World} {j d : Nat} {nm : ByteArray} {rs : List (List UInt8)} {S : DG} (h : JL Q w j d nm rs S) (k : Nat) (hk : Q k) : k < w.heap.size := by
  obtain ⟨_, _, _, _, _, _, _, h6⟩ := h
  exact h6 k hk
theorem OI.below {w wr w' : World} {j d mb : Nat} {Q : Nat → Prop} {S : DG} {rs : List (List UInt8)} {X : Nat → Prop} {ia ra : Option Addr} {n ic rcp : Nat} {ids : List Int} {rows : List (List UInt8)} {wrong : Bool} {k : Nat} (h : OI w wr j d mb Q S rs X ia ra n ic rcp ids rows wrong k) (hB : Below wr.heap.size wr w') : OI w w' j d mb Q S rs X ia ra n ic rcp ids rows wrong k :=
  { h with
    jl := h.jl.below hB
    rm := h.rm.below hB
    bx := h.bx.turn (Turn.of_below (fun _ => False) hB) id
    bel := h.bel.trans (hB.mono h.bel.size) }
/-- behind an Append: what stands beside the journal -/
theorem OI.app {w wr w' : World} {j d mb : Nat} {Q : Nat → Prop} {S : DG} {rs : List (List UInt8)} {X : Nat → Prop} {ia ra : Option Addr} {n ic rcp : Nat} {ids : List Int} {rows : List (List UInt8)} {wrong : Bool} {k : Nat} (h : OI w wr j d mb Q S rs X ia ra n ic rcp ids rows wrong k) (hT : Turn Q wr w') :
    RM X w' ia ra n ids rows ∧ BoxM w' mb (.slice ia n ic) (.slice ra n rcp) ∧ (∀ z, X z → ¬ grow Q wr w' z ∧ z ≠ mb) ∧ (∀ z, grow Q wr w' z → w.heap.size ≤ z ∧ z ≠ mb) ∧ Below w.heap.size w w' := by
  have hml := h.bx.lt
  have hbs := h.bel.size
  refine ⟨h.rm.turn hT (fun z hz => (h.xq z hz).1), h.bx.turn hT (fun e => (h.q _ e).2 rfl), fun z hz => ⟨fun e => e.elim (h.xq z hz).1 (fun e => by have := h.rm.lt z hz; omega), (h.xq z hz).2⟩, fun z hz => hz.elim (h.q z) (fun e => ⟨by omega, by omega⟩), h.bel.trans (hT.below hbs (fun z hz => (h.q z hz).1))⟩
/-- the whole round: the journal has the row; the document's store has it, or not -/
theorem OI.step {w wr w5 w7 : World} {j d mb : Nat} {Q Q5 : Nat → Prop} {S S5 : DG} {rs : List (List UInt8)} {X X' : Nat → Prop} {ia ra ia' ra' : Option Addr} {n n' ic rcp ic' rcp' : Nat} {ids ids' : List Int} {rows rows' : List (List UInt8)} {wrong wrong' : Bool} {k : Nat} {b : List UInt8} (h : OI w wr j d mb Q S rs X ia ra n ic rcp ids rows wrong k)
    (hJ : JL Q5 w5 j d objNm (rs ++ [b]) S5) (hG : JGd S5 objNm.data.toList (rs ++ [b])) (hq : ∀ z, Q5 z → w.heap.size ≤ z ∧ z ≠ mb) (hb5 : Below w.heap.size w w5) (bx5 : BoxM w5 mb (.slice ia n ic) (.slice ra n rcp)) (hB7 : Below w5.heap.size w5 w7) (hrm : RM X' w7 ia' ra' n' ids' rows') (hx' : ∀ z, X' z → ¬ Q5 z ∧ z ≠ mb) (hn' : n' ≤ n + 1) (hbl : b.length ≤ 5000)
    (hno : wrong' = false → ∃ os, loadG (rs ++ [b]) [] = some os ∧ ids' = oids os ∧ rows' = os.map obB) (hyes : wrong' = true → loadG (rs ++ [b]) [] = none) :
    OI w ((w7.setCell ⟨mb, 0, none⟩ (.slice ia' n' ic')).setCell ⟨mb, 1, none⟩ (.slice ra' n' rcp')) j d mb Q5 S5 (rs ++ [b]) X' ia' ra' n' ic' rcp' ids' rows' wrong' (k + 1) := by
  have bx7 : BoxM w7 mb (.slice ia n ic) (.slice ra n rcp) := bx5.turn (Turn.of_below (fun _ => False) hB7) id
  have hT : Turn (fun z => z = mb) w7 ((w7.setCell ⟨mb, 0, none⟩ (.slice ia' n' ic')).setCell ⟨mb, 1, none⟩ (.slice ra' n' rcp')) := (turn_setCell w7 mb 0 _).trans (turn_setCell _ mb 1 _) (fun _ _ e => e)
  have hml := bx5.lt
  obtain ⟨c1, c2, c3, c4⟩ := h.cnt
  refine ⟨?_, hG, hrm.turn hT (fun z hz e => (hx' z hz).2 e), bx7.set _ _, hx', hq, h.mbw, ?_, ⟨by omega, by rw [List.length_append, c2]; rfl, ?_, fun r hr => ?_⟩, hno, hyes⟩
  · obtain ⟨F, G, a1, a2, a3, a4, a5, a6⟩ := hJ.below hB7
    exact ⟨F, G, a1.turn hT (fun z hz e => (hq z (a4 z hz)).2 e), a2.turn hT (fun z hz e => (hq z (a5 z hz)).2 e), a3, a4, a5, fun z hz => Nat.lt_of_lt_of_le (a6 z hz) hT.size⟩
  · have h1 : Below w.heap.size w w7 := hb5.trans (hB7.mono hb5.size)
    exact h1.trans (hT.below h1.size (fun z hz => by rw [hz]; exact h.mbw))
  · have := (recB_pos b).2
    rw [fileB_snoc, List.length_append, Nat.add_mul]
    omega
  · rcases List.mem_append.1 hr with hr | hr
    · exact c4 r hr
    · simp at hr; subst hr; exact hbl
/-- what the document says of one row more -/
theorem next_wrong {rs : List (List UInt8)} {ids : List Int} {rows : List (List UInt8)} {wrong : Bool} (hno : wrong = false → ∃ os, loadG rs [] = some os ∧ ids = oids os ∧ rows = os.map obB) (hyes : wrong = true → loadG rs [] = none) (b : List UInt8) (hb : b.length ≤ 5000) :
    (wrong = true → loadG (rs ++ [b]) [] = none) ∧ (wrong = false → (fidx ids (idOf b)).isSome = true → loadG (rs ++ [b]) [] = none) ∧ (wrong = false → decG b = none → loadG (rs ++ [b]) [] = none) ∧
      (wrong = false → fidx ids (idOf b) = none → (decG b).isSome = true → ∃ os, loadG (rs ++ [b]) [] = some os ∧ ids ++ [idOf b] = oids os ∧ rows ++ [b] = os.map obB) := by
  refine ⟨fun h => by rw [loadG_append, hyes h]; rfl, fun h hf => ?_, fun h hd => ?_, fun h hf hd => ?_⟩
  · obtain ⟨os, h1, h2, h3⟩ := hno h
    rw [load_one h1]
    cases hd : decG b with
    | none => rfl
    | some o =>
      have e : obB o = b := (decG_some hd (by omega)).2.2.1
      rw [h2, show idOf b = oid o from by unfold oid; rw [e], fidx_iff] at hf
      simp only
      rw [if_pos hf]
  · obtain ⟨os, h1, h2, h3⟩ := hno h
    rw [load_one h1, hd]
  · obtain ⟨os, h1, h2, h3⟩ := hno h
    obtain ⟨o, hd⟩ := Option.isSome_iff_exists.1 hd
    have e : obB o = b := (decG_some hd (by omega)).2.2.1
    have e2 : idOf b = oid o := by unfold oid; rw [e]
    have hf2 : (findO os (oid o)).isSome = false := by rw [← fidx_iff, ← h2, ← e2, hf]; rfl
    refine ⟨os ++ [o], ?_, by rw [h2, e2]; simp [oids], by rw [h3, ← e]; simp⟩
    rw [load_one h1, hd]
    simp only
    rw [if_neg (by rw [hf2]; simp)]
end Go.Proofs.YthalpnpnbclipaaGreat
