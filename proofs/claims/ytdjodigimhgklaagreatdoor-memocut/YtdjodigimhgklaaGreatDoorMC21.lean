import Derived.Test.YtdjodigimhgklaaGreatDoorMC20
import Derived.Test.YtdjodigimhgklaaGreatDoorMC17
import Derived.Test.YtdjodigimhgklaaGreatDoorMC12
import Derived.Test.YtdjodigimhgklaaGreatDoorMC19
import Derived.Test.YtdjodigimhgklaaGreatDoorMC14
import Derived.WalkMore
/- A block that is a row of pairs, made whole and written place by place. -/
namespace Go.Proofs.YtdjodigimhgklaaGreatDoor
open Go.RowKit Go.Shelf Go.Maps

attribute [local go_sem] Oper.semAt_some

/-- block G is a row of these pairs -/
def RowV (W : World) (G : Nat) (l : List Pr) : Prop := W.heap[G]? = some (.cells (prCells l).toArray 39 (0, 0))
theorem RowV.lt {W : World} {G : Nat} {l : List Pr} (h : RowV W G l) : G < W.heap.size := (Array.getElem?_eq_some_iff.1 h).1
theorem RowV.below {W W' : World} {B G : Nat} {l : List Pr} (h : RowV W G l) (hB : Below B W W') (hg : G < B) : RowV W' G l := (hB.block G hg).trans h
theorem RowV.kept {W W' : World} {G : Nat} {row : Option Nat} {l : List Pr} (h : RowV W G l) (hg : W.grownBy W' row) (hr : row ≠ some G) : RowV W' G l := (hg.block G h.lt hr.symm).trans h
theorem RowV.at {W : World} {G : Nat} {l : List Pr} (h : RowV W G l) (j : Nat) (u : Value) (hu : (prCells l)[j]? = some u) : W.cell? ⟨G, j, none⟩ = some u := by
  have h' : W.heap[G]? = _ := h
  simp [World.cell?, h', hu]
theorem RowV.cell {W : World} {G : Nat} {l : List Pr} (h : RowV W G l) {k : Nat} {x : Pr} (hx : l[k]? = some x) : W.cell? ⟨G, k * 2, none⟩ = some (.int .u64 (x.1 : Int)) ∧ W.cell? ⟨G, k * 2 + 1, none⟩ = some (.int .u64 (x.2 : Int)) := by
  obtain ⟨h1, h2⟩ := prCells_get l k x hx
  exact ⟨h.at _ _ h1, h.at _ _ h2⟩
theorem RowV.frozen {W : World} {G : Nat} {l : List Pr} (h : RowV W G l) (j : Nat) : W.frozen? ⟨G, j, none⟩ = false := by
  have h' : W.heap[G]? = _ := h
  simp [World.frozen?, h']
theorem RowV.prs {W : World} {G : Nat} {l : List Pr} (h : RowV W G l) : Prs W (some ⟨G, 0, none⟩) l.length l :=
  ⟨rfl, fun _ => ⟨G, 0, rfl, fun j x hx => by rw [Nat.zero_add]; exact h.cell hx⟩⟩
theorem prCells_set : ∀ (l : List Pr) (k : Nat) (x y : Nat), prCells (l.set k (x, y)) = ((prCells l).set (k * 2) (.int .u64 (x : Int))).set (k * 2 + 1) (.int .u64 (y : Int))
  | [], k, x, y => by simp [prCells]
  | p :: r, 0, x, y => by simp [prCells]
  | p :: r, k + 1, x, y => by
    rw [List.set_cons_succ, prCells, prCells, prCells_set r k x y, show (k + 1) * 2 = k * 2 + 1 + 1 by omega]
    simp only [List.set_cons_succ]
theorem RowV.set {W : World} {G : Nat} {l : List Pr} (h : RowV W G l) (k x y : Nat) : RowV ((W.setCell ⟨G, k * 2, none⟩ (.int .u64 (x : Int))).setCell ⟨G, k * 2 + 1, none⟩ (.int .u64 (y : Int))) G (l.set k (x, y)) := by
  have h' : W.heap[G]? = _ := h
  unfold RowV
  rw [prCells_set]
  simp [World.setCell, Array.getElem?_modify, h', List.setIfInBounds_toArray]
theorem RowV.other {W : World} {G j i : Nat} {l : List Pr} (h : RowV W G l) (hk : G ≠ j) (u : Value) : RowV (W.setCell ⟨j, i, none⟩ u) G l :=
  (Below.heap_setCell _ _ _ _ hk).trans h
theorem RowV.owns {W : World} {G base : Nat} {l : List Pr} (h : RowV W G l) (hb : base ≤ G) (hl : l.length ≤ maxLen) : W.ownsRow base 39 2 (.slice (some ⟨G, 0, none⟩) l.length l.length) l.length (prCells l) :=
  ⟨by rw [prCells_len], .inr ⟨G, l.length, _, rfl, hb, h, Nat.le_refl _, hl, by simp [prCells_len], by rw [← prCells_len]; simp⟩⟩
theorem made_pairs (n : Nat) : madeCells (Value.cells (.agg #[.int .u64 0, .int .u64 0])) (n * 2) = (prCells (List.replicate n (0, 0))).toArray := by
  apply Array.ext'
  simp only [madeCells, Array.toList_map, Array.toList_range]
  induction n with
  | zero => rfl
  | succ n ih =>
    rw [show (n + 1) * 2 = n * 2 + 1 + 1 by omega, List.range_succ, List.range_succ, List.map_append, List.map_append, ih, List.replicate_succ', prCells_append]
    simp only [List.map_cons, List.map_nil, prCells, List.append_assoc, List.cons_append, List.nil_append]
    have e : (Value.cells (.agg #[.int .u64 0, .int .u64 0])).size = 2 := rfl
    rw [e, show n * 2 % 2 = 0 by omega, show (n * 2 + 1) % 2 = 1 by omega]
    rfl
/-- make([]Pair, n): a row of pairs of noughts -/
theorem wpList_make_prs (w : World) {ops : Array Oper} {rest : List Oper} {o : Oper} {a : Act} {Q : Exit → Act → World → Prop}
    (hg : o.guard = none) (l c : Operand) (hop : o.op = Op.makeSlice 36 l c)
    (kl kc : IntKind) (n : Nat) (L C : Int) (hl : a.eval l = .int kl L) (hc : a.eval c = .int kc C) (hL : L = (n : Int)) (hC : C = (n : Int)) (hn : n ≤ 1000000)
    (hK : ∀ w1, RowV w1 w.heap.size (List.replicate n (0, 0)) → Below w.heap.size w w1 → wpList Tryz.prog ops Q rest (a.put o.dst (.slice (some ⟨w.heap.size, 0, none⟩) n n)) w1) :
    wpList Tryz.prog ops Q (o :: rest) a w := by
  obtain ⟨i0, hi, hz0, hz1, hz2⟩ := info_parts infoPr
  refine wpList_plain hg fun K hK' => ?_
  subst hL
  subst hC
  have hrun := run_make (P := Tryz.prog) w 36 39 i0 _ Tryz.underlying36 hi hz0 kl kc (n : Int) (n : Int) (by omega) (by omega) (by rw [hz2]; omega) (by omega)
  simp only [hz1, Int.toNat_natCast] at hrun
  rw [made_pairs] at hrun
  unfold Oper.wp
  simp [execOp, hop, hl, hc, hrun, Result.andThen]
  exact hK' _ _ (hK _ (heap_alloc_new w _) ((Below.refl _ _).alloc (Nat.le_refl _) _))
end Go.Proofs.YtdjodigimhgklaaGreatDoor

/- The walks of Append. -/
namespace Go.Proofs.YtdjodigimhgklaaGreatDoor
open Go.RowKit

theorem jappend_nil (w : World) (v : Value) : Calls Tryz.prog 88 #[.pointer none, v] w fun e w' => e = .returned (.int .i64 1) ∧ w' = w := by
  go_enter Tryz.func88, Tryz.ntmps88
  go_wp2
  go_ret
  exact ⟨rfl, rfl⟩

theorem jappend_cut (w : World) (j d : Nat) (nm : ByteArray) (rs : List (List UInt8)) (sz : Nat) (F : Nat → Prop) (h : JAt w j d nm rs sz true F) (v : Value) :
    Calls Tryz.prog 88 #[.pointer (some ⟨j, 0, none⟩), v] w fun e w' => e = .returned (.int .i64 6) ∧ w' = w := by
  have c6 := h.c6
  clear h
  go_enter Tryz.func88, Tryz.ntmps88
  go_wp2
  go_ret
  exact ⟨rfl, rfl⟩

theorem jappend_long (w : World) (j d : Nat) (nm : ByteArray) (rs : List (List UInt8)) (sz : Nat) (F : Nat → Prop) (h : JAt w j d nm rs sz false F) (a : Option Addr) (m c : Nat) (hm : 262144 < m) :
    Calls Tryz.prog 88 #[.pointer (some ⟨j, 0, none⟩), .slice a m c] w fun e w' => e = .returned (.int .i64 3) ∧ w' = w := by
  have c6 := h.c6
  have i1 : (262144 : Int) < (m : Int) := by omega
  clear h
  go_enter Tryz.func88, Tryz.ntmps88
  go_wp2
  go_ret
  exact ⟨rfl, rfl⟩

/-- what lies behind an Append to a Journal that is not cut -/
def Appended (w w' : World) (j d : Nat) (nm : ByteArray) (rs : List (List UInt8)) (sz : Nat) (F : Nat → Prop) (S : DG) (G : Nat → Prop) (l : List UInt8) (e : Ending) : Prop :=
  e = .returned (.int .i64 (S.app nm.data.toList (recB l)).2) ∧ Turn (fun k => F k ∨ G k) w w' ∧ ∃ F' G', IsDisk w' d (S.app nm.data.toList (recB l)).1 G' ∧ (∀ k, F' k → F k ∨ w.heap.size ≤ k) ∧ (∀ k, G' k → G k ∨ w.heap.size ≤ k) ∧ (∀ k, F' k → ¬ G' k) ∧
    (((S.app nm.data.toList (recB l)).2 = 0 ∧ JAt w' j d nm (rs ++ [l]) (sz + (recB l).length) false F') ∨ ((S.app nm.data.toList (recB l)).2 ≠ 0 ∧ JAt w' j d nm rs sz (decide ((S.app nm.data.toList (recB l)).2 = 6)) F'))

theorem app_ok {S : DG} {nm l : List UInt8} (h : (S.app nm l).2 = 0) : l.length + (S.bs nm).length ≤ 4194304 := by
  unfold DG.app at h
  split at h
  · cases h
  · split at h
    · cases h
    · rename_i h1 h2
      simp only [not_or] at h2
      omega

set_option maxRecDepth 20000 in
set_option maxHeartbeats 4000000 in
theorem jappend_any (w : World) (j d : Nat) (nm : ByteArray) (rs : List (List UInt8)) (sz : Nat) (F : Nat → Prop) (S : DG) (G : Nat → Prop) (h : JAt w j d nm rs sz false F) (hd : IsDisk w d S G) (hFG : ∀ k, F k → ¬ G k)
    (a : Option Addr) (m c : Nat) (l : List UInt8) (hb : Bytes w a m l) (hm : m ≤ 262144) (ha : 0 < m → ∀ x, a = some x → ¬ F x.block ∧ ¬ G x.block) (hs : nm.size ≤ maxLen) (hbs : (S.bs nm.data.toList).length ≤ 4194304) (hsz : sz ≤ (S.bs nm.data.toList).length) (hn : S.n ≤ 256) (hw : S.wr < 4000000000000000000) :
    Calls Tryz.prog 88 #[.pointer (some ⟨j, 0, none⟩), .slice a m c] w fun e w' => Appended w w' j d nm rs sz F S G l e := by
  have c6 := h.c6
  have i1 : ¬ (262144 : Int) < (m : Int) := by omega
  have hll := hb.1
  have hlt := h.lt
  have hdlt := hd.lt
  go_enter Tryz.func88, Tryz.ntmps88
  go_wp2_with fail
  refine (form_any a m c l w hb (by omega)).mono ?_
  rintro e w0 ⟨g, c1, rfl, hown0, hB0⟩
  obtain ⟨w1, hw1⟩ : ∃ w1, w1 = w0.drew := ⟨_, rfl⟩
  have hown1 : w1.ownsRow w.heap.size 5 1 (.slice (some ⟨g, 0, none⟩) (recB l).length c1) (recB l).length (cellsOf (recB l)) := by rw [hw1]; exact hown0.drew
  have hB1 : Below w.heap.size w w1 := by rw [hw1]; exact ⟨hB0.os, hB0.tape, hB0.output, hB0.size, hB0.block⟩
  have c00 : w0.cell? ⟨j, 0, none⟩ = some (.pointer (some ⟨d, 0, none⟩)) := (h.below hB0).c0
  have c01 : w0.cell? ⟨j, 1, none⟩ = some (.string nm) := (h.below hB0).c1
  clear hown0 hB0
  have hJ1 := h.below hB1
  have hd1 := hd.below hB1
  have hb1 : Bytes w1 a m l := (Turn.of_below (fun _ => False) hB1).bytes hb (fun _ _ _ => id)
  obtain ⟨hbr, hgr⟩ := ownsRow_toBytes hown1
  have hgb := hgr _ rfl
  obtain ⟨_, _, e1, hnc1, _⟩ := ownsRow_shape hown1
  cases e1
  have hx2 := append_any d S G w1 nm (some ⟨g, 0, none⟩) (recB l).length c1 (recB l) hd1 hs hbr hnc1 (by simp) (fun _ x hx => by cases hx; exact ⟨fun hg => by have := hdlt _ hg; simp only at this hgb; omega, hgb.2⟩) hbs hn hw (by have := (recB_pos l).2; omega)
  have hc0 := hJ1.c0
  have hc1 := hJ1.c1
  have hjG : ¬ G j := hFG j hJ1.fj
  have hs1 := hB1.size
  obtain ⟨er, her⟩ : ∃ er, er = (S.app nm.data.toList (recB l)).2 := ⟨_, rfl⟩
  obtain ⟨N, hN⟩ : ∃ N, N = (recB l).length := ⟨_, rfl⟩
  have HE : Hid (er = (S.app nm.data.toList (recB l)).2 ∧ N = (recB l).length) := ⟨her, hN⟩
  rw [← her, ← hN] at hx2
  rw [← hN]
  clear h hd hb hown1 hbr hgr hgb hnc1 c6 hN her
  go_wp2_with fail
  rw [hw1] at hx2
  go_region_held3 (fun W => W.cell? ⟨j, 0, none⟩ = some (.pointer (some ⟨d, 0, none⟩)) ∧ W.cell? ⟨j, 1, none⟩ = some (.string nm))
    (first
      | (go_split_ands
         refine ⟨by go_keep, by go_keep⟩)
      | (go_split_ands
         exact ⟨hT2.cell c00 hjG, hT2.cell c01 hjG⟩))
    ((go_at_call 20; refine hx2.mono ?_; rintro e w2 ⟨rfl, hd2, hT2⟩))
  rw [← hw1] at hd2 hT2
  clear hx2 hw1 c00 c01
  have hJ2 := hJ1.turn hT2 hFG
  have HT2 : Hid (Turn (fun k => F k ∨ G k) w w2) := (Turn.of_below _ hB1).trans hT2 (fun i _ h => .inr h)
  by_cases h0 : er = 0
  · have hok := app_ok (S := S) (nm := nm.data.toList) (l := recB l) (by rw [← HE.out.1]; exact h0)
    have hrl := recB_pos l
    have hcnt := hJ2.cnt
    have HD2 : Hid (IsDisk w2 d (S.app nm.data.toList (recB l)).1 (grow G w1 w2)) := hd2
    have HJ2 : Hid (JAt w2 j d nm rs sz false F) := hJ2
    have Hdis : Hid (∀ k, F k → ¬ grow G w1 w2 k) := fun k hk hg => hg.elim (hFG k hk) (fun h => by have := hlt k hk; omega)
    have Hok : Hid (sz + (recB l).length ≤ 4194304 ∧ 9 + l.length ≤ (recB l).length) := ⟨by omega, hrl.1⟩
    have hx3 := add_any j 2 rs F w2 a m c l hJ2.pay hJ2.fj hJ2.lt (hT2.bytes hb1 (fun h0 x hx => (ha h0 x hx).2)) (fun h0 x hx => (ha h0 x hx).1) (by omega) (by omega)
    subst h0
    clear hJ2 hd2 hT2 hJ1 hd1 hb1 hok hrl hcnt
    go_wp2_with fail
    refine hx3.mono ?_
    rintro e w3 ⟨rfl, hp3, hT3, hR3⟩
    have c5 : w3.cell? ⟨j, 5, none⟩ = some (.int .i64 sz) := (hR3.1 5 (by decide) (by decide) (by decide)).trans HJ2.out.c5
    have f5 : w3.frozen? ⟨j, 5, none⟩ = false := (hR3.2 5).trans HJ2.out.f5
    have hsm := HJ2.out.small
    have HA : Hid (∀ z : Int, z = ((sz + (recB l).length : Nat) : Int) → JAt (w3.setCell ⟨j, 5, none⟩ (.int .i64 z)) j d nm (rs ++ [l]) (sz + (recB l).length) false (grow F w2 w3) ∧ Turn F w2 (w3.setCell ⟨j, 5, none⟩ (.int .i64 z))) := fun z hz => HJ2.out.added hp3 hT3 hR3 _ Hok.out.2 Hok.out.1 z hz
    have hNs : N ≤ 4194304 := by have := HE.out.2; have := Hok.out.1; omega
    have hlt2 := HD2.out.lt
    clear hx3 hp3 hR3
    have hs3 := hT3.size
    have hs2 := HT2.out.size
    clear hT3
    go_wp2
    go_ret
    have hA := HA.out _ (show (sz : Int) + (N : Int) = ((sz + (recB l).length : Nat) : Int) by rw [← HE.out.2]; omega)
    have hEq := HE.out.1
    refine ⟨by rw [← hEq]; rfl, HT2.out.trans hA.2 (fun i _ h => .inl h), grow F w2 w3, grow G w1 w2, HD2.out.turn hA.2 (fun k hk hf => Hdis.out k hf hk), fun k hk => hk.imp id (fun h => by omega), fun k hk => hk.imp id (fun h => by omega), fun k hk hg => hk.elim (fun h => Hdis.out k h hg) (fun h => by have := hlt2 k hg; omega), .inl ⟨hEq.symm, hA.1⟩⟩
  · have h0' : (er != 0) = true := by simpa using h0
    have c6 := hJ2.c6
    have f6 := hJ2.f6
    have HM : Hid (∀ b, JAt (w2.setCell ⟨j, 6, none⟩ (.bool b)) j d nm rs sz b F ∧ Turn F w2 (w2.setCell ⟨j, 6, none⟩ (.bool b))) := fun b => hJ2.mark b
    have HD2 : Hid (IsDisk w2 d (S.app nm.data.toList (recB l)).1 (grow G w1 w2)) := hd2
    have Hdis : Hid (∀ k, F k → ¬ grow G w1 w2 k) := fun k hk hg => hg.elim (hFG k hk) (fun h => by have := hlt k hk; omega)
    clear hJ2 hd2 hT2 hJ1 hd1 hb1
    go_wp2
    go_ret
    have hM := HM.out (er == 6)
    have hEq := HE.out.1
    refine ⟨by rw [← hEq]; rfl, HT2.out.trans hM.2 (fun i _ h => .inl h), F, grow G w1 w2, HD2.out.turn hM.2 (fun k hk hf => Hdis.out k hf hk), fun k hk => .inl hk, fun k hk => hk.imp id (fun h => by omega), Hdis.out, .inr ⟨by rw [← hEq]; exact h0, ?_⟩⟩
    rw [← hEq]
    exact hM.1

end Go.Proofs.YtdjodigimhgklaaGreatDoor

/- Of which memo, and which run, is a file's name? -/
namespace Go.Proofs.YtdjodigimhgklaaGreatDoor
open Go.RowKit Go.Shelf

attribute [local go_sem] Oper.semAt_some

instance (l : List UInt8) : Decidable (hexOK l) := by unfold hexOK; infer_instance
/-- may that byte stand there behind a key? -/
def okAt (r : List UInt8) (k : Nat) : Bool := if k = 0 then decide (bt r 0 = 45) && decide (1 < r.length) else decide (48 ≤ bt r k) && decide (bt r k ≤ 57) && !(decide (k = 1) && decide (bt r k = 48))
/-- the number that the first bytes make -/
def numTo (r : List UInt8) : Nat → Nat
  | 0 => 0
  | k + 1 => if k = 0 then 0 else numTo r k * 10 + ((bt r k).toNat - 48)
def okTill (r : List UInt8) (k : Nat) : Bool := (List.range k).all fun j => okAt r j
theorem okTill_succ (r : List UInt8) (k : Nat) : okTill r (k + 1) = (okTill r k && okAt r k) := by simp [okTill, List.range_succ]
theorem okTill_le (r : List UInt8) (k n : Nat) (h : okTill r n = true) (hk : k ≤ n) : okTill r k = true := by
  simp only [okTill, List.all_eq_true, List.mem_range] at h ⊢
  exact fun j hj => h j (by omega)
/-- which memo's, and which run's, a name is; (0, 0): none's -/
def whoP (l : List UInt8) : Nat × Nat :=
  if l.length < 21 ∨ l.take 5 ≠ [109, 101, 109, 111, 45] ∨ ¬ hexOK ((l.drop 5).take 16) then (0, 0)
  else if okTill (l.drop 21) (l.drop 21).length = true then ((unhexTo ((l.drop 5).take 16) 16).toNat, numTo (l.drop 21) (l.drop 21).length) else (0, 0)
theorem ext_list (s : ByteArray) (a b : Nat) : (s.extract a b).data.toList = (s.data.toList.drop a).take (b - a) := by
  rw [ByteArray.data_extract, Array.toList_extract, List.extract_eq_take_drop]
theorem numTo_lt (r : List UInt8) : ∀ k, okTill r k = true → k ≤ 12 → numTo r k < 10 ^ k
  | 0, _, _ => by simp [numTo]
  | k + 1, h, hk => by
    rw [okTill_succ, Bool.and_eq_true] at h
    have ih := numTo_lt r k h.1 (by omega)
    rw [numTo]
    split
    · exact Nat.pow_pos (by omega)
    · rename_i h0
      have h2 := h.2
      unfold okAt at h2
      rw [if_neg h0] at h2
      simp only [Bool.and_eq_true, decide_eq_true_eq] at h2
      have e : 10 ^ (k + 1) = 10 ^ k * 10 := Nat.pow_succ ..
      omega
theorem numTo_le (r : List UInt8) (k : Nat) (h : okTill r k = true) (hk : k ≤ 11) : numTo r k ≤ 100000000000 := by
  have h1 := numTo_lt r k h (by omega)
  have h2 : 10 ^ k ≤ 10 ^ 11 := Nat.pow_le_pow_right (by omega) hk
  have h3 : 10 ^ 11 = 100000000000 := by decide
  omega
theorem who_bad {l : List UInt8} (h : l.length < 21 ∨ l.take 5 ≠ [109, 101, 109, 111, 45] ∨ ¬ hexOK ((l.drop 5).take 16)) : whoP l = (0, 0) := by unfold whoP; rw [if_pos h]
set_option maxRecDepth 20000 in
set_option maxHeartbeats 1000000 in
theorem whose_any (s : ByteArray) (w : World) (hs : s.size ≤ 32) :
    Calls Tryz.prog 52 #[.string s] w fun e w' => e = .returned (.tuple #[.int .u64 ((whoP s.data.toList).1 : Int), .int .i64 ((whoP s.data.toList).2 : Int)]) ∧ w' = w := by
  have hll : s.data.toList.length = s.size := by simp
  by_cases h1 : s.size < 21
  · have i1 : (s.size : Int) < 21 := by omega
    rw [who_bad (.inl (by omega))]
    go_enter Tryz.func52, Tryz.ntmps52
    go_wp2
    go_step3
    go_wp2
    rw [Exit.noGoto_ret]
    go_ret2
    exact ⟨rfl, rfl⟩
  · have i1 : ¬ (s.size : Int) < 21 := by omega
    have i2 : (5 : Int) ≤ (s.size : Int) := by omega
    have i3 : (21 : Int) ≤ (s.size : Int) := by omega
    have e5 : (s.extract 0 5).toList = s.data.toList.take 5 := by rw [ByteArray.toList_eq, ext_list]; simp
    by_cases h5 : s.data.toList.take 5 = [109, 101, 109, 111, 45]
    · have j5 : ((s.extract 0 5).toList == [109, 101, 109, 111, 45]) = true := by rw [e5, h5]; rfl
      have e16 : (s.extract 5 21).data.toList = (s.data.toList.drop 5).take 16 := ext_list s 5 21
      clear e5
      by_cases h16 : hexOK ((s.data.toList.drop 5).take 16)
      · have hun := unhex_yes (s.extract 5 21) w (by rw [e16]; exact h16)
        rw [e16] at hun
        have er : (s.extract 21 s.size).data.toList = s.data.toList.drop 21 := by
          rw [ext_list, List.take_of_length_le (by rw [List.length_drop]; omega)]
        have HW : Hid (whoP s.data.toList = if okTill (s.data.toList.drop 21) (s.data.toList.drop 21).length = true then ((unhexTo ((s.data.toList.drop 5).take 16) 16).toNat, numTo (s.data.toList.drop 21) (s.data.toList.drop 21).length) else (0, 0)) := by
          show _ = _
          unfold whoP
          rw [if_neg]
          rintro (h | h | h)
          · omega
          · exact h h5
          · exact h h16
        have hlo := unhexTo_lo ((s.data.toList.drop 5).take 16) 16
        obtain ⟨K, hK⟩ : ∃ K : Nat, unhexTo ((s.data.toList.drop 5).take 16) 16 = (K : Int) := ⟨_, (Int.toNat_of_nonneg hlo).symm⟩
        rw [hK] at hun HW
        obtain ⟨R, hR⟩ : ∃ R, R = s.extract 21 s.size := ⟨_, rfl⟩
        obtain ⟨r, hr⟩ : ∃ r, r = s.data.toList.drop 21 := ⟨_, rfl⟩
        have hrs : r.length = R.size := by
          rw [hr, ← er, ← hR]
          simp
        have hr11 : R.size ≤ 11 := by rw [← hrs, hr, List.length_drop]; omega
        have HR : Hid (R.data.toList = r) := by rw [hr, hR]; exact er
        rw [← hr] at HW
        clear hlo hK er h16 e16 hll hr
        go_enter Tryz.func52, Tryz.ntmps52
        go_wp2
        go_step3
        go_wp2_with (go_at_call 94; refine hun.mono ?_; clear hun; rintro e w1 ⟨rfl, hw1⟩; subst hw1)
        rw [← hR]
        clear hR
        go_step3
        go_wp2_with fail
        go_loopw [6, 30] (fun v i wr => ∃ k : Nat, k ≤ R.size ∧ v = .int .i64 ((numTo r k : Nat) : Int) ∧ i = .int .i64 (k : Int) ∧ wr = w1 ∧ Hid (okTill r k = true)) (fun _ i _ => R.size - (intOf i).toNat)
        case atStart => exact ⟨0, Nat.zero_le _, rfl, rfl, rfl, rfl⟩
        case round =>
          obtain ⟨k, hk, rfl, rfl, rfl, hok⟩ := hrel
          by_cases hlt : k < R.size
          · have i7 : (k : Int) < (R.size : Int) := by omega
            have hbt : bt r k = (R[k].toNat : Int) := by
              rw [← HR.out]
              unfold bt
              congr 2
              simp [List.getD, hlt]
              rfl
            have HBad : Hid (okAt r k = false → whoP s.data.toList = (0, 0)) := fun hno => by
              rw [HW.out, if_neg]
              intro h
              have := okTill_le _ (k + 1) _ h (by omega)
              rw [okTill_succ, hno] at this
              simp at this
            have hnl := numTo_le r k hok.out (by omega)
            obtain ⟨N, hN⟩ : ∃ N, N = numTo r k := ⟨_, rfl⟩
            have HN : Hid (N = numTo r k) := hN
            rw [← hN] at hnl ⊢
            clear hN
            have hc255 : R[k].toNat ≤ 255 := by have := R[k].toNat_lt; omega
            by_cases h0 : k = 0
            · subst h0
              have hN0 : N = 0 := HN.out
              subst hN0
              clear HN hnl
              go_wp2
              all_goals first
                | (refine ⟨⟨1, by omega, by simp [numTo], rfl, trivial, ?_⟩, by simp [intOf]; omega⟩
                   show okTill r (0 + 1) = true
                   rw [okTill_succ, hok.out, Bool.true_and]
                   unfold okAt
                   rw [if_pos rfl, hbt]
                   simp
                   omega)
                | (try rw [Exit.noGoto_ret]
                   go_ret2
                   refine ⟨?_, rfl⟩
                   rw [HBad.out (by unfold okAt; rw [if_pos rfl, hbt]; simp; omega)]
                   rfl)
            · have a0 : ((k : Int) == 0) = false := by simp; omega
              by_cases hz : R[k].toNat = 48
              · have a4 : ((R[k].toNat : Int) == 48) = true := by simp [hz]
                go_wp2
                all_goals first
                  | (refine ⟨⟨k + 1, by omega, ?_, by (first | go_num | (congr 1; omega)), trivial, ?_⟩, by simp [intOf]; omega⟩
                     · rw [numTo, if_neg h0, ← HN.out, hbt]
                       congr 1
                       omega
                     show okTill r (k + 1) = true
                     rw [okTill_succ, hok.out, Bool.true_and]
                     unfold okAt
                     rw [if_neg h0, hbt]
                     simp
                     first | omega | grind)
                  | (try rw [Exit.noGoto_ret]
                     go_ret2
                     refine ⟨?_, rfl⟩
                     rw [HBad.out (by unfold okAt; rw [if_neg h0, hbt]; simp; first | omega | (intros; omega) | grind)]
                     rfl)
              · have a4 : ((R[k].toNat : Int) == 48) = false := by simp; omega
                go_wp2
                all_goals first
                  | (refine ⟨⟨k + 1, by omega, ?_, by (first | go_num | (congr 1; omega)), trivial, ?_⟩, by simp [intOf]; omega⟩
                     · rw [numTo, if_neg h0, ← HN.out, hbt]
                       congr 1
                       omega
                     show okTill r (k + 1) = true
                     rw [okTill_succ, hok.out, Bool.true_and]
                     unfold okAt
                     rw [if_neg h0, hbt]
                     simp
                     first | omega | grind)
                  | (try rw [Exit.noGoto_ret]
                     go_ret2
                     refine ⟨?_, rfl⟩
                     rw [HBad.out (by unfold okAt; rw [if_neg h0, hbt]; simp; first | omega | (intros; omega) | grind)]
                     rfl)
          · obtain rfl : k = R.size := by omega
            have HB : Hid (whoP s.data.toList = (K, numTo r R.size)) := by
              show _ = _
              rw [HW.out, hrs, if_pos hok.out]
              simp
            have i7 : ¬ (R.size : Int) < (R.size : Int) := by omega
            clear HW
            go_wp2
            try rw [Exit.noGoto_ret]
            go_ret2
            rw [HB.out]
            exact ⟨rfl, rfl⟩
      · have hun := unhex_no (s.extract 5 21) w (by rw [e16]; exact h16)
        rw [who_bad (.inr (.inr h16))]
        go_enter Tryz.func52, Tryz.ntmps52
        go_wp2
        go_step3
        go_wp2_with (go_at_call 94; refine hun.mono ?_; clear hun; rintro e w1 ⟨rfl, hw1⟩; subst hw1)
        rw [Exit.noGoto_ret]
        go_ret2
        exact ⟨rfl, rfl⟩
    · have j5 : ((s.extract 0 5).toList == [109, 101, 109, 111, 45]) = false := by rw [e5]; simpa using h5
      rw [who_bad (.inr (.inl h5))]
      clear e5
      go_enter Tryz.func52, Tryz.ntmps52
      go_wp2
      go_step3
      go_wp2
      rw [Exit.noGoto_ret]
      go_ret2
      exact ⟨rfl, rfl⟩
end Go.Proofs.YtdjodigimhgklaaGreatDoor
