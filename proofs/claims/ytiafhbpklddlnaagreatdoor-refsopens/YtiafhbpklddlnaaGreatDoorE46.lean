import Derived.Test.YtiafhbpklddlnaaGreatDoorE43
import Derived.Test.YtiafhbpklddlnaaGreatDoorE45
/- (payloads with room behind them) The walk of the document's own reading of a file: it tells what parseL says. -/
namespace Go.Proofs.YtiafhbpklddlnaaGreatDoor
open Go.RowKit

/-- a block of three cells: a File -/
def Box3 (W : World) (g : Nat) (u0 u1 u2 : Value) : Prop := W.heap[g]? = some (.cells #[u0, u1, u2] 92 (0, 0))
theorem Box3.lt {W : World} {g : Nat} {u0 u1 u2 : Value} (h : Box3 W g u0 u1 u2) : g < W.heap.size := (Array.getElem?_eq_some_iff.1 h).1
theorem Box3.cell {W : World} {g : Nat} {u0 u1 u2 : Value} (h : Box3 W g u0 u1 u2) : W.cell? ⟨g, 0, none⟩ = some u0 ∧ W.cell? ⟨g, 1, none⟩ = some u1 ∧ W.cell? ⟨g, 2, none⟩ = some u2 := by
  simp [World.cell?, show W.heap[g]? = _ from h]
theorem Box3.frozen {W : World} {g : Nat} {u0 u1 u2 : Value} (h : Box3 W g u0 u1 u2) : W.frozen? ⟨g, 0, none⟩ = false ∧ W.frozen? ⟨g, 1, none⟩ = false ∧ W.frozen? ⟨g, 2, none⟩ = false := by
  simp [World.frozen?, show W.heap[g]? = _ from h]
theorem Box3.set0 {W : World} {g : Nat} {u0 u1 u2 : Value} (h : Box3 W g u0 u1 u2) (u : Value) : Box3 (W.setCell ⟨g, 0, none⟩ u) g u u1 u2 := by
  have h' : W.heap[g]? = _ := h
  simp [Box3, World.setCell, Array.getElem?_modify, h', Array.setIfInBounds]
theorem Box3.set1 {W : World} {g : Nat} {u0 u1 u2 : Value} (h : Box3 W g u0 u1 u2) (u : Value) : Box3 (W.setCell ⟨g, 1, none⟩ u) g u0 u u2 := by
  have h' : W.heap[g]? = _ := h
  simp [Box3, World.setCell, Array.getElem?_modify, h', Array.setIfInBounds]
theorem Box3.set2 {W : World} {g : Nat} {u0 u1 u2 : Value} (h : Box3 W g u0 u1 u2) (u : Value) : Box3 (W.setCell ⟨g, 2, none⟩ u) g u0 u1 u := by
  have h' : W.heap[g]? = _ := h
  simp [Box3, World.setCell, Array.getElem?_modify, h', Array.setIfInBounds]
theorem Box3.all {W : World} {g : Nat} {v0 v1 v2 : Value} (h : Box3 W g v0 v1 v2) (u0 u1 u2 : Value) : Box3 (((W.setCell ⟨g, 0, none⟩ u0).setCell ⟨g, 1, none⟩ u1).setCell ⟨g, 2, none⟩ u2) g u0 u1 u2 := ((h.set0 u0).set1 u1).set2 u2
theorem rd_ret {W : World} {p : Nat} {u0 u1 u2 : Value} {a : Act} {P : Ending → World → Prop} (hb : Box3 W p u0 u1 u2) (ha : a.tmps[2]?.getD undef = .pointer (some ⟨p, 0, none⟩)) (hd : a.defers = []) (hP : P (.returned (.agg #[u0, u1, u2])) W) : bodyPost Tryz.prog Tryz.f43 P Exit.ret a W := by
  obtain ⟨c0, c1, c2⟩ := hb.cell
  exact bodyPost_ret (v := .agg #[u0, u1, u2]) (by simp [results, Tryz.results43, go_sem, ha, c0, c1, c2]) hd hP
theorem Box3.other {W : World} {g k i : Nat} {u0 u1 u2 : Value} (h : Box3 W g u0 u1 u2) (hk : g ≠ k) (u : Value) : Box3 (W.setCell ⟨k, i, none⟩ u) g u0 u1 u2 :=
  (Below.heap_setCell _ _ _ _ hk).trans h

structure RdInv (B0 : Nat) (w wr : World) (p q : Nat) (v : Value) (ds : List (List UInt8)) (sz : Nat) (l : List UInt8) : Prop where
  b0 : B0 ≤ w.heap.size
  vlo : ∀ g, v.ownBlock = some g → w.heap.size ≤ g
  dn : DoneC B0 wr v ds
  vb : ∀ g, v.ownBlock = some g → g ≠ p ∧ g ≠ q
  pq : w.heap.size ≤ p ∧ w.heap.size ≤ q ∧ p ≠ q
  bel : Below w.heap.size w wr
  ps : parseL l = (ds ++ (parseL (l.drop sz)).1, sz + (parseL (l.drop sz)).2.1, (parseL (l.drop sz)).2.2)
  szl : sz ≤ l.length
  cnt : ds.length * 9 ≤ sz
  bp : Box3 wr p (.slice none 0 0) (.int .i64 0) (.bool false)
  bq : Box3 wr q v (.int .i64 (sz : Int)) (.bool false)

theorem RdInv.below {B0 : Nat} {w wr w' : World} {p q : Nat} {v : Value} {ds : List (List UInt8)} {sz : Nat} {l : List UInt8} (h : RdInv B0 w wr p q v ds sz l) (hB : Below wr.heap.size wr w') : RdInv B0 w w' p q v ds sz l :=
  { h with dn := h.dn.below hB, bel := h.bel.trans (hB.mono h.bel.size), bp := (hB.block _ h.bp.lt).trans h.bp, bq := (hB.block _ h.bq.lt).trans h.bq }

theorem RdInv.fin {B0 : Nat} {w wr w' : World} {p q : Nat} {va : Option Addr} {vn vc : Nat} {ds : List (List UInt8)} {sz : Nat} {l : List UInt8} (h : RdInv B0 w wr p q (.slice va vn vc) ds sz l) (hT : Turn (fun k => k = p ∨ k = q) wr w') (b : Bool) (hp : parseL (l.drop sz) = ([], 0, b)) :
    DoneC B0 w' (.slice va vn vc) (parseL l).1 ∧ (parseL l).2.1 = sz ∧ (parseL l).2.2 = b ∧ Below w.heap.size w w' := by
  have hd := h.dn.turn hT (fun k hk => by have := h.pq; have := h.b0; rcases hk with rfl | rfl <;> omega) (fun g hg e => by have := h.vb g hg; omega)
  have e : parseL l = (ds, sz, b) := by rw [h.ps, hp]; simp
  rw [e]
  exact ⟨hd, rfl, rfl, h.bel.trans (hT.below h.bel.size (fun k hk => by have := h.pq; rcases hk with rfl | rfl <;> omega))⟩

/-- one record more: its payload is in the list, its bytes are counted -/
theorem RdInv.step {B0 : Nat} {w wr w' : World} {p q : Nat} {v v' : Value} {ds : List (List UInt8)} {sz : Nat} {l : List UInt8} {X : Obj} {x : Option Addr} {m c k : Nat} {r : List UInt8} {xs : List Value} {z : Int} (h : RdInv B0 w wr p q v ds sz l)
    (h1 : rec1 (l.drop sz) = .one r k) (h0 : sz < l.length) (hb : Bytes w x m r) (hxb : (0 < m → ∀ y, x = some y → y.block < B0) ∧ m < c ∧ c ≤ maxLen)
    (hxs : (wr.alloc X).ownsRow 0 33 1 v ds.length xs) (h3 : ∀ i, i < ds.length → ∃ x m c, xs[i]? = some (.slice x m c) ∧ Bytes (wr.alloc X) x m (rc ds i) ∧ ((0 < m → ∀ y, x = some y → y.block < B0) ∧ m < c ∧ c ≤ maxLen))
    (hown : w'.ownsRow 0 33 1 v' (ds.length + 1) (xs ++ [.slice x m c])) (hg : (wr.alloc X).grownBy w' v.ownBlock) (hat : v'.ownBlock = v.ownBlock ∨ v'.ownBlock = some (wr.alloc X).heap.size) (hz : z = ((sz + k : Nat) : Int)) :
    RdInv B0 w ((w'.setCell ⟨q, 0, none⟩ v').setCell ⟨q, 1, none⟩ (.int .i64 z)) p q v' (ds ++ [r]) (sz + k) l := by
  subst hz
  obtain ⟨_, _, hk1, hk2, _, _⟩ := rec1_one h1
  rw [List.length_drop] at hk1
  have hsw := h.bel.size
  have hsa : (wr.alloc X).heap.size = wr.heap.size + 1 := by simp
  have hqlt := h.bq.lt
  have hplt := h.bp.lt
  have hvlt := h.vlo
  have hb0 := h.b0
  have hbw : Below w.heap.size w (wr.alloc X) := h.bel.alloc hsw X
  have hT1 : Turn (fun k => v.ownBlock = some k) wr w' := (Turn.of_below _ ((Below.refl wr.heap.size wr).alloc (Nat.le_refl _) X)).trans (Turn.of_grownBy (Fp := fun k => v.ownBlock = some k) hg (fun k hk => .inl hk)) (fun _ _ h => h)
  have hd : DoneC B0 w' v' (ds ++ [r]) :=
    DoneC.push (B := B0) hxs (fun g hg => Nat.le_trans hb0 (hvlt g hg)) h3 ((Turn.of_below (fun _ => False) hbw).bytes hb (fun _ _ _ => id)) hxb (by omega) hown hg hat
  have hvlo' : ∀ g, v'.ownBlock = some g → w.heap.size ≤ g := fun g hg' => by
    rcases hat with e | e
    · exact hvlt g (by rw [← e]; exact hg')
    · rw [e] at hg'
      have : (wr.alloc X).heap.size = g := by simpa using hg'
      omega
  have hvb : ∀ g, v'.ownBlock = some g → g ≠ p ∧ g ≠ q := fun g hg' => by
    rcases hat with e | e
    · exact h.vb g (by rw [← e]; exact hg')
    · rw [e] at hg'
      have : (wr.alloc X).heap.size = g := by simpa using hg'
      omega
  have hTs : Turn (fun k => k = q) w' ((w'.setCell ⟨q, 0, none⟩ v').setCell ⟨q, 1, none⟩ (.int .i64 ((sz + k : Nat) : Int))) := (turn_setCell w' q 0 _).trans (turn_setCell _ q 1 _) (fun _ _ h => h)
  have hq' : Box3 w' q v (.int .i64 (sz : Int)) (.bool false) := (hT1.block q hqlt (fun e => (h.vb q e).2 rfl)).trans h.bq
  have hp' : Box3 w' p (.slice none 0 0) (.int .i64 0) (.bool false) := (hT1.block p hplt (fun e => (h.vb p e).1 rfl)).trans h.bp
  have hpo := parseL_one (l := l.drop sz) (fun e => by have := congrArg List.length e; simp at this; omega) h1
  refine { b0 := hb0, vlo := hvlo', dn := hd.turn hTs (fun k hk => by subst hk; exact Nat.le_trans hb0 h.pq.2.1) (fun g hg' e => (hvb g hg').2 e), vb := hvb, pq := h.pq, bel := ?_, ps := ?_, szl := by omega, cnt := ?_, bp := (hp'.other h.pq.2.2 _).other h.pq.2.2 _, bq := (hq'.set0 v').set1 _ }
  · exact (hbw.grown hg (by omega) hvlt).trans (hTs.below (by have := (hbw.grown hg (by omega) hvlt).size; omega) (fun k hk => by subst hk; exact h.pq.2.1))
  · rw [h.ps, hpo, List.drop_drop]
    simp only [List.append_assoc, List.singleton_append, Nat.add_assoc]
  · rw [List.length_append, List.length_singleton]
    have := h.cnt
    omega

/-- what the reading answers -/
def RdPost (B0 : Nat) (w : World) (l : List UInt8) (e : Ending) (w' : World) : Prop := ∃ va vn vc, e = .returned (.agg #[.slice va vn vc, .int .i64 ((parseL l).2.1 : Int), .bool (parseL l).2.2]) ∧ DoneC B0 w' (.slice va vn vc) (parseL l).1 ∧ (∀ g, (Value.slice va vn vc).ownBlock = some g → w.heap.size ≤ g) ∧ Below w.heap.size w w'

theorem RdInv.post {B0 : Nat} {w wr w' : World} {p q : Nat} {va : Option Addr} {vn vc : Nat} {ds : List (List UInt8)} {sz : Nat} {l : List UInt8} (h : RdInv B0 w wr p q (.slice va vn vc) ds sz l) (hT : Turn (fun k => k = p ∨ k = q) wr w') (b : Bool) (hp : parseL (l.drop sz) = ([], 0, b)) :
    RdPost B0 w l (.returned (.agg #[.slice va vn vc, .int .i64 (sz : Int), .bool b])) w' := by
  obtain ⟨h1, h3, h4, h5⟩ := h.fin hT b hp
  exact ⟨va, vn, vc, by rw [h3, h4], h1, h.vlo, h5⟩

theorem turn_p3 (W : World) (p q : Nat) (u0 u1 u2 : Value) : Turn (fun k => k = p ∨ k = q) W (((W.setCell ⟨p, 0, none⟩ u0).setCell ⟨p, 1, none⟩ u1).setCell ⟨p, 2, none⟩ u2) :=
  (((turn_setCell W p 0 u0).trans (turn_setCell _ p 1 u1) (fun _ _ h => h)).trans (turn_setCell _ p 2 u2) (fun _ _ h => h)).wide (fun _ h => .inl h)
theorem turn_q1 (W : World) (p q : Nat) (u : Value) : Turn (fun k => k = p ∨ k = q) W (W.setCell ⟨q, 2, none⟩ u) := (turn_setCell W q 2 u).wide (fun _ h => .inr h)

theorem RdInv.kept {B0 : Nat} {w wr w' : World} {p q : Nat} {v : Value} {ds : List (List UInt8)} {sz : Nat} {l : List UInt8} {X : Obj} (h : RdInv B0 w wr p q v ds sz l) (hg : (wr.alloc X).grownBy w' v.ownBlock) : Box3 w' q v (.int .i64 (sz : Int)) (.bool false) := by
  have hT1 : Turn (fun k => v.ownBlock = some k) wr w' := (Turn.of_below _ ((Below.refl wr.heap.size wr).alloc (Nat.le_refl _) X)).trans (Turn.of_grownBy (Fp := fun k => v.ownBlock = some k) hg (fun k hk => .inl hk)) (fun _ _ h => h)
  exact (hT1.block q h.bq.lt (fun e => (h.vb q e).2 rfl)).trans h.bq

theorem fwd' {w : World} {b off n : Nat} {l : List UInt8} (h : Bytes w (some ⟨b, off, none⟩) n l) (k : Nat) (hk : k ≤ n) : Bytes w (some ⟨b, off + k, none⟩) (n - k) (l.drop k) := by
  have := Bytes.sub h k n hk (Nat.le_refl _)
  rw [← h.1, List.take_length] at this
  rw [← h.1]
  exact this

/-- the size that a File has come to -/
def szAt (W : World) (q : Nat) : Nat := match W.cell? ⟨q, 1, none⟩ with | some (.int _ z) => z.toNat | _ => 0
theorem Box3.szAt {W : World} {g sz : Nat} {u0 u2 : Value} (h : Box3 W g u0 (.int .i64 (sz : Int)) u2) : szAt W g = sz := by
  unfold Proofs.YtiafhbpklddlnaaGreatDoor.szAt; rw [h.cell.2.1]; simp

set_option maxRecDepth 100000 in
set_option maxHeartbeats 4000000 in
theorem refRead_any (B0 : Nat) (a : Option Addr) (n c : Nat) (l : List UInt8) (w : World) (hb : Bytes w a n l) (hc : n ≤ c) (hcm : c ≤ maxLen) (hn : n ≤ 4194304) (hB0 : B0 ≤ w.heap.size) (hab : 0 < n → ∀ y, a = some y → y.block < B0) :
    Calls Tryz.prog 43 #[.slice a n c] w (RdPost B0 w l) := by
  have hln := hb.1
  obtain ⟨i0, hi, hz0, hz1, hz2⟩ := info_parts Tryz.info33
  have hu := Tryz.underlying90
  go_enter Tryz.func43, Tryz.ntmps43
  go_wp2_with fail
  obtain ⟨w0, hw0⟩ : ∃ w0, w0 = (w.alloc (.cells #[.slice none 0 0, .int .i64 0, .bool false] 92)).alloc (.cells #[.slice none 0 0, .int .i64 0, .bool false] 92) := ⟨_, rfl⟩
  have H0 : Hid (RdInv B0 w w0 w.heap.size (w.heap.size + 1) (.slice none 0 0) [] 0 l) := by
    have hB1 : Below w.heap.size w (w.alloc (.cells #[.slice none 0 0, .int .i64 0, .bool false] 92)) := (Below.refl _ w).alloc (Nat.le_refl _) _
    have hB : Below w.heap.size w w0 := by rw [hw0]; exact hB1.alloc (by simp) _
    have b1 : Box3 (w.alloc (.cells #[.slice none 0 0, .int .i64 0, .bool false] 92)) w.heap.size (.slice none 0 0) (.int .i64 0) (.bool false) := World.alloc_heap_new w _
    have b2 : Box3 w0 (w.heap.size + 1) (.slice none 0 0) (.int .i64 0) (.bool false) := by
      have := World.alloc_heap_new (w.alloc (.cells #[.slice none 0 0, .int .i64 0, .bool false] 92)) (.cells #[.slice none 0 0, .int .i64 0, .bool false] 92)
      rw [World.size_alloc, ← hw0] at this
      exact this
    have b3 : Box3 w0 w.heap.size (.slice none 0 0) (.int .i64 0) (.bool false) := by
      have hB2 := (Below.refl (w.heap.size + 1) (w.alloc (.cells #[.slice none 0 0, .int .i64 0, .bool false] 92))).alloc (by simp) (.cells #[.slice none 0 0, .int .i64 0, .bool false] 92)
      rw [← hw0] at hB2
      exact (hB2.block _ (by omega)).trans b1
    exact { b0 := hB0, vlo := by simp [Value.ownBlock], dn := DoneC.nil _ _, vb := by simp [Value.ownBlock], pq := ⟨by omega, by omega, by omega⟩, bel := hB, ps := by simp, szl := by omega, cnt := by simp, bp := b3, bq := b2 }
  rw [← hw0]
  clear hw0
  obtain ⟨p, hp⟩ : ∃ p, p = w.heap.size := ⟨_, rfl⟩
  obtain ⟨q, hq⟩ : ∃ q, q = p + 1 := ⟨_, rfl⟩
  rw [← hp, ← hq] at H0 ⊢
  clear hp hq
  go_loopw [] (fun wr => ∃ (va : Option Addr) (vn vc : Nat) (ds : List (List UInt8)) (sz : Nat), Hid (RdInv B0 w wr p q (.slice va vn vc) ds sz l) ∧ Hid (vn = ds.length)) (fun wr => n - szAt wr q)
  case atStart => exact ⟨none, 0, 0, [], 0, H0, rfl⟩
  case round =>
    clear H0
    obtain ⟨va, vn, vc, ds, sz, H, HD⟩ := hrel
    have hszn : sz ≤ n := by rw [← hln]; exact H.out.szl
    obtain ⟨c0, c1, c2⟩ := H.out.bq.cell
    obtain ⟨f0, f1, f2⟩ := H.out.bq.frozen
    obtain ⟨p0, p1, p2⟩ := H.out.bp.cell
    obtain ⟨g0, g1, g2⟩ := H.out.bp.frozen
    have hpq := H.out.pq.2.2
    have Hsz : Hid (szAt wr q = sz) := H.out.bq.szAt
    have Hln : Hid (l.length = n) := hln
    have hm0 : n ≤ maxLen := Nat.le_trans hc hcm
    have hcm' : c ≤ 9223372036854775807 := by unfold maxLen at hcm; omega
    clear hln
    by_cases hlt : sz < n
    · have i1 : (sz : Int) < (n : Int) := by omega
      obtain ⟨b, off, rfl, _⟩ := hb.2 (by omega)
      have Hab : Hid (b < B0) := hab (by omega) _ rfl
      have hbr : Bytes wr (some ⟨b, off + sz, none⟩) (n - sz) (l.drop sz) := (Turn.of_below (fun _ => False) H.out.bel).bytes (fwd' hb sz hszn) (fun _ _ _ => id)
      have hx1 := number_any (some ⟨b, off + sz, none⟩) (n - sz) (c - sz) (l.drop sz) wr hbr (by omega)
      have i2 : (n : Int) ≤ (c : Int) := by omega
      have i3 : sz < c := by omega
      obtain ⟨x, k, e, hnum⟩ : ∃ x k e, num (l.drop sz) = (x, k, e) := ⟨_, _, _, rfl⟩
      have Hnum : Hid (num (l.drop sz) = (x, k, e)) := hnum
      rw [hnum] at hx1
      have hfits := num_fits (l.drop sz)
      have hle := num_le (l.drop sz)
      rw [hnum] at hfits hle
      rw [hbr.1] at hle
      simp only at hfits hle
      clear hnum
      go_wp2_with fail
      refine hx1.mono ?_
      clear hx1
      rintro e' w1 ⟨rfl, rfl⟩
      by_cases e110 : e = 110
      · subst e110
        have hp : Hid (parseL (l.drop sz) = ([], 0, false)) := parseL_short (rec1_a (by rw [Hnum.out]))
        go_wp2
        exact rd_ret (H.out.bp.all _ _ _) rfl rfl (H.out.post (turn_p3 _ _ _ _ _ _) false hp.out)
      · have hne : Hid (l.drop sz ≠ []) := fun e => by have h1 := congrArg List.length e; have h2 := Hln.out; rw [List.length_drop, List.length_nil] at h1; omega
        by_cases e0 : e = 0
        · subst e0
          by_cases hbig : 262144 < x
          · have hp : Hid (parseL (l.drop sz) = ([], 0, true)) := parseL_wrong hne.out (rec1_c (by rw [Hnum.out]) (by rw [Hnum.out]; exact hbig))
            go_wp2
            exact rd_ret ((H.out.bp.other hpq _).all _ _ _) rfl rfl (H.out.post ((turn_q1 _ p q _).trans (turn_p3 _ p q _ _ _) (fun _ _ h => h)) true hp.out)
          · obtain ⟨X, rfl⟩ : ∃ X : Nat, x = (X : Int) := ⟨x.toNat, by omega⟩
            have hX : X ≤ 262144 := by omega
            by_cases hs : n - sz - k < X + 8
            · have hp : Hid (parseL (l.drop sz) = ([], 0, false)) := parseL_short (rec1_d Hnum.out hX (by rw [List.length_drop, Hln.out]; exact hs))
              have i5 : (((n - sz : Nat) : Int) - (k : Int) < (X : Int) + 8) := by omega
              go_wp2
              exact rd_ret (H.out.bp.all _ _ _) rfl rfl (H.out.post (turn_p3 _ _ _ _ _ _) false hp.out)
            · have i5 : ¬ (((n - sz : Nat) : Int) - (k : Int) < (X : Int) + 8) := by omega
              have Hat := recB_at Hnum.out (by rw [List.length_drop, Hln.out]; omega)
              obtain ⟨r, hr⟩ : ∃ r, r = ((l.drop sz).drop k).take X := ⟨_, rfl⟩
              rw [← hr] at Hat
              obtain ⟨hrX, _, hrec, hkl, hk1⟩ := Hat
              have hbw : Bytes w (some ⟨b, off + sz + k, none⟩) X r := by rw [hr]; exact (fwd' (fwd' hb sz hszn) k (by omega)).take X (by omega)
              have Hbw : Hid (Bytes w (some ⟨b, off + sz + k, none⟩) X r) := hbw
              have hx2 := refRecord_any (some ⟨b, off + sz + k, none⟩) X (c - sz - k) r w1 ((Turn.of_below (fun _ => False) H.out.bel).bytes hbw (fun _ _ _ => id)) (by omega)
              obtain ⟨rn, hrn⟩ : ∃ rn, rn = k + X + 8 := ⟨_, rfl⟩
              rw [hrec, ← hrn] at hx2
              have Hr : Hid (r = ((l.drop sz).drop k).take X ∧ rn = k + X + 8) := ⟨hr, hrn⟩
              have j1 : k < c - sz := by omega
              have j2 : rn ≤ n - sz := by omega
              have j3 : (rn : Int) ≤ 4194304 := by omega
              clear hr hrn hrX hrec hkl hbw
              go_wp2_with fail
              refine hx2.mono ?_
              clear hx2
              rintro e' w2 ⟨br, rfl, hbr2, hB2, _⟩
              have H2 : Hid (RdInv B0 w w2 p q (.slice va vn vc) ds sz l) := H.out.below hB2
              have hbt : Bytes w2 (some ⟨b, off + sz, none⟩) rn ((l.drop sz).take rn) := ((Turn.of_below (fun _ => False) H2.out.bel).bytes (fwd' hb sz hszn) (fun _ _ _ => id)).take rn j2
              have r1 : ∀ t, (convert 33 9 (.slice (some ⟨br, 0, none⟩) rn rn)).run Tryz.prog (w2.drewN t) = .ok (.string ⟨(recB r).toArray⟩) (w2.drewN t) := fun t => run_string (w2.drewN t) _ rn rn _ (hbr2.drewN t)
              have r2 : ∀ t, (convert 33 9 (.slice (some ⟨b, off + sz, none⟩) rn (c - sz))).run Tryz.prog (w2.drewN t) = .ok (.string ⟨((l.drop sz).take rn).toArray⟩) (w2.drewN t) := fun t => run_string (w2.drewN t) _ rn _ _ (hbt.drewN t)
              obtain ⟨s1, hs1⟩ : ∃ s1 : ByteArray, s1 = ⟨(recB r).toArray⟩ := ⟨_, rfl⟩
              obtain ⟨s2, hs2⟩ : ∃ s2 : ByteArray, s2 = ⟨((l.drop sz).take rn).toArray⟩ := ⟨_, rfl⟩
              rw [← hs1] at r1
              rw [← hs2] at r2
              have Hs : Hid (s1 = ⟨(recB r).toArray⟩ ∧ s2 = ⟨((l.drop sz).take rn).toArray⟩) := ⟨hs1, hs2⟩
              have j4 : rn ≤ c - sz := by omega
              clear hs1 hs2 hbt hbr2 hB2 c0 c1 c2 f0 f1 f2 p0 p1 p2 g0 g1 g2
              go_wp2_with fail
              go_quiet (fail)
              have H3 : Hid (RdInv B0 w (w2.drewN nq) p q (.slice va vn vc) ds sz l) := by
                have hB := Below.refl w2.heap.size w2
                exact H2.out.below (w' := w2.drewN nq) ⟨hB.os, hB.tape, hB.output, hB.size, hB.block⟩
              generalize w2.drewN nq = w3 at *
              obtain ⟨c0, c1, c2⟩ := H3.out.bq.cell
              obtain ⟨f0, f1, f2⟩ := H3.out.bq.frozen
              obtain ⟨p0, p1, p2⟩ := H3.out.bp.cell
              obtain ⟨g0, g1, g2⟩ := H3.out.bp.frozen
              clear r1 r2 H H2
              by_cases hq : s1 = s2
              · have h1 : Hid (rec1 (l.drop sz) = .one r rn) := by
                  have := rec1_e Hnum.out hX (by rw [List.length_drop, Hln.out]; omega) (by
                    rw [← Hr.out.1, ← Hr.out.2]
                    have e1 := Hs.out.1
                    rw [hq, Hs.out.2] at e1
                    have e2 := congrArg (fun z : ByteArray => z.data.toList) e1
                    simpa using e2.symm)
                  rw [← Hr.out.1, ← Hr.out.2] at this
                  exact this
                obtain ⟨xs, hxs, hx2, hx3⟩ := H3.out.dn.below ((Below.refl _ _).alloc (Nat.le_refl _) (.cells #[.slice (some ⟨b, off + sz + k, none⟩) X (c - sz - k)] 33))
                have Hx3 : Hid (∀ i, i < ds.length → ∃ x' m' c', xs[i]? = some (.slice x' m' c') ∧ Bytes (w3.alloc (.cells #[.slice (some ⟨b, off + sz + k, none⟩) X (c - sz - k)] 33)) x' m' (rc ds i) ∧ ((0 < m' → ∀ y, x' = some y → y.block < B0) ∧ m' < c' ∧ c' ≤ maxLen)) := hx3
                have hvs : vn ≤ 4194304 := by have := H3.out.cnt; have := HD.out; omega
                rw [← HD.out] at hxs
                subst hq
                have hcmp : (s1.toList == s1.toList) = true := by simp
                simp only [hcmp, Bool.not_true]
                clear hx2 hx3 hcmp
                go_wp2_with (at_builtin; refine wpList_push1 _ (by rfl) _ _ 90 33 i0 (.slice none 0 0) 24 rfl hu hi hz0 hz1 hz2 rfl (.slice va vn vc) vn xs rfl hxs w3.heap.size (.slice (some ⟨b, off + sz + k, none⟩) X (c - sz - k)) rfl (by simp) rfl (by unfold maxLen; omega) (by omega) ?_; intro v5 w5 hown5 hgr5 hat5; obtain ⟨a5, c5, rfl, hnc5, hnil5⟩ := ownsRow_shape' hown5; have hb5 := H3.out.kept hgr5; obtain ⟨k0, k1, k2⟩ := hb5.cell; obtain ⟨l0, l1, l2⟩ := hb5.frozen)
                have HS : Hid (∀ z : Int, z = ((sz + rn : Nat) : Int) → RdInv B0 w ((w5.setCell ⟨q, 0, none⟩ (.slice a5 (vn + 1) c5)).setCell ⟨q, 1, none⟩ (.int .i64 z)) p q (.slice a5 (vn + 1) c5) (ds ++ [r]) (sz + rn) l) := fun z hz => by
                  have hv : vn = ds.length := HD.out
                  subst hv
                  exact H3.out.step h1.out (by rw [Hln.out]; exact hlt) Hbw.out ⟨fun _ y hy => (by cases hy; exact Hab.out), by omega, by omega⟩ hxs Hx3.out hown5 hgr5 hat5 hz
                clear hown5 hgr5 hat5 hxs
                go_roundw
                case rel => exact ⟨a5, vn + 1, c5, ds ++ [r], sz + rn, HS.out _ (by go_num), by show vn + 1 = (ds ++ [r]).length; rw [List.length_append, HD.out]; rfl⟩
                case measure =>
                  rw [(HS.out _ (by go_num)).bq.szAt, Hsz.out]
                  have := Hr.out.2
                  omega
              · have hp : Hid (parseL (l.drop sz) = ([], 0, true)) := parseL_wrong hne.out (rec1_f Hnum.out hX (by rw [List.length_drop, Hln.out]; omega) (fun e => hq (by
                  rw [← Hr.out.1, ← Hr.out.2] at e
                  rw [Hs.out.1, Hs.out.2, e])))
                have hcmp : (s1.toList == s2.toList) = false := by
                  rw [ByteArray.toList_eq, ByteArray.toList_eq, Bool.eq_false_iff]
                  intro e
                  rw [beq_iff_eq] at e
                  exact hq (by cases s1 with | mk d1 => cases s2 with | mk d2 => exact congrArg ByteArray.mk (Array.toList_inj.1 e))
                simp only [hcmp, Bool.not_false]
                clear hcmp
                go_wp2
                exact rd_ret ((H3.out.bp.other hpq _).all _ _ _) rfl rfl (H3.out.post ((turn_q1 _ p q _).trans (turn_p3 _ p q _ _ _) (fun _ _ h => h)) true hp.out)
        · have hp : Hid (parseL (l.drop sz) = ([], 0, true)) := parseL_wrong hne.out (rec1_b (by rw [Hnum.out]; exact e110) (by rw [Hnum.out]; exact e0))
          go_wp2
          exact rd_ret ((H.out.bp.other hpq _).all _ _ _) rfl rfl (H.out.post ((turn_q1 _ p q _).trans (turn_p3 _ p q _ _ _) (fun _ _ h => h)) true hp.out)
    · have hp : Hid (parseL (l.drop sz) = ([], 0, false)) := by
        show _ = _
        rw [List.drop_eq_nil_of_le (by have := Hln.out; omega), parseL_nil]
      have i1 : ¬ (sz : Int) < (n : Int) := by omega
      go_wp2
      exact rd_ret (H.out.bp.all _ _ _) rfl rfl (H.out.post (turn_p3 _ _ _ _ _ _) false hp.out)

end Go.Proofs.YtiafhbpklddlnaaGreatDoor
