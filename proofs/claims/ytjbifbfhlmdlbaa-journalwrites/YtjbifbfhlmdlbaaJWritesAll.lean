import Derived.Test.YtjbifbfhlmdlbaaRefPut
import Derived.Test.YtjbifbfhlmdlbaaRefHash
import Derived.Test.YtjbifbfhlmdlbaaJForm
import Derived.Test.YtjbifbfhlmdlbaaPayAddEnd
import Derived.Test.YtjbifbfhlmdlbaaJArg
import Derived.Test.YtjbifbfhlmdlbaaJDone
import Derived.Test.YtjbifbfhlmdlbaaJWakes
import Derived.Test.YtjbifbfhlmdlbaaRows
/- The walk of the document's own form of a record. -/
namespace Go.Proofs.Ytjbifbfhlmdlbaa
open Go.RowKit

theorem ownsRow_toBytes' {w : World} {B n c : Nat} {ad : Option Addr} {l : List UInt8} (h : w.ownsRow B 5 1 (.slice ad n c) n (cellsOf l)) : Bytes w ad n l := (ownsRow_toBytes h).1

theorem refHash_nat (a : Option Addr) (n c : Nat) (l : List UInt8) (w : World) (hb : Bytes w a n l) (hm : n ≤ maxLen) :
    Calls Try.prog 35 #[.slice a n c] w fun e w' => e = .returned (.int .u64 (hashN l)) ∧ w' = w := by
  rw [hashN_eq, hb.1]
  exact refHash_any a n c l w hb hm

set_option maxHeartbeats 1000000 in
theorem refRecord_any (a : Option Addr) (n c : Nat) (l : List UInt8) (w : World) (hb : Bytes w a n l) (hn : n ≤ 140737488351232) :
    Calls Try.prog 17 #[.slice a n c] w fun e w' => ∃ b, e = .returned (.slice (some ⟨b, 0, none⟩) (recB l).length (recB l).length) ∧ Bytes w' (some ⟨b, 0, none⟩) (recB l).length (recB l) ∧ Below w.heap.size w w' ∧ w.heap.size ≤ b := by
  have hrs := run_string w a n c l hb
  have hl := hb.1
  have hx1 := refText_any ⟨l.toArray⟩ w (by show l.length ≤ _; omega)
  go_enter Try.func17, Try.ntmps17
  go_wp2_with fail
  refine hx1.mono ?_
  clear hx1
  rintro e w1 ⟨v, rfl, hown1, hB1⟩
  obtain ⟨a1, c1, rfl, _, _⟩ := ownsRow_shape' hown1
  have hb1' := (ownsRow_toBytes' hown1)
  have hsz : (ByteArray.mk l.toArray).size = n := hl
  rw [hsz] at hown1 hb1' ⊢
  obtain ⟨N1, hN1⟩ : ∃ N1, N1 = (short n).length + n := ⟨_, rfl⟩
  have HN1 : Hid (N1 = (short n).length + n) := hN1
  rw [← hN1] at hb1' ⊢
  have hb2 : Bytes w1 a n l := (Turn.of_below (fun _ => False) hB1).bytes hb (fun _ _ _ => id)
  have hs10 := short_len n
  have hN1b : N1 ≤ 140737488351300 := by omega
  clear hb hrs hown1 hN1
  go_wp2_with fail
  refine (refHash_nat a n c l w1 hb2 (by unfold maxLen; omega)).mono ?_
  rintro e w2 ⟨rfl, rfl⟩
  go_wp2_with fail
  refine (refWord_any (hashN l) w2 (hashN_lt l)).mono ?_
  rintro e w3 ⟨rfl, hbw, hB3⟩
  have hb3 : Bytes w3 a1 N1 (short n ++ l) := (Turn.of_below (fun _ => False) hB3).bytes hb1' (fun _ _ _ => id)
  have hB13 : Hid (Below w.heap.size w w3) := hB1.trans (hB3.mono hB1.size)
  have hx4 := both_any a1 (some ⟨w2.heap.size, 0, none⟩) N1 8 c1 8 _ _ w3 hb3 hbw (by omega)
  clear hb2 hb1' hb3 hbw hB1 hB3
  go_wp2_with fail
  refine hx4.mono ?_
  clear hx4
  rintro e w4 ⟨rfl, hown4, hg4⟩
  go_wp2
  go_ret
  have hE : N1 + 8 = (recB l).length := by rw [recB_len, hl, HN1.out]
  have hE2 : short n ++ l ++ wide (hashN l) = recB l := by unfold recB; rw [hl, List.append_assoc]
  rw [hE, hE2] at hown4
  refine ⟨w3.heap.size, by rw [← hE]; rfl, (ownsRow_bytes hown4).1, hB13.out.grown hg4 hB13.out.size (by simp), hB13.out.size⟩

end Go.Proofs.Ytjbifbfhlmdlbaa

/- The walk of the law JournalWrites. -/
namespace Go.Proofs.Ytjbifbfhlmdlbaa
open Go.RowKit

/-- Append to a Journal whose file would get too long -/
theorem jl_full (Q : Nat → Prop) (w : World) (j d : Nat) (S : DG) (s : ByteArray) (rs : List (List UInt8)) (h : JL Q w j d s rs S) (hs : s.size ≤ maxLen) (hnm : nameB s.data.toList = true) (hg : Good S s.data.toList rs) (hbig : (fileB rs).length ≤ 4194304)
    (a : Option Addr) (m c : Nat) (l : List UInt8) (hb : Bytes w a m l) (hm : m ≤ 262144) (ha : 0 < m → ∀ x, a = some x → ¬ Q x.block) (hfit : 4194304 < (recB l).length + (fileB rs).length) :
    Calls Try.prog 18 #[.pointer (some ⟨j, 0, none⟩), .slice a m c] w fun e w' => e = .returned (.int .i64 3) ∧ JL (grow Q w w') w' j d s rs S ∧ Turn Q w w' := by
  obtain ⟨F, G, h1, h2, h3, h4, h5, h6⟩ := h
  have hn := hg.n
  have hwr := hg.wr
  have happ := hg.full hnm l hfit
  refine (jappend_any w j d s rs _ F S G h1 h2 h3 a m c l hb hm (fun h0 x hx => ⟨fun hf => ha h0 x hx (h4 _ hf), fun hf => ha h0 x hx (h5 _ hf)⟩) hs (by rw [hg.get]; omega) (by rw [hg.get]; exact Nat.le_refl _) (by omega) (by omega)).mono ?_
  rintro e w' ⟨he, hT, F', G', hd', hF', hG', hFG', hcase⟩
  rw [happ] at he hd' hcase
  have hTQ : Turn Q w w' := hT.wide (fun k hk => hk.elim (h4 k) (h5 k))
  rcases hcase with ⟨h0, _⟩ | ⟨_, hJ⟩
  · exact absurd h0 (by simp)
  · exact ⟨he, ⟨F', G', hJ, hd', hFG', fun k hk => (hF' k hk).elim (fun h => .inl (h4 k h)) (fun h => .inr ⟨h, hJ.lt k hk⟩), fun k hk => (hG' k hk).elim (fun h => .inl (h5 k h)) (fun h => .inr ⟨h, hd'.lt k hk⟩), fun k hk => hk.elim (fun h => Nat.lt_of_lt_of_le (h6 k h) hTQ.size) (fun h => h.2)⟩, hTQ⟩

theorem fileB_count (rs : List (List UInt8)) : rs.length * 9 ≤ (fileB rs).length := by
  induction rs with
  | nil => simp [fileB]
  | cons r rs ih =>
    have h2 := (recB_pos r).1
    have e : (fileB (r :: rs)).length = (recB r).length + (fileB rs).length := by simp [fileB]
    rw [e, List.length_cons, Nat.add_mul]
    omega

/-- what holds ahead of each payload -/
structure WInv (w wr : World) (j d : Nat) (vw v : Value) (ds : List (List UInt8)) (Q : Nat → Prop) (S : DG) : Prop where
  jl : JL Q wr j d fNm ds S
  gd : Good S fNm.data.toList ds
  dn : Done w.heap.size wr v ds
  wt : wr.ownsRow 0 5 1 vw (fileB ds).length (cellsOf (fileB ds))
  dq : ∀ g, v.ownBlock = some g → ¬ Q g
  wq : ∀ g, vw.ownBlock = some g → ¬ Q g ∧ w.heap.size ≤ g
  vv : ∀ g, v.ownBlock = some g → vw.ownBlock ≠ some g
  q : ∀ k, Q k → w.heap.size ≤ k
  bel : Below w.heap.size w wr

theorem WInv.qlt {w wr : World} {j d : Nat} {vw v : Value} {ds : List (List UInt8)} {Q : Nat → Prop} {S : DG} (h : WInv w wr j d vw v ds Q S) (k : Nat) (hk : Q k) : k < wr.heap.size := by
  obtain ⟨_, _, _, _, _, _, _, h6⟩ := h.jl
  exact h6 k hk
theorem WInv.vlt {w wr : World} {j d : Nat} {vw v : Value} {ds : List (List UInt8)} {Q : Nat → Prop} {S : DG} (h : WInv w wr j d vw v ds Q S) (g : Nat) (hg : v.ownBlock = some g) : g < wr.heap.size ∧ w.heap.size ≤ g := by
  obtain ⟨xs, h1, h2, _⟩ := h.dn
  exact ⟨(h1.lt g hg).2, h2 g hg⟩
theorem WInv.below {w wr w' : World} {j d : Nat} {vw v : Value} {ds : List (List UInt8)} {Q : Nat → Prop} {S : DG} (h : WInv w wr j d vw v ds Q S) (hB : Below wr.heap.size wr w') : WInv w w' j d vw v ds Q S :=
  { h with jl := h.jl.below hB, dn := h.dn.below hB, wt := ownsRow_move' h.wt (fun g hg => hB.block g (h.wt.lt g hg).2), bel := h.bel.trans (hB.mono h.bel.size) }

/-- behind an Append: the Journal's own blocks alone have turned -/
theorem WInv.turned {w wr w' : World} {j d : Nat} {vw v : Value} {ds : List (List UInt8)} {Q : Nat → Prop} {S : DG} (h : WInv w wr j d vw v ds Q S) (hT : Turn Q wr w') :
    Done w.heap.size w' v ds ∧ w'.ownsRow 0 5 1 vw (fileB ds).length (cellsOf (fileB ds)) ∧ (∀ g, v.ownBlock = some g → ¬ grow Q wr w' g) ∧ (∀ g, vw.ownBlock = some g → ¬ grow Q wr w' g ∧ w.heap.size ≤ g) ∧ (∀ k, grow Q wr w' k → w.heap.size ≤ k) ∧ Below w.heap.size w w' :=
  ⟨h.dn.turn hT h.q h.dq, ownsRow_move' h.wt (fun g hg => hT.block g (h.wt.lt g hg).2 (h.wq g hg).1), fun g hg hq => hq.elim (h.dq g hg) (fun e => by have := h.vlt g hg; omega), fun g hg => ⟨fun hq => hq.elim (h.wq g hg).1 (fun e => by have := (h.wt.lt g hg).2; omega), (h.wq g hg).2⟩,
    fun k hk => hk.elim (h.q k) (fun e => by have := h.bel.size; omega), h.bel.trans (hT.below h.bel.size h.q)⟩

theorem WInv.moved {w w6 w7 w8 : World} {j d : Nat} {vw v : Value} {ds : List (List UInt8)} {Q : Nat → Prop} {S : DG} (h : WInv w w6 j d vw v ds Q S) (hT7 : Turn Q w6 w7) (hgr8 : w7.grownBy w8 vw.ownBlock) (X : Obj) : Done w.heap.size (w8.alloc X) v ds := by
  have h1 := (h.turned hT7).1
  have hT78 : Turn (fun k => vw.ownBlock = some k) w7 w8 := Turn.of_grownBy (Fp := fun k => vw.ownBlock = some k) hgr8 (fun k hk => .inl hk)
  exact (h1.turn hT78 (fun k hk => (h.wq k hk).2) (fun g hg e => h.vv g hg e)).below ((Below.refl _ _).alloc (Nat.le_refl _) X)

/-- behind an Append that was told OK, with the record in the law's own bytes and the payload in its own list -/
theorem WInv.step {w w6 w7 w8 w9 : World} {j d : Nat} {vw v vw8 v9 : Value} {ds : List (List UInt8)} {Q : Nat → Prop} {S S7 : DG} {X : Obj} {x : Option Addr} {m c rn : Nat} {l : List UInt8} {xs : List Value} (h : WInv w w6 j d vw v ds Q S)
    (hL7 : JL (grow Q w6 w7) w7 j d fNm (ds ++ [l]) S7) (hg7 : Good S7 fNm.data.toList (ds ++ [l])) (hT7 : Turn Q w6 w7)
    (hrn : rn = (recB l).length) (hown8 : w8.ownsRow 0 5 1 vw8 ((fileB ds).length + rn) (cellsOf (fileB ds) ++ cellsOf (recB l))) (hgr8 : w7.grownBy w8 vw.ownBlock) (hat8 : vw8.ownBlock = vw.ownBlock ∨ vw8.ownBlock = some w7.heap.size)
    (hb : Bytes w x m l) (hxs : (w8.alloc X).ownsRow 0 22 1 v ds.length xs) (h3 : ∀ i, i < ds.length → ∃ x m c, xs[i]? = some (.slice x m c) ∧ Bytes (w8.alloc X) x m (rc ds i) ∧ (0 < m → ∀ y, x = some y → y.block < w.heap.size))
    (hown : w9.ownsRow 0 22 1 v9 (ds.length + 1) (xs ++ [.slice x m c])) (hgr9 : (w8.alloc X).grownBy w9 v.ownBlock) (hat9 : v9.ownBlock = v.ownBlock ∨ v9.ownBlock = some (w8.alloc X).heap.size) :
    WInv w w9 j d vw8 v9 (ds ++ [l]) (grow Q w6 w7) S7 := by
  obtain ⟨t1, t2, t3, t4, t5, t6⟩ := h.turned hT7
  have hs67 := hT7.size
  have hsw := h.bel.size
  have hs78 : w7.heap.size ≤ w8.heap.size := (Turn.of_grownBy (Fp := fun k => vw.ownBlock = some k) hgr8 (fun k hk => .inl hk)).size
  have hsa : (w8.alloc X).heap.size = w8.heap.size + 1 := by simp
  have hlt7 : ∀ k, grow Q w6 w7 k → k < w7.heap.size := by obtain ⟨_, _, _, _, _, _, _, h6⟩ := hL7; exact h6
  have hT79 : Turn (fun k => vw.ownBlock = some k ∨ v.ownBlock = some k) w7 w9 :=
    ((Turn.of_grownBy (Fp := fun k => vw.ownBlock = some k ∨ v.ownBlock = some k) hgr8 (fun k hk => .inl (.inl hk))).trans (Turn.of_below _ ((Below.refl w8.heap.size w8).alloc (Nat.le_refl _) X)) (fun _ _ h => h)).trans (Turn.of_grownBy (Fp := fun k => vw.ownBlock = some k ∨ v.ownBlock = some k) hgr9 (fun k hk => .inl (.inr hk))) (fun _ _ h => h)
  have hvw8 : ∀ g, v.ownBlock = some g → vw8.ownBlock ≠ some g := fun g hg e => by
    rcases hat8 with e8 | e8
    · exact h.vv g hg (by rw [← e8]; exact e)
    · rw [e8] at e
      have e1 : w7.heap.size = g := by simpa using e
      have := h.vlt g hg
      omega
  refine { jl := ?_, gd := hg7, dn := ?_, wt := ?_, dq := ?_, wq := ?_, vv := ?_, q := t5, bel := ?_ }
  · obtain ⟨F, G, a1, a2, a3, a4, a5, a6⟩ := hL7
    have no : ∀ k, grow Q w6 w7 k → ¬ (vw.ownBlock = some k ∨ v.ownBlock = some k) := fun k hk e => e.elim (fun e => (t4 k e).1 hk) (fun e => t3 k e hk)
    exact ⟨F, G, a1.turn hT79 (fun k hk => no k (a4 k hk)), a2.turn hT79 (fun k hk => no k (a5 k hk)), a3, a4, a5, fun k hk => Nat.lt_of_lt_of_le (a6 k hk) hT79.size⟩
  · refine Done.push (B := w.heap.size) hxs (fun g hg => (h.vlt g hg).2) h3 ?_ (fun h0 y hy => ?_) (by omega) hown hgr9 hat9
    · have hb8 : Below w.heap.size w (w8.alloc X) := (t6.grown hgr8 (by omega) (fun k hk => (h.wq k hk).2)).alloc (by omega) X
      exact (Turn.of_below (fun _ => False) hb8).bytes hb (fun _ _ _ => id)
    · obtain ⟨b, off, e, hc⟩ := hb.2 h0
      rw [hy] at e; cases e
      exact World.block_lt_of_cell? w _ (hc 0 h0)
  · have e1 : (fileB (ds ++ [l])).length = (fileB ds).length + rn := by rw [fileB_snoc, List.length_append, hrn]
    have e2 : cellsOf (fileB (ds ++ [l])) = cellsOf (fileB ds) ++ cellsOf (recB l) := by rw [fileB_snoc, cellsOf_append]
    rw [e1, e2]
    have hT89 : Turn (fun k => v.ownBlock = some k) w8 w9 := (Turn.of_below _ ((Below.refl w8.heap.size w8).alloc (Nat.le_refl _) X)).trans (Turn.of_grownBy (Fp := fun k => v.ownBlock = some k) hgr9 (fun k hk => .inl hk)) (fun _ _ h => h)
    exact ownsRow_move' hown8 (fun g hg => hT89.block g (hown8.lt g hg).2 (fun e => hvw8 g e hg))
  · intro g hg hq
    rcases hat9 with e | e
    · exact t3 g (by rw [← e]; exact hg) hq
    · rw [e] at hg
      have e1 : (w8.alloc X).heap.size = g := by simpa using hg
      have := hlt7 g hq
      omega
  · intro g hg
    rcases hat8 with e | e
    · exact t4 g (by rw [← e]; exact hg)
    · rw [e] at hg
      have e1 : w7.heap.size = g := by simpa using hg
      exact ⟨fun hq => by have := hlt7 g hq; omega, by omega⟩
  · intro g hg e8
    rcases hat9 with e | e
    · exact hvw8 g (by rw [← e]; exact hg) e8
    · rw [e] at hg
      have e1 : (w8.alloc X).heap.size = g := by simpa using hg
      have := (hown8.lt g e8).2
      omega
  · exact ((t6.grown hgr8 (by omega) (fun k hk => (h.wq k hk).2)).alloc (by omega) X).grown hgr9 (by omega) (fun k hk => (h.vlt k hk).2)

set_option maxRecDepth 100000 in
set_option maxHeartbeats 4000000 in
theorem journalWrites_walk (a : Option Addr) (n c : Nat) (E : Nat → El) (w : World) (hl : Lists w a n E) (hn : n ≤ maxLen) (hbig : ∀ k, k < n → (E k).m ≤ 140737488351232) : Calls Try.prog 4 #[.slice a n c] w fun e w' => e = .returned (.bool true) ∧ Below w.heap.size w w' := by
  obtain ⟨i0, hi, hz0, hz1, hz2⟩ := info_parts Try.info22
  have hu := Try.underlying26
  go_enter Try.func4, Try.ntmps4
  go_wp2_with fail
  refine (jwakes_any _).mono ?_
  rintro e w1 ⟨rfl, B1⟩
  go_wp2_with fail
  refine (new_any w1).mono ?_
  rintro e w2 ⟨rfl, hd2, B2⟩
  have hx := jl_open w2 _ _ _ fNm [] hd2 (by decide) (Good.new _) (by simp [fileB])
  clear hd2
  go_wp2_with fail
  refine hx.mono ?_
  clear hx
  rintro e w3 ⟨j, rfl, hL3, hT3⟩
  have B3 : Below w.heap.size w w3 := B1.trans ((B2.trans (hT3.below B2.size (by rintro k (rfl | rfl) <;> omega))).mono B1.size)
  have Q3 : Hid (∀ k, grow (fun k => k = w1.heap.size ∨ k = w1.heap.size + 1) w2 w3 k → w.heap.size ≤ k) := fun k hk => hk.elim (fun h => by have := B1.size; omega) (fun h => by have := B1.size; have := B2.size; omega)
  obtain ⟨Q, hQ⟩ : ∃ Q, Q = grow (fun k => k = w1.heap.size ∨ k = w1.heap.size + 1) w2 w3 := ⟨_, rfl⟩
  rw [← hQ] at hL3 Q3
  clear hQ hT3 B2 B1
  go_wp2_with fail
  refine (jwakes_any _).mono ?_
  rintro e w4 ⟨rfl, B4⟩
  have HI : Hid (WInv w w4 j (w1.heap.size + 1) (.slice none 0 0) (.slice none 0 0) [] Q ⟨fun _ => none, 0, 0, false, 0⟩) :=
    { jl := hL3.below B4, gd := Good.new _, dn := Done.nil _ _, wt := World.ownsRow_nil _ _ _ _, dq := by simp [Value.ownBlock], wq := by simp [Value.ownBlock], vv := by simp [Value.ownBlock], q := Q3.out, bel := B3.trans (B4.mono B3.size) }
  clear hL3 B3 B4 Q3
  have hn' : n ≤ 9223372036854775807 := by unfold maxLen at hn; omega
  go_wp2_with fail
  go_loopw [6, 7, 37] (fun u v i wr => ∃ (k : Nat) (ua : Option Addr) (un uc : Nat) (va : Option Addr) (vn vc : Nat) (ds : List (List UInt8)) (Q : Nat → Prop) (S : DG), k ≤ n ∧ i = .int .i64 k ∧ u = .slice ua un uc ∧ v = .slice va vn vc ∧ Hid (WInv w wr j (w1.heap.size + 1) (.slice ua un uc) (.slice va vn vc) ds Q S) ∧ Hid (un = (fileB ds).length ∧ vn = ds.length) ∧ un ≤ 4194304 ∧ vn ≤ 4194304) (fun _ _ i _ => n - (intOf i).toNat)
  case atStart => exact ⟨0, none, 0, 0, none, 0, 0, [], Q, _, Nat.zero_le _, rfl, rfl, rfl, HI, ⟨rfl, rfl⟩, by omega, by omega⟩
  case round =>
    clear HI
    obtain ⟨k, ua, un, uc, va, vn, vc, ds, Q, S, hk, rfl, rfl, rfl, H, HD, hun, hvn⟩ := hrel
    by_cases hlt : k < n
    · obtain ⟨b, off, rfl, hc⟩ := hl.1 (by omega)
      obtain ⟨hbE, hmc, hnilE, hmx⟩ := hl.2 k hlt
      have hmb := hbig k hlt
      have hck : wr.cell? ⟨b, off + k, none⟩ = some (.slice (E k).x (E k).m (E k).c) := (H.out.bel.cell (p := ⟨b, off + k, none⟩) (World.block_lt_of_cell? w _ (hc k hlt))).trans (hc k hlt)
      obtain ⟨x, m, cx, lx, hE⟩ : ∃ x m cx lx, E k = ⟨x, m, cx, lx⟩ := ⟨_, _, _, _, rfl⟩
      rw [hE] at hck hbE hmc hnilE hmx hmb
      simp only at hck hbE hmc hnilE hmx hmb
      have Hb : Hid (Bytes w x m lx ∧ m ≤ cx ∧ (x = none → m = 0 ∧ cx = 0)) := ⟨hbE, hmc, hnilE⟩
      have i1 : (k : Int) < (n : Int) := by omega
      have hx5 := refRecord_any x m cx lx wr ((Turn.of_below (fun _ => False) H.out.bel).bytes hbE (fun _ _ _ => id)) hmb
      have hrb := (recB_pos lx).2
      rw [hbE.1] at hrb
      obtain ⟨rn, hrn⟩ : ∃ rn, rn = (recB lx).length := ⟨_, rfl⟩
      have Hrn : Hid (rn = (recB lx).length) := hrn
      rw [← hrn] at hx5 hrb
      clear hc hE hbE hmc hnilE hmx hrn hbig hl
      go_wp2_with fail
      refine hx5.mono ?_
      clear hx5
      rintro e w5 ⟨br, rfl, hbr, hB5, hbr5⟩
      have Hbr : Hid (Bytes w5 (some ⟨br, 0, none⟩) rn (recB lx) ∧ wr.heap.size ≤ br ∧ Below wr.heap.size wr w5) := ⟨hbr, hbr5, hB5⟩
      have H5 : Hid (WInv w w5 j (w1.heap.size + 1) (.slice ua un uc) (.slice va vn vc) ds Q S) := H.out.below hB5
      clear hbr hbr5 hB5
      have hba : Bytes (w5.alloc (.cells #[] 5)) x m lx := (Turn.of_below (fun _ => False) (H5.out.bel.alloc H5.out.bel.size _)).bytes Hb.out.1 (fun _ _ _ => id)
      have hsz : m ≤ 140737488355328 := by omega
      go_wp2_with (at_builtin; refine wpList_append_row _ rfl _ _ rfl (.slice (some ⟨w5.heap.size, 0, none⟩) 0 0) 0 [] rfl (empty_row w5) x m cx lx rfl hba Hb.out.2.2 (by omega) ?_; intro v6 w6 hown6 hgr6 hat6; obtain ⟨a6, c6, rfl, hnc6, hnil6⟩ := ownsRow_shape' hown6)
      rw [Nat.zero_add] at hown6 hnc6 hnil6
      rw [List.nil_append] at hown6
      have hB6 : Below w5.heap.size w5 w6 := ((Below.refl _ w5).alloc (Nat.le_refl _) _).grown hgr6 (by simp) (fun k hk => by cases hk; exact Nat.le_refl _)
      have hb6 := (ownsRow_toBytes hown6).1
      have H6 : Hid (WInv w w6 j (w1.heap.size + 1) (.slice ua un uc) (.slice va vn vc) ds Q S) := H5.out.below hB6
      have HB6 : Hid (Below w5.heap.size w5 w6) := hB6
      have hfree : Hid (0 < m → ∀ y, a6 = some y → ¬ Q y.block) := fun _ y hy hq => by
        have h1 := H5.out.qlt _ hq
        rcases hat6 with e | e
        · rw [hy] at e
          simp [Value.ownBlock] at e
          omega
        · rw [hy] at e
          simp [Value.ownBlock] at e
          omega
      have Hb6 : Hid (Bytes w6 a6 m lx) := hb6
      clear hown6 hgr6 hat6 hB6 hb6 hba hnil6 hnc6
      by_cases hlong : 262144 < m
      · have i2 : (262144 : Int) < (m : Int) := by omega
        have hx7 : Calls Try.prog 18 #[.pointer (some ⟨j, 0, none⟩), .slice a6 m c6] w6 fun e w' => e = .returned (.int .i64 3) ∧ w' = w6 := by
          obtain ⟨F, G, b1, _⟩ := H6.out.jl
          exact jappend_long w6 j _ fNm ds _ F b1 a6 m c6 hlong
        go_wp2_with fail
        refine hx7.mono ?_
        clear hx7
        rintro e w7 ⟨rfl, rfl⟩
        go_wp2_with fail
        go_roundw
        case rel => exact ⟨k + 1, ua, un, uc, va, vn, vc, ds, Q, S, by omega, by go_num, rfl, rfl, H6, HD, hun, hvn⟩
        case measure => simp [intOf]; omega
      · have i2 : ¬ (262144 : Int) < (m : Int) := by omega
        by_cases hfit : un + rn ≤ 4194304
        · have i3 : ¬ (4194304 : Int) < (un : Int) + (rn : Int) := by omega
          have hx7 := jl_append Q w6 j _ S fNm ds H6.out.jl (by decide) (by decide) H6.out.gd a6 m c6 lx Hb6.out (by omega) hfree.out (by rw [← Hrn.out, ← HD.out.1]; omega)
          go_wp2_with fail
          refine hx7.mono ?_
          clear hx7
          rintro e w7 ⟨rfl, ⟨S7, hL7, hg7⟩, hT7⟩
          have HS7 : Hid (JL (grow Q w6 w7) w7 j (w1.heap.size + 1) fNm (ds ++ [lx]) S7 ∧ Good S7 fNm.data.toList (ds ++ [lx]) ∧ Turn Q w6 w7) := ⟨hL7, hg7, hT7⟩
          have hw7 := (H6.out.turned hT7).2.1
          rw [← HD.out.1] at hw7
          have hbr7 : Bytes w7 (some ⟨br, 0, none⟩) rn (recB lx) := hT7.bytes ((Turn.of_below (fun _ => False) HB6.out).bytes Hbr.out.1 (fun _ _ _ => id)) (fun _ y hy hq => by
            cases hy
            have h1 := H.out.qlt _ hq
            have h2 := Hbr.out.2.1
            simp only at h1
            omega)
          clear hL7 hg7 hT7
          have hfit' : un + rn ≤ 140737488355328 := by omega
          go_wp2_with (first
            | (at_builtin; refine wpList_append_row _ rfl _ _ rfl (.slice ua un uc) un (cellsOf (fileB ds)) rfl hw7 (some ⟨br, 0, none⟩) rn rn (recB lx) rfl hbr7 (fun h => by cases h) hfit' ?_; intro v8 w8 hown8 hgr8 hat8; obtain ⟨a8, c8, rfl, hnc8, hnil8⟩ := ownsRow_shape' hown8; have H8 : Hid (w8.ownsRow 0 5 1 (.slice a8 (un + rn) c8) (un + rn) (cellsOf (fileB ds) ++ cellsOf (recB lx)) ∧ w7.grownBy w8 (Value.slice ua un uc).ownBlock ∧ ((Value.slice a8 (un + rn) c8).ownBlock = (Value.slice ua un uc).ownBlock ∨ (Value.slice a8 (un + rn) c8).ownBlock = some w7.heap.size)) := ⟨hown8, hgr8, hat8⟩; obtain ⟨xs, hxs, hx2, hx3⟩ := H6.out.moved HS7.out.2.2 hgr8 (.cells #[.slice x m cx] 22); have Hx3 : Hid (∀ i, i < ds.length → ∃ x' m' c', xs[i]? = some (.slice x' m' c') ∧ Bytes (w8.alloc (.cells #[.slice x m cx] 22)) x' m' (rc ds i) ∧ (0 < m' → ∀ y, x' = some y → y.block < w.heap.size)) := hx3; rw [← HD.out.2] at hxs; clear hx2 hx3 hown8 hgr8 hat8 hnc8 hnil8 hw7 hbr7)
            | (at_builtin; refine wpList_push1 _ (by rfl) _ _ 26 22 i0 (.slice none 0 0) 24 rfl hu hi hz0 hz1 hz2 rfl (.slice va vn vc) vn xs rfl hxs w8.heap.size (.slice x m cx) rfl (by simp) rfl (by unfold maxLen; omega) (by omega) ?_; intro v9 w9 hown9 hgr9 hat9; obtain ⟨a9, c9, rfl, hnc9, hnil9⟩ := ownsRow_shape' hown9)
            | fail)
          have HS : Hid (WInv w w9 j (w1.heap.size + 1) (.slice a8 (un + rn) c8) (.slice a9 (vn + 1) c9) (ds ++ [lx]) (grow Q w6 w7) S7) := by
            have hu := HD.out.1
            have hv := HD.out.2
            subst hu hv
            exact H6.out.step HS7.out.1 HS7.out.2.1 HS7.out.2.2 Hrn.out H8.out.1 H8.out.2.1 H8.out.2.2 Hb.out.1 hxs Hx3.out hown9 hgr9 hat9
          clear hown9 hgr9 hat9 hxs hnil9 hnc9
          have HD9 : Hid (un + rn = (fileB (ds ++ [lx])).length ∧ vn + 1 = (ds ++ [lx]).length) := ⟨by rw [fileB_snoc, List.length_append, Hrn.out, HD.out.1], by rw [List.length_append, HD.out.2]; rfl⟩
          have hv9 : vn + 1 ≤ 4194304 := by
            have h1 := fileB_count (ds ++ [lx])
            rw [← HD9.out.1, ← HD9.out.2] at h1
            omega
          go_roundw
          case rel => exact ⟨k + 1, a8, un + rn, c8, a9, vn + 1, c9, ds ++ [lx], grow Q w6 w7, S7, by omega, by go_num, rfl, rfl, HS, HD9, hfit, hv9⟩
          case measure => simp [intOf]; omega
        · have i3 : (4194304 : Int) < (un : Int) + (rn : Int) := by omega
          have hx7 := jl_full Q w6 j _ S fNm ds H6.out.jl (by decide) (by decide) H6.out.gd (by rw [← HD.out.1]; exact hun) a6 m c6 lx Hb6.out (by omega) hfree.out (by rw [← Hrn.out, ← HD.out.1]; omega)
          go_wp2_with fail
          refine hx7.mono ?_
          clear hx7
          rintro e w7 ⟨rfl, hL7, hT7⟩
          have H7 : Hid (WInv w w7 j (w1.heap.size + 1) (.slice ua un uc) (.slice va vn vc) ds (grow Q w6 w7) S) := by
            obtain ⟨t1, t2, t3, t4, t5, t6⟩ := H6.out.turned hT7
            exact { jl := hL7, gd := H6.out.gd, dn := t1, wt := t2, dq := t3, wq := t4, vv := H6.out.vv, q := t5, bel := t6 }
          clear hL7 hT7
          go_wp2_with fail
          go_roundw
          case rel => exact ⟨k + 1, ua, un, uc, va, vn, vc, ds, grow Q w6 w7, S, by omega, by go_num, rfl, rfl, H7, HD, hun, hvn⟩
          case measure => simp [intOf]; omega
    · obtain rfl : k = n := by omega
      have hx5 : Calls Try.prog 13 #[.pointer (some ⟨w1.heap.size + 1, 0, none⟩), .string fNm] wr fun e w' => ∃ a c, e = .returned (.tuple #[.slice a un c, .int .i64 (if vn = 0 then 4 else 0)]) ∧ Bytes w' a un (fileB ds) ∧ Below wr.heap.size wr w' := by
        obtain ⟨F, G, a1, a2, _⟩ := H.out.jl
        have hg := H.out.gd
        have he : S.err fNm.data.toList = if vn = 0 then 4 else 0 := by
          unfold DG.err
          rw [hg.bs, HD.out.2]
          by_cases e : ds = []
          · subst e; simp
          · simp [e]
        have hr := read_any _ S G wr fNm a2 (by decide) (by rw [hg.get, ← HD.out.1]; omega)
        rw [he, hg.get, ← HD.out.1] at hr
        refine hr.mono ?_
        rintro e w' ⟨a, c, rfl, ho, hB, _⟩
        exact ⟨a, c, rfl, (ownsRow_toBytes ho).1, hB⟩
      go_wp2_with fail
      refine hx5.mono ?_
      clear hx5
      rintro e w5 ⟨a5, c5, rfl, hb5, hB5⟩
      have H5 : Hid (WInv w w5 j (w1.heap.size + 1) (.slice ua un uc) (.slice va vn vc) ds Q S) := H.out.below hB5
      have hx6 : Calls Try.prog 15 #[.pointer (some ⟨j, 0, none⟩), .slice va vn vc] w5 fun e w' => e = .returned (.bool true) ∧ Below w5.heap.size w5 w' := by
        obtain ⟨F, G, a1, _⟩ := H5.out.jl
        have hsl := H5.out.dn.slices.1
        rw [HD.out.2] at hsl ⊢
        exact holds_any w5 j _ fNm ds _ false F a1 va vc hsl
      have hx7 : Calls Try.prog 14 #[.pointer (some ⟨j, 0, none⟩)] w5 fun e w' => e = .returned (.int .i64 un) ∧ w' = w5 := by
        obtain ⟨F, G, a1, _⟩ := H5.out.jl
        rw [HD.out.1]
        exact jsize_any w5 j _ fNm ds _ false F a1
      have hr1 := run_string w5 a5 un c5 _ hb5
      have hr2 : (convert 22 9 (.slice ua un uc)).run Try.prog w5 = .ok (.string ⟨(fileB ds).toArray⟩) w5 := by
        have hw := H5.out.wt
        rw [← HD.out.1] at hw
        exact run_string w5 ua un uc _ (ownsRow_toBytes hw).1
      obtain ⟨fs, hfs⟩ : ∃ fs : ByteArray, fs = ⟨(fileB ds).toArray⟩ := ⟨_, rfl⟩
      rw [← hfs] at hr1 hr2
      clear hfs hb5 hB5
      by_cases h0 : vn = 0
      · subst h0
        clear hx7 hr1 hr2
        go_wp2_with fail
        refine hx6.mono ?_
        clear hx6
        rintro e w6 ⟨rfl, hB6⟩
        go_wp2
        go_ret
        exact ⟨by simp, H5.out.bel.trans (hB6.mono H5.out.bel.size)⟩
      · have i2 : ¬ (vn : Int) = 0 := by omega
        rw [if_neg h0]
        go_wp2_with fail
        refine hx7.mono ?_
        clear hx7
        rintro e w6 ⟨rfl, rfl⟩
        go_wp2_with fail
        refine hx6.mono ?_
        clear hx6
        rintro e w7 ⟨rfl, hB7⟩
        go_wp2
        go_ret
        exact ⟨by simp, H5.out.bel.trans (hB7.mono H5.out.bel.size)⟩

end Go.Proofs.Ytjbifbfhlmdlbaa

/- Proved here: for every list of payloads the law JournalWrites returns true, and its argument reads as before. No condition. -/
namespace Go.Proofs.Ytjbifbfhlmdlbaa
open Go.RowKit
open Go.ChangeShapes Go.WideShapes Go.ChangeAt

theorem own : ownKnob Try.prog.godebug = none := by kernel_rfl
theorem laidOut : laidOutB Try.prog = true := by kernel_rfl

theorem weightsAll_mem {H : Type} {P : Program} {e : TypeId} : ∀ {l : List (DataW H)} {d : DataW H}, d ∈ l → ∀ q ∈ d.weights P e, q ∈ DataW.weightsAll P e l
  | d0 :: r, d, hd, q, hq => by
    simp only [DataW.weightsAll, List.mem_append]
    rcases List.mem_cons.1 hd with rfl | h
    · exact .inl hq
    · exact .inr (weightsAll_mem h q hq)

/-- no element of such a slice is greater than what a machine reaches -/
theorem lists_bound {H : Type} {enc : TypeId × Value → H} {W : World} {a : Option Addr} {n cap : Nat} {d : DataW H} {ps : List MemPlace} {E : Nat → El}
    (h : DataW.Trod enc Try.prog W 0 (fun _ => true) true 26 (.slice a n cap) d ps) (hl : Lists W a n E) (hw : ∀ q ∈ d.weights Try.prog 26, q ≤ reachBytes) : ∀ k, k < n → (E k).m ≤ 140737488351232 := by
  intro k hk
  obtain ⟨b, off, rfl, hc⟩ := hl.1 (by omega)
  obtain ⟨fuel, hf⟩ := h
  rcases Deep.open_slice Try.underlying26 hf with ⟨hcs, _⟩ | ⟨x, len, c, m, j, D, Pl, hcs, _, hl', hmx, hm, hx, hel⟩
  · simp [Value.cells] at hcs
  · simp [Value.cells] at hcs
    obtain ⟨rfl, rfl, rfl⟩ := hcs
    simp only [if_true] at hm
    obtain ⟨cs', hc1, hc2⟩ := hel k (by omega)
    rw [show Try.prog.cellsOf 22 = 1 from by kernel_rfl] at hc1
    obtain ⟨_, hlen2, hget⟩ := World.cells?_some hc1
    match cs', hlen2 with
    | [c0], _ =>
      have g0 := hget 0 (by omega)
      rw [Deep.add_add] at g0
      have g1 : W.cell? ⟨b, off + k, none⟩ = some c0 := by
        have : W.cell? (Addr.add ⟨b, off, none⟩ k) = some c0 := by simpa using g0
        rw [Addr.add_lit] at this
        exact this
      rw [hc k hk] at g1
      have g2 : c0 = .slice (E k).x (E k).m (E k).c := by simpa using g1.symm
      subst g2
      have hd : d = .slice ((List.range n).map D) ((List.range (m - n)).map fun j => D (n + j)) := congrArg Prod.fst hx
      rcases open_ints Try.underlying22 Try.underlying5 (by kernel_rfl) hc2 with ⟨hcs, _⟩ | ⟨y, n2, cap2, zs, hcs, _, hl2, hm2, hz, hx2, _, _⟩
      · simp only [List.cons.injEq, and_true, Value.slice.injEq] at hcs
        rw [hcs.2.1]; omega
      · simp only [List.cons.injEq, and_true, Value.slice.injEq] at hcs
        obtain ⟨_, e2, _⟩ := hcs
        simp only [if_true] at hz
        have hDk : D k = .slice (lits .u8 (zs.take n2)) (lits .u8 (zs.drop n2)) := congrArg Prod.fst hx2
        have hmem : (lits (H := H) .u8 (zs.take n2)).length + (lits (H := H) .u8 (zs.drop n2)).length ≤ reachBytes := by
          have := hw (((lits (H := H) .u8 (zs.take n2)).length + (lits (H := H) .u8 (zs.drop n2)).length) * Try.prog.bytesOf 5) (by
            rw [hd]
            simp only [DataW.weights, Try.underlying26]
            refine List.mem_cons_of_mem _ (List.mem_append.2 (.inl (weightsAll_mem (List.mem_map.2 ⟨k, List.mem_range.2 hk, rfl⟩) _ ?_)))
            rw [hDk]
            simp only [DataW.weights, Try.underlying22]
            exact List.mem_cons_self)
          rw [show Try.prog.bytesOf 5 = 1 from by kernel_rfl, Nat.mul_one] at this
          exact this
        have hlen : (lits (H := H) .u8 (zs.take n2)).length = n2 := by simp [lits]; omega
        have hr : reachBytes = 140737488351232 := rfl
        rw [hlen] at hmem
        omega

set_option maxRecDepth 100000 in
theorem journalWrites_lifted (os : Os) (started : os.Started) (H : Type) (enc : TypeId × Value → H) :
    ReturnsInHanded {} Try.checked os 4 .any (Rows.journalWritesSpec.pre6 enc Try.prog Try.f4 Rows.journalWritesRow.domain false) (Rows.journalWritesSpec.post enc Try.prog Try.f4 false true false false) := by
  refine returnsInHanded_of_change_sized (C := Try.checked) own started (by kernel_rfl) Try.func4
    (ChangeSpec.witness6 (enc := enc) (C := Try.checked) false ⟨#[], #[.slice none 0 0], []⟩ 8 (by kernel_rfl) (by kernel_rfl) (by kernel_rfl) (by kernel_rfl)) ?_
  intro W base args ds gs before hval0 hW _ hsz0 _
  have hsz : (DataW.weightsEach Try.prog (Try.f4.params.toList ++ Rows.journalWritesSpec.plain.varTypes Try.prog) (ds ++ gs)).all (· ≤ reachBytes) = true := hsz0
  have hval : ∀ (j : Nat) t v, Try.f4.params[j]? = some t → args[j]? = some v → Value.okWide Try.prog W .any base t v := hval0
  have hW' := hW
  obtain ⟨p, q, hA0, hV, rfl, _, _⟩ := hW
  have hA : DataW.TrodAll enc Try.prog W 0 (fun _ => true) true Try.f4.params.toList args.toList ds p := hA0
  rw [Try.params4] at hA hval hsz
  obtain ⟨v0, vs0, d0, ds0, p0, q0, hargs, rfl, rfl, h0, r0⟩ := trodAll_cons hA
  obtain ⟨rfl, rfl, rfl⟩ := trodAll_nil r0
  obtain rfl : args = #[v0] := by cases args; simp_all
  obtain ⟨rfl, rfl⟩ := trodVars_none hV
  have k0 := h0
  have lt0 : ∀ x ∈ p0, x.block < W.heap.size := by obtain ⟨m, hm⟩ := k0; exact DataW.trod_lt m _ _ _ hm
  obtain ⟨a0, n0, cap0, E0, rfl, hl0, hn0⟩ := lists_arg (hval 0 26 v0 rfl rfl) h0
  have hbig := lists_bound h0 hl0 (fun q hq => by
    have := List.all_eq_true.1 hsz q (DataW.weights_mem_each (j := 0) rfl rfl q hq)
    simpa using this)
  clear hA0 hval0 hsz0 hsz
  refine (journalWrites_walk a0 n0 cap0 E0 W hl0 hn0 hbig).mono fun e W' ⟨he, bel⟩ => ?_
  subst he
  exact ⟨_, rfl, _, _, _, [], _, [], hW', trodAll_mk1 (shut_bool Try.underlying4 _), trodAll_cons_mk (Below.trod laidOut (by kernel_rfl) (of_decide_eq_true (by kernel_rfl)) k0 bel lt0) trodAll_mk0, rfl, bel.frame _, fun h => by cases h⟩

theorem journalWrites_holds : Rows.JournalWritesSaid :=
  OpenClaim.holds_of_wide 4 Try.f4 rfl rfl rfl rfl rfl rfl rfl ⟨rfl, rfl, rfl, rfl, rfl⟩ rfl rfl rfl rfl rfl (by kernel_rfl) Try.func4 (by kernel_rfl)
    (of_decide_eq_true (by kernel_rfl)) (by unfold Func.isWrapper; first | (rw [if_pos (by decide +kernel)]; kernel_rfl) | (rw [if_neg (by decide +kernel)]; exact ⟨rfl, rfl⟩))
    (fun os started H enc _ => journalWrites_lifted os started H enc)
#print axioms journalWrites_holds

end Go.Proofs.Ytjbifbfhlmdlbaa
