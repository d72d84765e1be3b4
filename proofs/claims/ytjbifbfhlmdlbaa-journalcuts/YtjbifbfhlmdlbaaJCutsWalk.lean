/- The walk of the law JournalCuts. -/
import Derived.Test.YtjbifbfhlmdlbaaJActs
import Derived.Test.YtjbifbfhlmdlbaaJKept
namespace Go.Proofs.Ytjbifbfhlmdlbaa
open Go.RowKit

/-- what holds ahead of each act -/
structure CInv (w wr : World) (j d : Nat) (v : Value) (ds : List (List UInt8)) (S : DG) (F G : Nat → Prop) (dead : Bool) : Prop where
  ja : JAt wr j d fNm ds (fileB ds).length dead F
  dk : IsDisk wr d S G
  fg : ∀ k, F k → ¬ G k
  cg : CG S fNm.data.toList ds dead
  dn : Done w.heap.size wr v ds
  qf : ∀ k, F k → w.heap.size ≤ k
  qg : ∀ k, G k → w.heap.size ≤ k
  vf : ∀ g, v.ownBlock = some g → ¬ F g ∧ ¬ G g
  bel : Below w.heap.size w wr

theorem CInv.vlt {w wr : World} {j d : Nat} {v : Value} {ds : List (List UInt8)} {S : DG} {F G : Nat → Prop} {dead : Bool} (h : CInv w wr j d v ds S F G dead) (g : Nat) (hg : v.ownBlock = some g) : g < wr.heap.size := by
  obtain ⟨xs, h1, _⟩ := h.dn
  exact (h1.lt g hg).2

theorem CInv.below {w wr w' : World} {j d : Nat} {v : Value} {ds : List (List UInt8)} {S : DG} {F G : Nat → Prop} {dead : Bool} (h : CInv w wr j d v ds S F G dead) (hB : Below wr.heap.size wr w') : CInv w w' j d v ds S F G dead :=
  { h with ja := h.ja.below hB, dk := h.dk.below hB, dn := h.dn.below hB, bel := h.bel.trans (hB.mono h.bel.size) }

/-- the disk's own fields are written -/
theorem CInv.disk {w wr w' : World} {j d : Nat} {v : Value} {ds : List (List UInt8)} {S S' : DG} {F G : Nat → Prop} {dead : Bool} (h : CInv w wr j d v ds S F G dead) (hT : Turn G wr w') (hd : IsDisk w' d S' G) (hf : S'.f = S.f) (hn : S'.n = S.n) : CInv w w' j d v ds S' F G dead :=
  { h with ja := h.ja.turn hT h.fg, dk := hd, cg := h.cg.same hf hn, dn := h.dn.turn hT h.qg (fun g hg => (h.vf g hg).2), bel := h.bel.trans (hT.below h.bel.size h.qg) }

/-- another Journal is opened -/
theorem CInv.reopen {w wr w' : World} {j j' d : Nat} {v : Value} {ds : List (List UInt8)} {S S' : DG} {F G F' G' : Nat → Prop} {dead : Bool} (h : CInv w wr j d v ds S F G dead) (hT : Turn G wr w') (hJ : JAt w' j' d fNm ds (fileB ds).length false F') (hd : IsDisk w' d S' G') (hF : ∀ k, F' k → wr.heap.size ≤ k) (hFG : ∀ k, F' k → ¬ G' k) (hG : ∀ k, G' k → G k ∨ wr.heap.size ≤ k) (hc : CG S' fNm.data.toList ds false) :
    CInv w w' j' d v ds S' F' G' false where
  ja := hJ
  dk := hd
  fg := hFG
  cg := hc
  dn := h.dn.turn hT h.qg (fun g hg => (h.vf g hg).2)
  qf := fun k hk => Nat.le_trans h.bel.size (hF k hk)
  qg := fun k hk => (hG k hk).elim (h.qg k) (fun e => Nat.le_trans h.bel.size e)
  vf := fun g hg => ⟨fun e => by have := h.vlt g hg; have := hF g e; omega, fun e => (hG g e).elim (h.vf g hg).2 (fun e' => by have := h.vlt g hg; omega)⟩
  bel := h.bel.trans (hT.below h.bel.size h.qg)

/-- behind an Append, told OK or ErrCut: w5 is the world with the payload's copy -/
theorem CInv.appended {w wr w5 w6 : World} {j d : Nat} {v : Value} {ds : List (List UInt8)} {S : DG} {F G F' G' : Nat → Prop} {dead : Bool} (h : CInv w wr j d v ds S F G dead) (hB5 : Below wr.heap.size wr w5) (hT : Turn (fun k => F k ∨ G k) w5 w6) (hF : ∀ k, F' k → F k ∨ w5.heap.size ≤ k) (hG : ∀ k, G' k → G k ∨ w5.heap.size ≤ k) :
    (∀ g, v.ownBlock = some g → ¬ F' g ∧ ¬ G' g) ∧ Done w.heap.size w6 v ds ∧ Below w.heap.size w w6 ∧ (∀ k, F' k → w.heap.size ≤ k) ∧ (∀ k, G' k → w.heap.size ≤ k) := by
  have h5 := h.below hB5
  have hq : ∀ k, (F k ∨ G k) → w.heap.size ≤ k := fun k hk => hk.elim (h.qf k) (h.qg k)
  refine ⟨fun g hg => ⟨fun e => (hF g e).elim (h.vf g hg).1 (fun e' => by have := h5.vlt g hg; omega), fun e => (hG g e).elim (h.vf g hg).2 (fun e' => by have := h5.vlt g hg; omega)⟩, h5.dn.turn hT hq (fun g hg e => e.elim (h.vf g hg).1 (h.vf g hg).2), h5.bel.trans (hT.below h5.bel.size hq), fun k hk => (hF k hk).elim (h.qf k) (fun e => Nat.le_trans h5.bel.size e), fun k hk => (hG k hk).elim (h.qg k) (fun e => Nat.le_trans h5.bel.size e)⟩

/-- the law's own list grows -/
theorem CInv.pushed {w w6 w7 : World} {j d : Nat} {v v7 : Value} {ds : List (List UInt8)} {S : DG} {F G : Nat → Prop} {X : Obj} {x : Option Addr} {m c : Nat} {l : List UInt8} {xs : List Value}
    (ja : JAt w6 j d fNm (ds ++ [l]) (fileB (ds ++ [l])).length false F) (dk : IsDisk w6 d S G) (fg : ∀ k, F k → ¬ G k) (cg : CG S fNm.data.toList (ds ++ [l]) false) (qf : ∀ k, F k → w.heap.size ≤ k) (qg : ∀ k, G k → w.heap.size ≤ k) (vf : ∀ g, v.ownBlock = some g → ¬ F g ∧ ¬ G g) (bel : Below w.heap.size w w6)
    (hv : ∀ g, v.ownBlock = some g → w.heap.size ≤ g) (hb : Bytes w x m l) (hxs : (w6.alloc X).ownsRow 0 22 1 v ds.length xs) (h3 : ∀ i, i < ds.length → ∃ x m c, xs[i]? = some (.slice x m c) ∧ Bytes (w6.alloc X) x m (rc ds i) ∧ (0 < m → ∀ y, x = some y → y.block < w.heap.size))
    (hown : w7.ownsRow 0 22 1 v7 (ds.length + 1) (xs ++ [.slice x m c])) (hg : (w6.alloc X).grownBy w7 v.ownBlock) (hat : v7.ownBlock = v.ownBlock ∨ v7.ownBlock = some (w6.alloc X).heap.size) :
    CInv w w7 j d v7 (ds ++ [l]) S F G false := by
  have hsw := bel.size
  have hBa : Below w6.heap.size w6 (w6.alloc X) := (Below.refl _ _).alloc (Nat.le_refl _) _
  have hT67 : Turn (fun k => v.ownBlock = some k) w6 w7 := (Turn.of_below _ hBa).trans (Turn.of_grownBy (Fp := fun k => v.ownBlock = some k) hg (fun k hk => .inl hk)) (fun _ _ h => h)
  have hlf := ja.lt
  have hlg := dk.lt
  have hnew : (w6.alloc X).heap.size = w6.heap.size + 1 := by simp
  refine { ja := ja.turn hT67 (fun k hk e => (vf k e).1 hk), dk := dk.turn hT67 (fun k hk e => (vf k e).2 hk), fg := fg, cg := cg, dn := ?_, qf := qf, qg := qg, vf := fun g hg' => ?_, bel := (bel.alloc hsw X).grown hg (by simp; omega) hv }
  · refine Done.push (B := w.heap.size) hxs hv h3 ?_ (fun h0 y hy => ?_) (by simp; omega) hown hg hat
    · exact (Turn.of_below (fun _ => False) (bel.alloc hsw X)).bytes hb (fun _ _ _ => id)
    · obtain ⟨b, off, e, hc⟩ := hb.2 h0
      rw [hy] at e; cases e
      exact World.block_lt_of_cell? w _ (hc 0 h0)
  · rcases hat with e | e
    · exact vf g (by rw [← e]; exact hg')
    · rw [e, hnew] at hg'
      have hg2 : w6.heap.size + 1 = g := by simpa using hg'
      exact ⟨fun h => by have := hlf g h; omega, fun h => by have := hlg g h; omega⟩

set_option maxRecDepth 100000 in
set_option maxHeartbeats 4000000 in
theorem journalCuts_walk (a : Option Addr) (n c : Nat) (A : Nat → GAct) (w : World) (hl : Acts w a n A) (hn : n ≤ maxLen) : Calls Try.prog 7 #[.slice a n c] w fun e w' => e = .returned (.bool true) ∧ Below w.heap.size w w' := by
  obtain ⟨i0, hi, hz0, hz1, hz2⟩ := info_parts Try.info22
  have hu := Try.underlying26
  go_enter Try.func7, Try.ntmps7
  go_wp2_with fail
  refine (jwakes_any _).mono ?_
  rintro e w1 ⟨rfl, B1⟩
  go_wp2_with fail
  refine (new_any w1).mono ?_
  rintro e w2 ⟨rfl, hd2, B2⟩
  have hx := jl_open w2 _ _ _ fNm [] hd2 (by decide) (Good.new _) (by simp [fileB])
  clear hd2
  go_wp2_with fail
  refine hx.mono ?_
  clear hx
  rintro e w3 ⟨j, rfl, ⟨F3, G3, hJ3, hd3, hFG3, hF3, hG3, hQ3⟩, hT3⟩
  have B3 : Below w.heap.size w w3 := B1.trans ((B2.trans (hT3.below B2.size (by rintro k (rfl | rfl) <;> omega))).mono B1.size)
  have Q3 : ∀ k, grow (fun k => k = w1.heap.size ∨ k = w1.heap.size + 1) w2 w3 k → w.heap.size ≤ k := fun k hk => hk.elim (fun h => by have := B1.size; omega) (fun h => by have := B1.size; have := B2.size; omega)
  have hI3 : CInv w w3 j (w1.heap.size + 1) (.slice none 0 0) [] ⟨fun _ => none, 0, 0, false, 0⟩ F3 G3 false :=
    { ja := hJ3, dk := hd3, fg := hFG3, cg := CG.of_whole false rfl (by simp) (by simp) (by simp) (by simp), dn := Done.nil _ _, qf := fun k hk => Q3 k (hF3 k hk), qg := fun k hk => Q3 k (hG3 k hk), vf := by simp [Value.ownBlock], bel := B3 }
  have HI3 : Hid (CInv w w3 j (w1.heap.size + 1) (.slice none 0 0) [] ⟨fun _ => none, 0, 0, false, 0⟩ F3 G3 false) := hI3
  clear hI3 hJ3 hd3 hFG3 hF3 hG3 hQ3 hT3 B2 B1 B3 Q3
  go_wp2_with fail
  refine (jwakes_any _).mono ?_
  rintro e w4 ⟨rfl, B4⟩
  have HI : Hid (CInv w w4 j (w1.heap.size + 1) (.slice none 0 0) [] ⟨fun _ => none, 0, 0, false, 0⟩ F3 G3 false) := HI3.out.below B4
  clear HI3 B4
  have hn' : n ≤ 9223372036854775807 := by unfold maxLen at hn; omega
  go_wp2_with fail
  go_loopw [4, 6, 7, 8, 36] (fun vj v vd vs i wr => ∃ (k j : Nat) (va : Option Addr) (vn vc : Nat) (dead : Bool) (sz : Nat) (ds : List (List UInt8)) (S : DG) (F G : Nat → Prop), k ≤ n ∧ k ≤ 60 ∧ i = .int .i64 k ∧ vj = .pointer (some ⟨j, 0, none⟩) ∧ v = .slice va vn vc ∧ vd = .bool dead ∧ vs = .int .i64 sz ∧
      Hid (CInv w wr j (w1.heap.size + 1) (.slice va vn vc) ds S F G dead) ∧ Hid (vn = ds.length ∧ vn ≤ k ∧ (fileB ds).length ≤ sz + 18 * k ∧ S.wr ≤ k * 300000) ∧ sz ≤ 400000)
    (fun _ _ _ _ i _ => n - (intOf i).toNat)
  case atStart => exact ⟨0, j, none, 0, 0, false, 0, [], _, F3, G3, Nat.zero_le _, by omega, rfl, rfl, rfl, rfl, rfl, HI, ⟨rfl, by omega, by simp [fileB], by simp⟩, by omega⟩
  case round =>
    clear HI
    obtain ⟨k, j, va, vn, vc, dead, sz, ds, S, F, G, hk, hk60, rfl, rfl, rfl, rfl, rfl, H, HD, hsz⟩ := hrel
    have HEnd : Hid (∀ w', Below wr.heap.size wr w' → Calls Try.prog 15 #[.pointer (some ⟨j, 0, none⟩), .slice va vn vc] w' fun e w'' => e = .returned (.bool true) ∧ Below w.heap.size w w'') := fun w' hB => by
      have h' := H.out.below hB
      obtain ⟨hsl, hvn⟩ := h'.dn.slices
      have := holds_any w' j _ fNm ds _ dead F h'.ja va vc (by rw [← hvn]; exact hsl)
      rw [← hvn] at this
      exact this.mono fun e w'' ⟨he, hb⟩ => ⟨he, h'.bel.trans (hb.mono h'.bel.size)⟩
    by_cases hlt : k < n
    · obtain ⟨b, off, rfl, hc⟩ := hl.1 (by omega)
      obtain ⟨hbE, hmc, hnilE, hmx, haf⟩ := hl.2 k hlt
      obtain ⟨hc0, hc1, hc2, hc3⟩ := hc k hlt
      obtain ⟨x, m, cx, lx, cut, after, op, hE⟩ : ∃ x m cx lx cut after op, A k = ⟨⟨x, m, cx, lx⟩, cut, after, op⟩ := ⟨_, _, _, _, _, _, _, rfl⟩
      rw [hE] at hc0 hc1 hc2 hc3 hbE hmc hnilE hmx haf
      simp only at hc0 hc1 hc2 hc3 hbE hmc hnilE hmx haf
      have old : ∀ {y : Addr} {u : Value}, w.cell? y = some u → wr.cell? y = some u := fun hy => (H.out.bel.cell (World.block_lt_of_cell? w _ hy)).trans hy
      have e0 := old hc0
      have e1 := old hc1
      have e2 := old hc2
      have e3 := old hc3
      have Hb : Hid (Bytes w x m lx ∧ m ≤ cx ∧ (x = none → m = 0 ∧ cx = 0)) := ⟨hbE, hmc, hnilE⟩
      have i1 : (k : Int) < (n : Int) := by omega
      have hm' : m ≤ 9223372036854775807 := by unfold maxLen at hmx; omega
      clear hc hE hbE hmc hnilE hmx old hc0 hc1 hc2 hc3
      obtain ⟨wa, hwa⟩ : ∃ wa, wa = wr.alloc (.cells #[.slice x m cx, .bool cut, .int .i64 after, .bool op] 51) := ⟨_, rfl⟩
      have hBa : Below wr.heap.size wr wa := by rw [hwa]; exact (Below.refl _ _).alloc (Nat.le_refl _) _
      have a0 : wa.cell? ⟨wr.heap.size, 0, none⟩ = some (.slice x m cx) := by rw [hwa]; simp
      have a1 : wa.cell? ⟨wr.heap.size, 1, none⟩ = some (.bool cut) := by rw [hwa]; simp
      have a2 : wa.cell? ⟨wr.heap.size, 2, none⟩ = some (.int .i64 after) := by rw [hwa]; simp
      have a3 : wa.cell? ⟨wr.heap.size, 3, none⟩ = some (.bool op) := by rw [hwa]; simp
      have HA : Hid (CInv w wa j (w1.heap.size + 1) (.slice va vn vc) ds S F G dead) := H.out.below hBa
      have Hbx : Hid (¬ F wr.heap.size ∧ ¬ G wr.heap.size) := ⟨fun h => by have := H.out.ja.lt _ h; omega, fun h => by have := H.out.dk.lt _ h; omega⟩
      have hxE := HEnd.out wa hBa
      by_cases h60 : k = 60
      · subst h60
        go_wp2_with fail
        rw [← hwa]
        go_wp2_with fail
        refine hxE.mono ?_
        rintro e w9 ⟨rfl, hB9⟩
        go_wp2
        go_ret
        exact ⟨rfl, hB9⟩
      · have i2 : ¬ (k : Int) = 60 := by omega
        by_cases hs : 65536 < sz
        · have i3 : (65536 : Int) < (sz : Int) := by omega
          go_wp2_with fail
          rw [← hwa]
          go_wp2_with fail
          refine hxE.mono ?_
          rintro e w9 ⟨rfl, hB9⟩
          go_wp2
          go_ret
          exact ⟨rfl, hB9⟩
        · have i3 : ¬ (65536 : Int) < (sz : Int) := by omega
          by_cases hm : 262144 < m
          · have i4 : (262144 : Int) < (m : Int) := by omega
            go_wp2_with fail
            rw [← hwa]
            go_wp2_with fail
            refine hxE.mono ?_
            rintro e w9 ⟨rfl, hB9⟩
            go_wp2
            go_ret
            exact ⟨rfl, hB9⟩
          · have i4 : ¬ (262144 : Int) < (m : Int) := by omega
            clear hxE HEnd
            cases hop : op with
            | true =>
              subst hop
              have hx1 := mend_any _ S G wa HA.out.dk
              go_wp2_with fail
              rw [← hwa]
              clear hwa
              go_wp2_with fail
              refine hx1.mono ?_
              clear hx1
              rintro e w5 ⟨rfl, hd5, hT5⟩
              have HC5 : Hid (CInv w w5 j (w1.heap.size + 1) (.slice va vn vc) ds { S with cut := false, left := 0 } F G dead) := HA.out.disk hT5 hd5 rfl rfl
              have hx2 := cg_open w5 _ { S with cut := false, left := 0 } G ds dead hd5 HC5.out.cg rfl (by have := HD.out; omega) (by have := HD.out; show S.wr < _; omega)
              obtain ⟨_, hcg6, hwr6, _⟩ := HC5.out.cg.opened rfl
              obtain ⟨S6, hS6⟩ : ∃ S6, S6 = (({ S with cut := false, left := 0 } : DG).opened fNm.data.toList).1 := ⟨_, rfl⟩
              rw [← hS6] at hx2 hcg6 hwr6
              have H6 : Hid (CG S6 fNm.data.toList ds false ∧ S6.wr ≤ S.wr + 1) := ⟨hcg6, hwr6⟩
              clear hS6 hcg6 hwr6 hd5 hT5
              rw [show (Value.string fNm) = .string ⟨#[102]⟩ from rfl] at hx2
              go_wp2_with fail
              refine hx2.mono ?_
              clear hx2
              rintro e w6 ⟨j6, F6, G6, rfl, hJ6, hd6, hF6, hFG6, hG6, hT6⟩
              have hC6 := HC5.out.reopen hT6 hJ6 hd6 hF6 hFG6 hG6 H6.out.1
              obtain ⟨hsl, hvn⟩ := hC6.dn.slices
              have hx3 := holds_any w6 j6 _ fNm ds _ false F6 hC6.ja va vc (by rw [← hvn]; exact hsl)
              rw [← hvn] at hx3
              have HC6 : Hid (CInv w w6 j6 (w1.heap.size + 1) (.slice va vn vc) ds S6 F6 G6 false) := hC6
              clear hC6 hJ6 hd6 hF6 hFG6 hG6 hT6 hsl hvn
              go_wp2_with fail
              refine hx3.mono ?_
              clear hx3
              rintro e w7 ⟨rfl, hB7⟩
              have HC7 : Hid (CInv w w7 j6 (w1.heap.size + 1) (.slice va vn vc) ds S6 F6 G6 false) := HC6.out.below hB7
              clear hB7
              go_wp2
              go_roundw
              case rel => exact ⟨k + 1, j6, va, vn, vc, false, sz, ds, S6, F6, G6, by omega, by omega, by go_num, rfl, rfl, rfl, rfl, HC7, ⟨HD.out.1, by have := HD.out; omega, by have := HD.out; omega, by have := HD.out; have := H6.out.2; omega⟩, by omega⟩
              case measure => simp [intOf]; omega
            | false =>
              subst hop
              cases hcut : cut with
              | false =>
                subst hcut
                have HC := HA
                have HW : Hid (S.wr ≤ S.wr) := Nat.le_refl _
                have c0 := a0
                subst hwa
                have hszc : (wr.alloc (.cells #[.slice x m cx, .bool false, .int .i64 after, .bool false] 51)).heap.size = (wr.heap.size + 1) := by simp
                have hvk : vn ≤ 60 := by have := HD.out; omega
                have hba : Bytes ((wr.alloc (.cells #[.slice x m cx, .bool false, .int .i64 after, .bool false] 51)).alloc (.cells #[] 5)) x m lx := (Turn.of_below (fun _ => False) (HC.out.bel.alloc HC.out.bel.size _)).bytes Hb.out.1 (fun _ _ _ => id)
                have q0 := (World.grownBy_alloc (wr.alloc (.cells #[.slice x m cx, .bool false, .int .i64 after, .bool false] 51)) (.cells #[] 5) none).cell c0 (by simp)
                go_wp2_with (at_builtin; refine wpList_append_row _ rfl _ _ rfl (.slice (some ⟨(wr.heap.size + 1), 0, none⟩) 0 0) 0 [] rfl (empty_row_at (wr.alloc (.cells #[.slice x m cx, .bool false, .int .i64 after, .bool false] 51)) (wr.heap.size + 1) (by simp)) x m cx lx rfl hba Hb.out.2.2 (by omega) ?_; intro v5 w5 hown5 hgr5 hat5; obtain ⟨a5, c5, rfl, hnc5, hnil5⟩ := ownsRow_shape' hown5)
                rw [Nat.zero_add] at hown5 hnc5 hnil5
                rw [List.nil_append] at hown5
                have hB5 : Below (wr.alloc (.cells #[.slice x m cx, .bool false, .int .i64 after, .bool false] 51)).heap.size (wr.alloc (.cells #[.slice x m cx, .bool false, .int .i64 after, .bool false] 51)) w5 := ((Below.refl _ (wr.alloc (.cells #[.slice x m cx, .bool false, .int .i64 after, .bool false] 51))).alloc (Nat.le_refl _) _).grown hgr5 (by simp) (fun k hk => by cases hk; simp)
                have hb5 := (ownsRow_toBytes hown5).1
                have hlx : lx.length = m := hb5.1
                have d0 : w5.cell? ⟨wr.heap.size, 0, none⟩ = some (.slice x m cx) := (hB5.cell (p := ⟨wr.heap.size, 0, none⟩) (World.block_lt_of_cell? (wr.alloc (.cells #[.slice x m cx, .bool false, .int .i64 after, .bool false] 51)) _ c0)).trans c0
                have HC5 : Hid (CInv w w5 j (w1.heap.size + 1) (.slice va vn vc) ds S F G dead) := HC.out.below hB5
                have HB5 : Hid (Below (wr.alloc (.cells #[.slice x m cx, .bool false, .int .i64 after, .bool false] 51)).heap.size (wr.alloc (.cells #[.slice x m cx, .bool false, .int .i64 after, .bool false] 51)) w5) := hB5
                have hnF : 0 < m → ∀ y, a5 = some y → ¬ F y.block ∧ ¬ G y.block := fun _ y hy => by
                  have hge : (wr.heap.size + 1) ≤ y.block := by
                    rcases hat5 with e | e
                    · rw [hy] at e
                      simp [Value.ownBlock] at e
                      omega
                    · rw [hy] at e
                      simp [Value.ownBlock] at e
                      omega
                  exact ⟨fun hf => by have := HC.out.ja.lt _ hf; rw [hszc] at this; omega, fun hf => by have := HC.out.dk.lt _ hf; rw [hszc] at this; omega⟩
                have hrl := (recB_pos lx).2
                have hfits : (fileB ds).length ≤ 1000000 ∧ (recB lx).length + (fileB ds).length ≤ 1000000 := by have := HD.out; omega
                cases hdead : dead with
                | true =>
                  subst hdead
                  have hx6 := jappend_cut w5 j (w1.heap.size + 1) fNm ds _ F HC5.out.ja (.slice a5 m c5)
                  clear hown5 hgr5 hat5 hB5 hb5 hba hnil5 hnc5 hlx hnF hrl q0
                  go_wp2_with fail
                  refine hx6.mono ?_
                  clear hx6
                  rintro e w6 ⟨rfl, rfl⟩
                  obtain ⟨hsl, hvn⟩ := HC5.out.dn.slices
                  have hx7 := kept_any w6 _ S G ds true HC5.out.dk HC5.out.cg hfits.1 va vn vc hsl hvn
                  clear hsl hvn
                  go_wp2_with fail
                  refine hx7.mono ?_
                  clear hx7
                  rintro e w7 ⟨rfl, hB7⟩
                  have HC7 : Hid (CInv w w7 j (w1.heap.size + 1) (.slice va vn vc) ds S F G true) := HC5.out.below hB7
                  clear hB7
                  go_wp2
                  go_roundw
                  case rel => exact ⟨k + 1, j, va, vn, vc, true, sz + m, ds, S, F, G, by omega, by omega, by go_num, rfl, rfl, rfl, by go_num, HC7, ⟨HD.out.1, by have := HD.out; omega, by have := HD.out; omega, by have := HD.out; have := HW.out; omega⟩, by omega⟩
                  case measure => simp [intOf]; omega
                | false =>
                  subst hdead
                  have hcg := HC5.out.cg
                  have hwh := hcg.whole
                  have hn1 := hcg.n
                  have hx6 := jappend_any w5 j (w1.heap.size + 1) fNm ds _ F S G HC5.out.ja HC5.out.dk HC5.out.fg a5 m c5 lx hb5 (by omega) hnF (by decide) (by rw [hwh]; omega) (by rw [hwh]; exact Nat.le_refl _) (by omega) (by have := HD.out; have := HW.out; omega)
                  obtain ⟨hcase, hwr⟩ := hcg.app fNm_name lx (by omega) (by omega)
                  obtain ⟨er, her⟩ : ∃ er, er = (S.app fNm.data.toList (recB lx)).2 := ⟨_, rfl⟩
                  obtain ⟨S6, hS6⟩ : ∃ S6, S6 = (S.app fNm.data.toList (recB lx)).1 := ⟨_, rfl⟩
                  unfold Appended at hx6
                  rw [← her, ← hS6] at hx6 hcase
                  rw [← hS6] at hwr
                  have Hwr : Hid (S6.wr ≤ S.wr + (m + 18)) := by show _ ≤ _; omega
                  clear hown5 hgr5 hat5 hB5 hb5 hba hnil5 hnc5 hnF q0 hcg hwh hn1 her hS6 hwr
                  rcases hcase with ⟨rfl, hcg6⟩ | ⟨rfl, hcg6⟩
                  · have Hcg6 : Hid (CG S6 fNm.data.toList (ds ++ [lx]) false) := hcg6
                    clear hcg6
                    go_wp2_with fail
                    refine hx6.mono ?_
                    clear hx6
                    rintro e w6 ⟨rfl, hT6, F6, G6, hd6, hF6, hG6, hFG6, hJc⟩
                    rcases hJc with ⟨_, hJ6⟩ | ⟨h0, _⟩
                    case inr => exact absurd rfl h0
                    have hJ6' : JAt w6 j (w1.heap.size + 1) fNm (ds ++ [lx]) (fileB (ds ++ [lx])).length false F6 := by rw [fileB_snoc, List.length_append]; exact hJ6
                    obtain ⟨hvf, hdn6, hbel6, hqf6, hqg6⟩ := HC5.out.appended (Below.refl _ _) hT6 hF6 hG6
                    have d6 : w6.cell? ⟨wr.heap.size, 0, none⟩ = some (.slice x m cx) := hT6.cell d0 (fun e => e.elim (fun hf => Hbx.out.1 hf) (fun hf => Hbx.out.2 hf))
                    have H6 : Hid (JAt w6 j (w1.heap.size + 1) fNm (ds ++ [lx]) (fileB (ds ++ [lx])).length false F6 ∧ IsDisk w6 (w1.heap.size + 1) S6 G6 ∧ (∀ k, F6 k → ¬ G6 k) ∧ (∀ k, F6 k → w.heap.size ≤ k) ∧ (∀ k, G6 k → w.heap.size ≤ k) ∧ (∀ g, (Value.slice va vn vc).ownBlock = some g → ¬ F6 g ∧ ¬ G6 g) ∧ Below w.heap.size w w6) := ⟨hJ6', hd6, hFG6, hqf6, hqg6, hvf, hbel6⟩
                    have Hv : Hid (∀ g, (Value.slice va vn vc).ownBlock = some g → w.heap.size ≤ g) := by
                      obtain ⟨_, _, h2, _⟩ := hdn6
                      exact h2
                    obtain ⟨xs, hxs, _, hx3⟩ := hdn6.below ((Below.refl _ w6).alloc (Nat.le_refl _) (.cells #[.slice x m cx] 22))
                    have Hx3 : Hid (∀ i, i < ds.length → ∃ x' m' c', xs[i]? = some (.slice x' m' c') ∧ Bytes (w6.alloc (.cells #[.slice x m cx] 22)) x' m' (rc ds i) ∧ (0 < m' → ∀ y, x' = some y → y.block < w.heap.size)) := hx3
                    rw [← HD.out.1] at hxs
                    clear hx3 hT6 hd6 hF6 hG6 hFG6 hJ6 hJ6' hvf hdn6 hbel6 hqf6 hqg6
                    go_wp2_with (at_builtin; refine wpList_push1 _ (by rfl) _ _ 26 22 i0 (.slice none 0 0) 24 rfl hu hi hz0 hz1 hz2 rfl (.slice va vn vc) vn xs rfl hxs w6.heap.size (.slice x m cx) rfl (by simp) rfl (by unfold maxLen; omega) (by omega) ?_; intro v7 w7 hown7 hgr7 hat7; obtain ⟨a7, c7, rfl, hnc7, hnil7⟩ := ownsRow_shape' hown7)
                    have HC7 : Hid (CInv w w7 j (w1.heap.size + 1) (.slice a7 (vn + 1) c7) (ds ++ [lx]) S6 F6 G6 false) := by
                      have hv : vn = ds.length := HD.out.1
                      subst hv
                      exact CInv.pushed H6.out.1 H6.out.2.1 H6.out.2.2.1 Hcg6.out H6.out.2.2.2.1 H6.out.2.2.2.2.1 H6.out.2.2.2.2.2.1 H6.out.2.2.2.2.2.2 Hv.out Hb.out.1 hxs Hx3.out hown7 hgr7 hat7
                    clear hown7 hgr7 hat7 hxs hnil7 hnc7 d6
                    obtain ⟨hsl, hvn⟩ := HC7.out.dn.slices
                    have hfl7 : (fileB (ds ++ [lx])).length ≤ 1000000 := by rw [fileB_snoc, List.length_append]; omega
                    have hx7 := kept_any w7 _ S6 G6 (ds ++ [lx]) false HC7.out.dk HC7.out.cg hfl7 a7 (vn + 1) c7 hsl hvn
                    have Hfl7 : Hid ((fileB (ds ++ [lx])).length = (fileB ds).length + (recB lx).length) := by show _ = _; rw [fileB_snoc, List.length_append]
                    clear hsl hvn hfl7
                    go_wp2_with fail
                    refine hx7.mono ?_
                    clear hx7
                    rintro e w8 ⟨rfl, hB8⟩
                    have HC8 : Hid (CInv w w8 j (w1.heap.size + 1) (.slice a7 (vn + 1) c7) (ds ++ [lx]) S6 F6 G6 false) := HC7.out.below hB8
                    clear hB8
                    go_wp2
                    go_roundw
                    case rel => exact ⟨k + 1, j, a7, vn + 1, c7, false, sz + m, ds ++ [lx], S6, F6, G6, by omega, by omega, by go_num, rfl, rfl, rfl, by go_num, HC8, ⟨by rw [List.length_append, HD.out.1]; rfl, by have := HD.out; omega, by have := HD.out; have := Hfl7.out; omega, by have := HD.out; have := HW.out; have := Hwr.out; omega⟩, by omega⟩
                    case measure => simp [intOf]; omega
                  · have Hcg6 : Hid (CG S6 fNm.data.toList ds true) := hcg6
                    clear hcg6
                    go_wp2_with fail
                    refine hx6.mono ?_
                    clear hx6
                    rintro e w6 ⟨rfl, hT6, F6, G6, hd6, hF6, hG6, hFG6, hJc⟩
                    rcases hJc with ⟨h0, _⟩ | ⟨_, hJ6⟩
                    case inl => exact absurd h0 (by decide)
                    have hJ6' : JAt w6 j (w1.heap.size + 1) fNm ds (fileB ds).length true F6 := hJ6
                    obtain ⟨hvf, hdn6, hbel6, hqf6, hqg6⟩ := HC5.out.appended (Below.refl _ _) hT6 hF6 hG6
                    have HC6 : Hid (CInv w w6 j (w1.heap.size + 1) (.slice va vn vc) ds S6 F6 G6 true) := ⟨hJ6', hd6, hFG6, Hcg6.out, hdn6, hqf6, hqg6, hvf, hbel6⟩
                    obtain ⟨hsl, hvn⟩ := hdn6.slices
                    have hx7 := kept_any w6 _ S6 G6 ds true hd6 Hcg6.out hfits.1 va vn vc hsl hvn
                    clear hsl hvn hT6 hd6 hF6 hG6 hFG6 hJ6 hJ6' hvf hdn6 hbel6 hqf6 hqg6
                    go_wp2_with fail
                    refine hx7.mono ?_
                    clear hx7
                    rintro e w7 ⟨rfl, hB7⟩
                    have HC7 : Hid (CInv w w7 j (w1.heap.size + 1) (.slice va vn vc) ds S6 F6 G6 true) := HC6.out.below hB7
                    clear hB7
                    go_wp2
                    go_roundw
                    case rel => exact ⟨k + 1, j, va, vn, vc, true, sz + m, ds, S6, F6, G6, by omega, by omega, by go_num, rfl, rfl, rfl, by go_num, HC7, ⟨HD.out.1, by have := HD.out; omega, by have := HD.out; omega, by have := HD.out; have := HW.out; have := Hwr.out; omega⟩, by omega⟩
                    case measure => simp [intOf]; omega
              | true =>
                subst hcut
                by_cases haf0 : 0 ≤ after
                · obtain ⟨na, rfl⟩ := Int.eq_ofNat_of_zero_le haf0
                  have hx1 := cut_any _ S G wa na HA.out.dk (by omega)
                  go_wp2_with fail
                  rw [← hwa]
                  clear hwa
                  refine hx1.mono ?_
                  clear hx1
                  rintro e wc ⟨rfl, hdc, hTc⟩
                  obtain ⟨Sc, hSc⟩ : ∃ Sc, Sc = { S with cut := true, left := na } := ⟨_, rfl⟩
                  rw [← hSc] at hdc
                  have HC : Hid (CInv w wc j (w1.heap.size + 1) (.slice va vn vc) ds Sc F G dead) := HA.out.disk hTc hdc (by rw [hSc]) (by rw [hSc])
                  have HW : Hid (Sc.wr ≤ S.wr) := by show _ ≤ _; rw [hSc]; exact Nat.le_refl _
                  have c0 := hTc.cell a0 Hbx.out.2
                  clear hSc hdc hTc HA a0 a1 a2 a3
                  have hszc : wc.heap.size = wc.heap.size := rfl
                  have hvk : vn ≤ 60 := by have := HD.out; omega
                  have hba : Bytes (wc.alloc (.cells #[] 5)) x m lx := (Turn.of_below (fun _ => False) (HC.out.bel.alloc HC.out.bel.size _)).bytes Hb.out.1 (fun _ _ _ => id)
                  have q0 := (World.grownBy_alloc wc (.cells #[] 5) none).cell c0 (by simp)
                  go_wp2_with (at_builtin; refine wpList_append_row _ rfl _ _ rfl (.slice (some ⟨wc.heap.size, 0, none⟩) 0 0) 0 [] rfl (empty_row_at wc wc.heap.size (by simp)) x m cx lx rfl hba Hb.out.2.2 (by omega) ?_; intro v5 w5 hown5 hgr5 hat5; obtain ⟨a5, c5, rfl, hnc5, hnil5⟩ := ownsRow_shape' hown5)
                  rw [Nat.zero_add] at hown5 hnc5 hnil5
                  rw [List.nil_append] at hown5
                  have hB5 : Below wc.heap.size wc w5 := ((Below.refl _ wc).alloc (Nat.le_refl _) _).grown hgr5 (by simp) (fun k hk => by cases hk; simp)
                  have hb5 := (ownsRow_toBytes hown5).1
                  have hlx : lx.length = m := hb5.1
                  have d0 : w5.cell? ⟨wr.heap.size, 0, none⟩ = some (.slice x m cx) := (hB5.cell (p := ⟨wr.heap.size, 0, none⟩) (World.block_lt_of_cell? wc _ c0)).trans c0
                  have HC5 : Hid (CInv w w5 j (w1.heap.size + 1) (.slice va vn vc) ds Sc F G dead) := HC.out.below hB5
                  have HB5 : Hid (Below wc.heap.size wc w5) := hB5
                  have hnF : 0 < m → ∀ y, a5 = some y → ¬ F y.block ∧ ¬ G y.block := fun _ y hy => by
                    have hge : wc.heap.size ≤ y.block := by
                      rcases hat5 with e | e
                      · rw [hy] at e
                        simp [Value.ownBlock] at e
                        omega
                      · rw [hy] at e
                        simp [Value.ownBlock] at e
                        omega
                    exact ⟨fun hf => by have := HC.out.ja.lt _ hf; omega, fun hf => by have := HC.out.dk.lt _ hf; omega⟩
                  have hrl := (recB_pos lx).2
                  have hfits : (fileB ds).length ≤ 1000000 ∧ (recB lx).length + (fileB ds).length ≤ 1000000 := by have := HD.out; omega
                  cases hdead : dead with
                  | true =>
                    subst hdead
                    have hx6 := jappend_cut w5 j (w1.heap.size + 1) fNm ds _ F HC5.out.ja (.slice a5 m c5)
                    clear hown5 hgr5 hat5 hB5 hb5 hba hnil5 hnc5 hlx hnF hrl q0
                    go_wp2_with fail
                    refine hx6.mono ?_
                    clear hx6
                    rintro e w6 ⟨rfl, rfl⟩
                    obtain ⟨hsl, hvn⟩ := HC5.out.dn.slices
                    have hx7 := kept_any w6 _ Sc G ds true HC5.out.dk HC5.out.cg hfits.1 va vn vc hsl hvn
                    clear hsl hvn
                    go_wp2_with fail
                    refine hx7.mono ?_
                    clear hx7
                    rintro e w7 ⟨rfl, hB7⟩
                    have HC7 : Hid (CInv w w7 j (w1.heap.size + 1) (.slice va vn vc) ds Sc F G true) := HC5.out.below hB7
                    clear hB7
                    go_wp2
                    go_roundw
                    case rel => exact ⟨k + 1, j, va, vn, vc, true, sz + m, ds, Sc, F, G, by omega, by omega, by go_num, rfl, rfl, rfl, by go_num, HC7, ⟨HD.out.1, by have := HD.out; omega, by have := HD.out; omega, by have := HD.out; have := HW.out; omega⟩, by omega⟩
                    case measure => simp [intOf]; omega
                  | false =>
                    subst hdead
                    have hcg := HC5.out.cg
                    have hwh := hcg.whole
                    have hn1 := hcg.n
                    have hx6 := jappend_any w5 j (w1.heap.size + 1) fNm ds _ F Sc G HC5.out.ja HC5.out.dk HC5.out.fg a5 m c5 lx hb5 (by omega) hnF (by decide) (by rw [hwh]; omega) (by rw [hwh]; exact Nat.le_refl _) (by omega) (by have := HD.out; have := HW.out; omega)
                    obtain ⟨hcase, hwr⟩ := hcg.app fNm_name lx (by omega) (by omega)
                    obtain ⟨er, her⟩ : ∃ er, er = (Sc.app fNm.data.toList (recB lx)).2 := ⟨_, rfl⟩
                    obtain ⟨S6, hS6⟩ : ∃ S6, S6 = (Sc.app fNm.data.toList (recB lx)).1 := ⟨_, rfl⟩
                    unfold Appended at hx6
                    rw [← her, ← hS6] at hx6 hcase
                    rw [← hS6] at hwr
                    have Hwr : Hid (S6.wr ≤ Sc.wr + (m + 18)) := by show _ ≤ _; omega
                    clear hown5 hgr5 hat5 hB5 hb5 hba hnil5 hnc5 hnF q0 hcg hwh hn1 her hS6 hwr
                    rcases hcase with ⟨rfl, hcg6⟩ | ⟨rfl, hcg6⟩
                    · have Hcg6 : Hid (CG S6 fNm.data.toList (ds ++ [lx]) false) := hcg6
                      clear hcg6
                      go_wp2_with fail
                      refine hx6.mono ?_
                      clear hx6
                      rintro e w6 ⟨rfl, hT6, F6, G6, hd6, hF6, hG6, hFG6, hJc⟩
                      rcases hJc with ⟨_, hJ6⟩ | ⟨h0, _⟩
                      case inr => exact absurd rfl h0
                      have hJ6' : JAt w6 j (w1.heap.size + 1) fNm (ds ++ [lx]) (fileB (ds ++ [lx])).length false F6 := by rw [fileB_snoc, List.length_append]; exact hJ6
                      obtain ⟨hvf, hdn6, hbel6, hqf6, hqg6⟩ := HC5.out.appended (Below.refl _ _) hT6 hF6 hG6
                      have d6 : w6.cell? ⟨wr.heap.size, 0, none⟩ = some (.slice x m cx) := hT6.cell d0 (fun e => e.elim (fun hf => Hbx.out.1 hf) (fun hf => Hbx.out.2 hf))
                      have H6 : Hid (JAt w6 j (w1.heap.size + 1) fNm (ds ++ [lx]) (fileB (ds ++ [lx])).length false F6 ∧ IsDisk w6 (w1.heap.size + 1) S6 G6 ∧ (∀ k, F6 k → ¬ G6 k) ∧ (∀ k, F6 k → w.heap.size ≤ k) ∧ (∀ k, G6 k → w.heap.size ≤ k) ∧ (∀ g, (Value.slice va vn vc).ownBlock = some g → ¬ F6 g ∧ ¬ G6 g) ∧ Below w.heap.size w w6) := ⟨hJ6', hd6, hFG6, hqf6, hqg6, hvf, hbel6⟩
                      have Hv : Hid (∀ g, (Value.slice va vn vc).ownBlock = some g → w.heap.size ≤ g) := by
                        obtain ⟨_, _, h2, _⟩ := hdn6
                        exact h2
                      obtain ⟨xs, hxs, _, hx3⟩ := hdn6.below ((Below.refl _ w6).alloc (Nat.le_refl _) (.cells #[.slice x m cx] 22))
                      have Hx3 : Hid (∀ i, i < ds.length → ∃ x' m' c', xs[i]? = some (.slice x' m' c') ∧ Bytes (w6.alloc (.cells #[.slice x m cx] 22)) x' m' (rc ds i) ∧ (0 < m' → ∀ y, x' = some y → y.block < w.heap.size)) := hx3
                      rw [← HD.out.1] at hxs
                      clear hx3 hT6 hd6 hF6 hG6 hFG6 hJ6 hJ6' hvf hdn6 hbel6 hqf6 hqg6
                      go_wp2_with (at_builtin; refine wpList_push1 _ (by rfl) _ _ 26 22 i0 (.slice none 0 0) 24 rfl hu hi hz0 hz1 hz2 rfl (.slice va vn vc) vn xs rfl hxs w6.heap.size (.slice x m cx) rfl (by simp) rfl (by unfold maxLen; omega) (by omega) ?_; intro v7 w7 hown7 hgr7 hat7; obtain ⟨a7, c7, rfl, hnc7, hnil7⟩ := ownsRow_shape' hown7)
                      have HC7 : Hid (CInv w w7 j (w1.heap.size + 1) (.slice a7 (vn + 1) c7) (ds ++ [lx]) S6 F6 G6 false) := by
                        have hv : vn = ds.length := HD.out.1
                        subst hv
                        exact CInv.pushed H6.out.1 H6.out.2.1 H6.out.2.2.1 Hcg6.out H6.out.2.2.2.1 H6.out.2.2.2.2.1 H6.out.2.2.2.2.2.1 H6.out.2.2.2.2.2.2 Hv.out Hb.out.1 hxs Hx3.out hown7 hgr7 hat7
                      clear hown7 hgr7 hat7 hxs hnil7 hnc7 d6
                      obtain ⟨hsl, hvn⟩ := HC7.out.dn.slices
                      have hfl7 : (fileB (ds ++ [lx])).length ≤ 1000000 := by rw [fileB_snoc, List.length_append]; omega
                      have hx7 := kept_any w7 _ S6 G6 (ds ++ [lx]) false HC7.out.dk HC7.out.cg hfl7 a7 (vn + 1) c7 hsl hvn
                      have Hfl7 : Hid ((fileB (ds ++ [lx])).length = (fileB ds).length + (recB lx).length) := by show _ = _; rw [fileB_snoc, List.length_append]
                      clear hsl hvn hfl7
                      go_wp2_with fail
                      refine hx7.mono ?_
                      clear hx7
                      rintro e w8 ⟨rfl, hB8⟩
                      have HC8 : Hid (CInv w w8 j (w1.heap.size + 1) (.slice a7 (vn + 1) c7) (ds ++ [lx]) S6 F6 G6 false) := HC7.out.below hB8
                      clear hB8
                      go_wp2
                      go_roundw
                      case rel => exact ⟨k + 1, j, a7, vn + 1, c7, false, sz + m, ds ++ [lx], S6, F6, G6, by omega, by omega, by go_num, rfl, rfl, rfl, by go_num, HC8, ⟨by rw [List.length_append, HD.out.1]; rfl, by have := HD.out; omega, by have := HD.out; have := Hfl7.out; omega, by have := HD.out; have := HW.out; have := Hwr.out; omega⟩, by omega⟩
                      case measure => simp [intOf]; omega
                    · have Hcg6 : Hid (CG S6 fNm.data.toList ds true) := hcg6
                      clear hcg6
                      go_wp2_with fail
                      refine hx6.mono ?_
                      clear hx6
                      rintro e w6 ⟨rfl, hT6, F6, G6, hd6, hF6, hG6, hFG6, hJc⟩
                      rcases hJc with ⟨h0, _⟩ | ⟨_, hJ6⟩
                      case inl => exact absurd h0 (by decide)
                      have hJ6' : JAt w6 j (w1.heap.size + 1) fNm ds (fileB ds).length true F6 := hJ6
                      obtain ⟨hvf, hdn6, hbel6, hqf6, hqg6⟩ := HC5.out.appended (Below.refl _ _) hT6 hF6 hG6
                      have HC6 : Hid (CInv w w6 j (w1.heap.size + 1) (.slice va vn vc) ds S6 F6 G6 true) := ⟨hJ6', hd6, hFG6, Hcg6.out, hdn6, hqf6, hqg6, hvf, hbel6⟩
                      obtain ⟨hsl, hvn⟩ := hdn6.slices
                      have hx7 := kept_any w6 _ S6 G6 ds true hd6 Hcg6.out hfits.1 va vn vc hsl hvn
                      clear hsl hvn hT6 hd6 hF6 hG6 hFG6 hJ6 hJ6' hvf hdn6 hbel6 hqf6 hqg6
                      go_wp2_with fail
                      refine hx7.mono ?_
                      clear hx7
                      rintro e w7 ⟨rfl, hB7⟩
                      have HC7 : Hid (CInv w w7 j (w1.heap.size + 1) (.slice va vn vc) ds S6 F6 G6 true) := HC6.out.below hB7
                      clear hB7
                      go_wp2
                      go_roundw
                      case rel => exact ⟨k + 1, j, va, vn, vc, true, sz + m, ds, S6, F6, G6, by omega, by omega, by go_num, rfl, rfl, rfl, by go_num, HC7, ⟨HD.out.1, by have := HD.out; omega, by have := HD.out; omega, by have := HD.out; have := HW.out; have := Hwr.out; omega⟩, by omega⟩
                      case measure => simp [intOf]; omega
                · have haf1 : ¬ (0 : Int) ≤ after := haf0
                  have hx1 := cut_any _ S G wa 0 HA.out.dk (by omega)
                  go_wp2_with fail
                  rw [← hwa]
                  clear hwa
                  refine hx1.mono ?_
                  clear hx1
                  rintro e wc ⟨rfl, hdc, hTc⟩
                  obtain ⟨Sc, hSc⟩ : ∃ Sc, Sc = { S with cut := true, left := 0 } := ⟨_, rfl⟩
                  rw [← hSc] at hdc
                  have HC : Hid (CInv w wc j (w1.heap.size + 1) (.slice va vn vc) ds Sc F G dead) := HA.out.disk hTc hdc (by rw [hSc]) (by rw [hSc])
                  have HW : Hid (Sc.wr ≤ S.wr) := by show _ ≤ _; rw [hSc]; exact Nat.le_refl _
                  have c0 := hTc.cell a0 Hbx.out.2
                  clear hSc hdc hTc HA a0 a1 a2 a3
                  have hszc : wc.heap.size = wc.heap.size := rfl
                  have hvk : vn ≤ 60 := by have := HD.out; omega
                  have hba : Bytes (wc.alloc (.cells #[] 5)) x m lx := (Turn.of_below (fun _ => False) (HC.out.bel.alloc HC.out.bel.size _)).bytes Hb.out.1 (fun _ _ _ => id)
                  have q0 := (World.grownBy_alloc wc (.cells #[] 5) none).cell c0 (by simp)
                  go_wp2_with (at_builtin; refine wpList_append_row _ rfl _ _ rfl (.slice (some ⟨wc.heap.size, 0, none⟩) 0 0) 0 [] rfl (empty_row_at wc wc.heap.size (by simp)) x m cx lx rfl hba Hb.out.2.2 (by omega) ?_; intro v5 w5 hown5 hgr5 hat5; obtain ⟨a5, c5, rfl, hnc5, hnil5⟩ := ownsRow_shape' hown5)
                  rw [Nat.zero_add] at hown5 hnc5 hnil5
                  rw [List.nil_append] at hown5
                  have hB5 : Below wc.heap.size wc w5 := ((Below.refl _ wc).alloc (Nat.le_refl _) _).grown hgr5 (by simp) (fun k hk => by cases hk; simp)
                  have hb5 := (ownsRow_toBytes hown5).1
                  have hlx : lx.length = m := hb5.1
                  have d0 : w5.cell? ⟨wr.heap.size, 0, none⟩ = some (.slice x m cx) := (hB5.cell (p := ⟨wr.heap.size, 0, none⟩) (World.block_lt_of_cell? wc _ c0)).trans c0
                  have HC5 : Hid (CInv w w5 j (w1.heap.size + 1) (.slice va vn vc) ds Sc F G dead) := HC.out.below hB5
                  have HB5 : Hid (Below wc.heap.size wc w5) := hB5
                  have hnF : 0 < m → ∀ y, a5 = some y → ¬ F y.block ∧ ¬ G y.block := fun _ y hy => by
                    have hge : wc.heap.size ≤ y.block := by
                      rcases hat5 with e | e
                      · rw [hy] at e
                        simp [Value.ownBlock] at e
                        omega
                      · rw [hy] at e
                        simp [Value.ownBlock] at e
                        omega
                    exact ⟨fun hf => by have := HC.out.ja.lt _ hf; omega, fun hf => by have := HC.out.dk.lt _ hf; omega⟩
                  have hrl := (recB_pos lx).2
                  have hfits : (fileB ds).length ≤ 1000000 ∧ (recB lx).length + (fileB ds).length ≤ 1000000 := by have := HD.out; omega
                  cases hdead : dead with
                  | true =>
                    subst hdead
                    have hx6 := jappend_cut w5 j (w1.heap.size + 1) fNm ds _ F HC5.out.ja (.slice a5 m c5)
                    clear hown5 hgr5 hat5 hB5 hb5 hba hnil5 hnc5 hlx hnF hrl q0
                    go_wp2_with fail
                    refine hx6.mono ?_
                    clear hx6
                    rintro e w6 ⟨rfl, rfl⟩
                    obtain ⟨hsl, hvn⟩ := HC5.out.dn.slices
                    have hx7 := kept_any w6 _ Sc G ds true HC5.out.dk HC5.out.cg hfits.1 va vn vc hsl hvn
                    clear hsl hvn
                    go_wp2_with fail
                    refine hx7.mono ?_
                    clear hx7
                    rintro e w7 ⟨rfl, hB7⟩
                    have HC7 : Hid (CInv w w7 j (w1.heap.size + 1) (.slice va vn vc) ds Sc F G true) := HC5.out.below hB7
                    clear hB7
                    go_wp2
                    go_roundw
                    case rel => exact ⟨k + 1, j, va, vn, vc, true, sz + m, ds, Sc, F, G, by omega, by omega, by go_num, rfl, rfl, rfl, by go_num, HC7, ⟨HD.out.1, by have := HD.out; omega, by have := HD.out; omega, by have := HD.out; have := HW.out; omega⟩, by omega⟩
                    case measure => simp [intOf]; omega
                  | false =>
                    subst hdead
                    have hcg := HC5.out.cg
                    have hwh := hcg.whole
                    have hn1 := hcg.n
                    have hx6 := jappend_any w5 j (w1.heap.size + 1) fNm ds _ F Sc G HC5.out.ja HC5.out.dk HC5.out.fg a5 m c5 lx hb5 (by omega) hnF (by decide) (by rw [hwh]; omega) (by rw [hwh]; exact Nat.le_refl _) (by omega) (by have := HD.out; have := HW.out; omega)
                    obtain ⟨hcase, hwr⟩ := hcg.app fNm_name lx (by omega) (by omega)
                    obtain ⟨er, her⟩ : ∃ er, er = (Sc.app fNm.data.toList (recB lx)).2 := ⟨_, rfl⟩
                    obtain ⟨S6, hS6⟩ : ∃ S6, S6 = (Sc.app fNm.data.toList (recB lx)).1 := ⟨_, rfl⟩
                    unfold Appended at hx6
                    rw [← her, ← hS6] at hx6 hcase
                    rw [← hS6] at hwr
                    have Hwr : Hid (S6.wr ≤ Sc.wr + (m + 18)) := by show _ ≤ _; omega
                    clear hown5 hgr5 hat5 hB5 hb5 hba hnil5 hnc5 hnF q0 hcg hwh hn1 her hS6 hwr
                    rcases hcase with ⟨rfl, hcg6⟩ | ⟨rfl, hcg6⟩
                    · have Hcg6 : Hid (CG S6 fNm.data.toList (ds ++ [lx]) false) := hcg6
                      clear hcg6
                      go_wp2_with fail
                      refine hx6.mono ?_
                      clear hx6
                      rintro e w6 ⟨rfl, hT6, F6, G6, hd6, hF6, hG6, hFG6, hJc⟩
                      rcases hJc with ⟨_, hJ6⟩ | ⟨h0, _⟩
                      case inr => exact absurd rfl h0
                      have hJ6' : JAt w6 j (w1.heap.size + 1) fNm (ds ++ [lx]) (fileB (ds ++ [lx])).length false F6 := by rw [fileB_snoc, List.length_append]; exact hJ6
                      obtain ⟨hvf, hdn6, hbel6, hqf6, hqg6⟩ := HC5.out.appended (Below.refl _ _) hT6 hF6 hG6
                      have d6 : w6.cell? ⟨wr.heap.size, 0, none⟩ = some (.slice x m cx) := hT6.cell d0 (fun e => e.elim (fun hf => Hbx.out.1 hf) (fun hf => Hbx.out.2 hf))
                      have H6 : Hid (JAt w6 j (w1.heap.size + 1) fNm (ds ++ [lx]) (fileB (ds ++ [lx])).length false F6 ∧ IsDisk w6 (w1.heap.size + 1) S6 G6 ∧ (∀ k, F6 k → ¬ G6 k) ∧ (∀ k, F6 k → w.heap.size ≤ k) ∧ (∀ k, G6 k → w.heap.size ≤ k) ∧ (∀ g, (Value.slice va vn vc).ownBlock = some g → ¬ F6 g ∧ ¬ G6 g) ∧ Below w.heap.size w w6) := ⟨hJ6', hd6, hFG6, hqf6, hqg6, hvf, hbel6⟩
                      have Hv : Hid (∀ g, (Value.slice va vn vc).ownBlock = some g → w.heap.size ≤ g) := by
                        obtain ⟨_, _, h2, _⟩ := hdn6
                        exact h2
                      obtain ⟨xs, hxs, _, hx3⟩ := hdn6.below ((Below.refl _ w6).alloc (Nat.le_refl _) (.cells #[.slice x m cx] 22))
                      have Hx3 : Hid (∀ i, i < ds.length → ∃ x' m' c', xs[i]? = some (.slice x' m' c') ∧ Bytes (w6.alloc (.cells #[.slice x m cx] 22)) x' m' (rc ds i) ∧ (0 < m' → ∀ y, x' = some y → y.block < w.heap.size)) := hx3
                      rw [← HD.out.1] at hxs
                      clear hx3 hT6 hd6 hF6 hG6 hFG6 hJ6 hJ6' hvf hdn6 hbel6 hqf6 hqg6
                      go_wp2_with (at_builtin; refine wpList_push1 _ (by rfl) _ _ 26 22 i0 (.slice none 0 0) 24 rfl hu hi hz0 hz1 hz2 rfl (.slice va vn vc) vn xs rfl hxs w6.heap.size (.slice x m cx) rfl (by simp) rfl (by unfold maxLen; omega) (by omega) ?_; intro v7 w7 hown7 hgr7 hat7; obtain ⟨a7, c7, rfl, hnc7, hnil7⟩ := ownsRow_shape' hown7)
                      have HC7 : Hid (CInv w w7 j (w1.heap.size + 1) (.slice a7 (vn + 1) c7) (ds ++ [lx]) S6 F6 G6 false) := by
                        have hv : vn = ds.length := HD.out.1
                        subst hv
                        exact CInv.pushed H6.out.1 H6.out.2.1 H6.out.2.2.1 Hcg6.out H6.out.2.2.2.1 H6.out.2.2.2.2.1 H6.out.2.2.2.2.2.1 H6.out.2.2.2.2.2.2 Hv.out Hb.out.1 hxs Hx3.out hown7 hgr7 hat7
                      clear hown7 hgr7 hat7 hxs hnil7 hnc7 d6
                      obtain ⟨hsl, hvn⟩ := HC7.out.dn.slices
                      have hfl7 : (fileB (ds ++ [lx])).length ≤ 1000000 := by rw [fileB_snoc, List.length_append]; omega
                      have hx7 := kept_any w7 _ S6 G6 (ds ++ [lx]) false HC7.out.dk HC7.out.cg hfl7 a7 (vn + 1) c7 hsl hvn
                      have Hfl7 : Hid ((fileB (ds ++ [lx])).length = (fileB ds).length + (recB lx).length) := by show _ = _; rw [fileB_snoc, List.length_append]
                      clear hsl hvn hfl7
                      go_wp2_with fail
                      refine hx7.mono ?_
                      clear hx7
                      rintro e w8 ⟨rfl, hB8⟩
                      have HC8 : Hid (CInv w w8 j (w1.heap.size + 1) (.slice a7 (vn + 1) c7) (ds ++ [lx]) S6 F6 G6 false) := HC7.out.below hB8
                      clear hB8
                      go_wp2
                      go_roundw
                      case rel => exact ⟨k + 1, j, a7, vn + 1, c7, false, sz + m, ds ++ [lx], S6, F6, G6, by omega, by omega, by go_num, rfl, rfl, rfl, by go_num, HC8, ⟨by rw [List.length_append, HD.out.1]; rfl, by have := HD.out; omega, by have := HD.out; have := Hfl7.out; omega, by have := HD.out; have := HW.out; have := Hwr.out; omega⟩, by omega⟩
                      case measure => simp [intOf]; omega
                    · have Hcg6 : Hid (CG S6 fNm.data.toList ds true) := hcg6
                      clear hcg6
                      go_wp2_with fail
                      refine hx6.mono ?_
                      clear hx6
                      rintro e w6 ⟨rfl, hT6, F6, G6, hd6, hF6, hG6, hFG6, hJc⟩
                      rcases hJc with ⟨h0, _⟩ | ⟨_, hJ6⟩
                      case inl => exact absurd h0 (by decide)
                      have hJ6' : JAt w6 j (w1.heap.size + 1) fNm ds (fileB ds).length true F6 := hJ6
                      obtain ⟨hvf, hdn6, hbel6, hqf6, hqg6⟩ := HC5.out.appended (Below.refl _ _) hT6 hF6 hG6
                      have HC6 : Hid (CInv w w6 j (w1.heap.size + 1) (.slice va vn vc) ds S6 F6 G6 true) := ⟨hJ6', hd6, hFG6, Hcg6.out, hdn6, hqf6, hqg6, hvf, hbel6⟩
                      obtain ⟨hsl, hvn⟩ := hdn6.slices
                      have hx7 := kept_any w6 _ S6 G6 ds true hd6 Hcg6.out hfits.1 va vn vc hsl hvn
                      clear hsl hvn hT6 hd6 hF6 hG6 hFG6 hJ6 hJ6' hvf hdn6 hbel6 hqf6 hqg6
                      go_wp2_with fail
                      refine hx7.mono ?_
                      clear hx7
                      rintro e w7 ⟨rfl, hB7⟩
                      have HC7 : Hid (CInv w w7 j (w1.heap.size + 1) (.slice va vn vc) ds S6 F6 G6 true) := HC6.out.below hB7
                      clear hB7
                      go_wp2
                      go_roundw
                      case rel => exact ⟨k + 1, j, va, vn, vc, true, sz + m, ds, S6, F6, G6, by omega, by omega, by go_num, rfl, rfl, rfl, by go_num, HC7, ⟨HD.out.1, by have := HD.out; omega, by have := HD.out; omega, by have := HD.out; have := HW.out; have := Hwr.out; omega⟩, by omega⟩
                      case measure => simp [intOf]; omega
    · have hxE := HEnd.out wr (Below.refl _ _)
      clear HEnd
      go_wp2_with fail
      refine hxE.mono ?_
      rintro e w9 ⟨rfl, hB9⟩
      go_wp2
      go_ret
      exact ⟨rfl, hB9⟩

end Go.Proofs.Ytjbifbfhlmdlbaa
