/- The walk of the law JournalAgain. -/
import Derived.Test.YtjbifbfhlmdlbaaJArg
import Derived.Test.YtjbifbfhlmdlbaaJDone
import Derived.Test.YtjbifbfhlmdlbaaJWakes
namespace Go.Proofs.Ytjbifbfhlmdlbaa
open Go.RowKit

theorem fileB_le (rs : List (List UInt8)) (N : Nat) (h : ∀ r ∈ rs, r.length ≤ N) : (fileB rs).length ≤ rs.length * (N + 18) := by
  induction rs with
  | nil => simp [fileB]
  | cons r rs ih =>
    have h1 := ih (fun r hr => h r (by simp [hr]))
    have h2 := (recB_pos r).2
    have h3 := h r (by simp)
    have e : (fileB (r :: rs)).length = (recB r).length + (fileB rs).length := by simp [fileB]
    rw [e, List.length_cons, Nat.add_mul]
    omega

/-- what holds ahead of each payload -/
structure AgInv (w wr : World) (j d : Nat) (v : Value) (ds : List (List UInt8)) (Q : Nat → Prop) (S : DG) : Prop where
  jl : JL Q wr j d fNm ds S
  gd : Good S fNm.data.toList ds
  dn : Done w.heap.size wr v ds
  dq : ∀ g, v.ownBlock = some g → ¬ Q g
  q : ∀ k, Q k → w.heap.size ≤ k
  bel : Below w.heap.size w wr

theorem AgInv.qlt {w wr : World} {j d : Nat} {v : Value} {ds : List (List UInt8)} {Q : Nat → Prop} {S : DG} (h : AgInv w wr j d v ds Q S) (k : Nat) (hk : Q k) : k < wr.heap.size := by
  obtain ⟨_, _, _, _, _, _, _, h6⟩ := h.jl
  exact h6 k hk

/-- behind an Append that was told OK, and with the payload in the law's own list -/
theorem AgInv.step {w wr w5 w6 w7 : World} {j d : Nat} {v v7 : Value} {ds : List (List UInt8)} {Q : Nat → Prop} {S S6 : DG} {X : Obj} {x : Option Addr} {m c : Nat} {l : List UInt8} {xs : List Value} (h : AgInv w wr j d v ds Q S) (hB5 : Below wr.heap.size wr w5) (hL6 : JL (grow Q w5 w6) w6 j d fNm (ds ++ [l]) S6) (hg6 : Good S6 fNm.data.toList (ds ++ [l])) (hT6 : Turn Q w5 w6)
    (hb : Bytes w x m l) (hxs : (w6.alloc X).ownsRow 0 22 1 v ds.length xs) (h3 : ∀ i, i < ds.length → ∃ x m c, xs[i]? = some (.slice x m c) ∧ Bytes (w6.alloc X) x m (rc ds i) ∧ (0 < m → ∀ y, x = some y → y.block < w.heap.size))
    (hown : w7.ownsRow 0 22 1 v7 (ds.length + 1) (xs ++ [.slice x m c])) (hg : (w6.alloc X).grownBy w7 v.ownBlock) (hat : v7.ownBlock = v.ownBlock ∨ v7.ownBlock = some (w6.alloc X).heap.size) :
    AgInv w w7 j d v7 (ds ++ [l]) (grow Q w5 w6) S6 := by
  have hBa : Below w6.heap.size w6 (w6.alloc X) := (Below.refl _ _).alloc (Nat.le_refl _) _
  have hs56 := hT6.size
  have hs5 := hB5.size
  have hsw := h.bel.size
  have hvlt : ∀ g, v.ownBlock = some g → g < wr.heap.size ∧ w.heap.size ≤ g := fun g hg => by
    obtain ⟨xs', h1, h2, _⟩ := h.dn
    exact ⟨(h1.lt g hg).2, h2 g hg⟩
  have hvQ : ∀ g, v.ownBlock = some g → ¬ grow Q w5 w6 g := fun g hg hq => hq.elim (h.dq g hg) (fun e => by have := hvlt g hg; omega)
  have hlt6 : ∀ k, grow Q w5 w6 k → k < w6.heap.size := by obtain ⟨_, _, _, _, _, _, _, h6⟩ := hL6; exact h6
  have hbw6 : Below w.heap.size w w6 := (h.bel.trans (hB5.mono hsw)).trans (hT6.below (by omega) h.q)
  have hbw7 : Below w.heap.size w w7 := (hbw6.alloc (by omega) X).grown hg (by simp; omega) (fun k hk => (hvlt k hk).2)
  have hT67 : Turn (fun k => v.ownBlock = some k) w6 w7 := (Turn.of_below _ hBa).trans (Turn.of_grownBy (Fp := fun k => v.ownBlock = some k) hg (fun k hk => .inl hk)) (fun _ _ h => h)
  refine { jl := ?_, gd := hg6, dn := ?_, dq := ?_, q := fun k hk => hk.elim (h.q k) (fun e => by omega), bel := hbw7 }
  · obtain ⟨F, G, a1, a2, a3, a4, a5, a6⟩ := hL6
    exact ⟨F, G, a1.turn hT67 (fun k hk e => hvQ k e (a4 k hk)), a2.turn hT67 (fun k hk e => hvQ k e (a5 k hk)), a3, a4, a5, fun k hk => Nat.lt_of_lt_of_le (a6 k hk) hT67.size⟩
  · refine Done.push (B := w.heap.size) hxs (fun g hg => (hvlt g hg).2) h3 ?_ (fun h0 y hy => ?_) (by simp; omega) hown hg hat
    · exact (Turn.of_below (fun _ => False) (hbw6.alloc (by omega) X)).bytes hb (fun _ _ _ => id)
    · obtain ⟨b, off, e, hc⟩ := hb.2 h0
      rw [hy] at e; cases e
      exact World.block_lt_of_cell? w _ (hc 0 h0)
  · intro g hg' hq
    rcases hat with e | e
    · exact hvQ g (by rw [← e]; exact hg') hq
    · rw [e] at hg'
      have hg2 : (w6.alloc X).heap.size = g := by simpa using hg'
      have := hlt6 g hq
      simp at hg2
      omega

/-- what holds ahead of each further Open -/
structure OpInv (w wr : World) (j d : Nat) (v : Value) (ds : List (List UInt8)) (S : DG) (F G : Nat → Prop) : Prop where
  ja : JAt wr j d fNm ds (fileB ds).length false F
  dk : IsDisk wr d S G
  fg : ∀ k, F k → ¬ G k
  gd : Good S fNm.data.toList ds
  dn : Done w.heap.size wr v ds
  q : ∀ k, G k → w.heap.size ≤ k
  vg : ∀ g, v.ownBlock = some g → ¬ G g
  bel : Below w.heap.size w wr

theorem OpInv.below {w wr w' : World} {j d : Nat} {v : Value} {ds : List (List UInt8)} {S : DG} {F G : Nat → Prop} (h : OpInv w wr j d v ds S F G) (hB : Below wr.heap.size wr w') : OpInv w w' j d v ds S F G :=
  { h with ja := h.ja.below hB, dk := h.dk.below hB, dn := h.dn.below hB, bel := h.bel.trans (hB.mono h.bel.size) }

theorem OpInv.opened {w wr w' : World} {j d : Nat} {v : Value} {ds : List (List UInt8)} {S : DG} {F G G' : Nat → Prop} (h : OpInv w wr j d v ds S F G) (hT : Turn G wr w') (hd : IsDisk w' d S G') (hG : ∀ k, G' k → grow G wr w' k) : OpInv w w' j d v ds S F G' := by
  have hlt := h.ja.lt
  have hvlt : ∀ g, v.ownBlock = some g → g < wr.heap.size := fun g hg => by
    obtain ⟨xs, h1, _⟩ := h.dn
    exact (h1.lt g hg).2
  exact { h with
    ja := h.ja.turn hT h.fg
    dk := hd
    fg := fun k hk hg => (hG k hg).elim (h.fg k hk) (fun e => by have := hlt k hk; omega)
    dn := h.dn.turn hT h.q h.vg
    q := fun k hk => (hG k hk).elim (h.q k) (fun e => by have := h.bel.size; omega)
    vg := fun g hg hq => (hG g hq).elim (h.vg g hg) (fun e => by have := hvlt g hg; omega)
    bel := h.bel.trans (hT.below h.bel.size h.q) }

set_option maxRecDepth 100000 in
set_option maxHeartbeats 4000000 in
theorem journalAgain_walk (a : Option Addr) (n c : Nat) (E : Nat → El) (w : World) (hl : Lists w a n E) (hn : n ≤ maxLen) : Calls Try.prog 8 #[.slice a n c] w fun e w' => e = .returned (.bool true) ∧ Below w.heap.size w w' := by
  obtain ⟨i0, hi, hz0, hz1, hz2⟩ := info_parts Try.info22
  have hu := Try.underlying26
  go_enter Try.func8, Try.ntmps8
  go_wp2_with fail
  refine (jwakes_any _).mono ?_
  rintro e w1 ⟨rfl, B1⟩
  go_wp2_with fail
  refine (new_any w1).mono ?_
  rintro e w2 ⟨rfl, hd2, B2⟩
  have hx := jl_open w2 _ _ _ fNm [] hd2 (by decide) (Good.new _) (by simp [fileB])
  clear hd2
  go_wp2_with fail
  refine hx.mono ?_
  clear hx
  rintro e w3 ⟨j, rfl, hL3, hT3⟩
  have B3 : Below w.heap.size w w3 := B1.trans ((B2.trans (hT3.below B2.size (by rintro k (rfl | rfl) <;> omega))).mono B1.size)
  have Q3 : Hid (∀ k, grow (fun k => k = w1.heap.size ∨ k = w1.heap.size + 1) w2 w3 k → w.heap.size ≤ k) := fun k hk => hk.elim (fun h => by have := B1.size; omega) (fun h => by have := B1.size; have := B2.size; omega)
  obtain ⟨Q, hQ⟩ : ∃ Q, Q = grow (fun k => k = w1.heap.size ∨ k = w1.heap.size + 1) w2 w3 := ⟨_, rfl⟩
  rw [← hQ] at hL3 Q3
  clear hQ hT3 B2 B1
  go_wp2_with fail
  refine (jwakes_any _).mono ?_
  rintro e w4 ⟨rfl, B4⟩
  have hL4 := hL3.below B4
  have B04 : Below w.heap.size w w4 := B3.trans (B4.mono B3.size)
  clear hL3 B3 B4
  go_wp2_with fail
  have HI : Hid (AgInv w w4 j (w1.heap.size + 1) (.slice none 0 0) [] Q ⟨fun _ => none, 0, 0, false, 0⟩) := ⟨hL4, Good.new _, Done.nil _ _, by simp [Value.ownBlock], Q3.out, B04⟩
  clear hL4 B04 Q3
  have hn' : n ≤ 9223372036854775807 := by unfold maxLen at hn; omega
  go_loopw [6, 36] (fun v i wr => ∃ (k : Nat) (va : Option Addr) (vn vc : Nat) (ds : List (List UInt8)) (Q : Nat → Prop) (S : DG), k ≤ n ∧ i = .int .i64 k ∧ v = .slice va vn vc ∧ Hid (AgInv w wr j (w1.heap.size + 1) (.slice va vn vc) ds Q S) ∧ Hid (vn = ds.length ∧ (∀ r ∈ ds, r.length ≤ 1000)) ∧ vn ≤ 100) (fun _ i _ => n - (intOf i).toNat)
  case atStart => exact ⟨0, none, 0, 0, [], Q, _, Nat.zero_le _, rfl, rfl, HI, ⟨rfl, by simp⟩, by omega⟩
  case round =>
    clear HI
    obtain ⟨k, va, vn, vc, ds, Q, S, hk, rfl, rfl, H, HD, h100⟩ := hrel
    by_cases hlt : k < n
    · obtain ⟨b, off, rfl, hc⟩ := hl.1 (by omega)
      obtain ⟨hbE, hmc, hnilE, hmx⟩ := hl.2 k hlt
      have hck : wr.cell? ⟨b, off + k, none⟩ = some (.slice (E k).x (E k).m (E k).c) := (H.out.bel.cell (p := ⟨b, off + k, none⟩) (World.block_lt_of_cell? w _ (hc k hlt))).trans (hc k hlt)
      obtain ⟨x, m, cx, lx, hE⟩ : ∃ x m cx lx, E k = ⟨x, m, cx, lx⟩ := ⟨_, _, _, _, rfl⟩
      rw [hE] at hck hbE hmc hnilE hmx
      simp only at hck hbE hmc hnilE hmx
      have Hb : Hid (Bytes w x m lx ∧ m ≤ cx ∧ (x = none → m = 0 ∧ cx = 0)) := ⟨hbE, hmc, hnilE⟩
      have i1 : (k : Int) < (n : Int) := by omega
      have hm' : m ≤ 9223372036854775807 := by unfold maxLen at hmx; omega
      clear hc hE hbE hmc hnilE hmx
      by_cases h1000 : 1000 < m
      · have i2 : (1000 : Int) < (m : Int) := by omega
        go_wp2_with fail
        go_roundw
        case rel => exact ⟨k + 1, va, vn, vc, ds, Q, S, by omega, by go_num, rfl, H, HD, h100⟩
        case measure => simp [intOf]; omega
      · have i2 : ¬ (1000 : Int) < (m : Int) := by omega
        by_cases hfull : vn = 100
        · subst hfull
          go_wp2_with fail
          go_roundw
          case rel => exact ⟨k + 1, va, 100, vc, ds, Q, S, by omega, by go_num, rfl, H, HD, h100⟩
          case measure => simp [intOf]; omega
        · have i3 : ¬ (vn : Int) = 100 := by omega
          have hba : Bytes (wr.alloc (.cells #[] 5)) x m lx := (Turn.of_below (fun _ => False) (H.out.bel.alloc H.out.bel.size _)).bytes Hb.out.1 (fun _ _ _ => id)
          have hsz : m ≤ 140737488355328 := by omega
          go_wp2_with (at_builtin; refine wpList_append_row _ rfl _ _ rfl (.slice (some ⟨wr.heap.size, 0, none⟩) 0 0) 0 [] rfl (empty_row wr) x m cx lx rfl hba Hb.out.2.2 (by omega) ?_; intro v5 w5 hown5 hgr5 hat5; obtain ⟨a5, c5, rfl, hnc5, hnil5⟩ := ownsRow_shape' hown5)
          rw [Nat.zero_add] at hown5 hnc5 hnil5
          rw [List.nil_append] at hown5
          have hB5 : Below wr.heap.size wr w5 := ((Below.refl _ wr).alloc (Nat.le_refl _) _).grown hgr5 (by simp) (fun k hk => by cases hk; exact Nat.le_refl _)
          have hb5 := (ownsRow_toBytes hown5).1
          have hlx : lx.length = m := hb5.1
          have hx6 := jl_append Q w5 j _ S fNm ds (H.out.jl.below hB5) (by decide) (by decide) H.out.gd a5 m c5 lx hb5 (by omega) (fun _ y hy hq => by
            have h1 := H.out.qlt _ hq
            rcases hat5 with e | e
            · rw [hy] at e
              simp [Value.ownBlock] at e
              omega
            · rw [hy] at e
              simp [Value.ownBlock] at e
              omega) (by
              have h1 := fileB_le ds 1000 HD.out.2
              have h2 := (recB_pos lx).2
              have h3 := HD.out.1
              have h4 : ds.length * (1000 + 18) ≤ 100 * 1018 := Nat.mul_le_mul (by omega) (Nat.le_refl _)
              omega)
          have HB5 : Hid (Below wr.heap.size wr w5) := hB5
          have Hlx : Hid (lx.length ≤ 1000) := by show _ ≤ _; omega
          clear hown5 hgr5 hat5 hB5 hb5 hba hnil5 hnc5 hlx
          go_wp2_with fail
          refine hx6.mono ?_
          clear hx6
          rintro e w6 ⟨rfl, ⟨S6, hL6, hg6⟩, hT6⟩
          have Hdn : Hid (∀ X, Done w.heap.size (w6.alloc X) (.slice va vn vc) ds) := fun X => (((H.out.dn.below HB5.out).turn hT6 H.out.q H.out.dq).below ((Below.refl _ _).alloc (Nat.le_refl _) X))
          have HS6 : Hid (JL (grow Q w5 w6) w6 j (w1.heap.size + 1) fNm (ds ++ [lx]) S6 ∧ Good S6 fNm.data.toList (ds ++ [lx]) ∧ Turn Q w5 w6) := ⟨hL6, hg6, hT6⟩
          clear hL6 hg6 hT6
          obtain ⟨xs, hxs, hx2, hx3⟩ := Hdn.out (.cells #[.slice x m cx] 22)
          have Hx3 : Hid (∀ i, i < ds.length → ∃ x' m' c', xs[i]? = some (.slice x' m' c') ∧ Bytes (w6.alloc (.cells #[.slice x m cx] 22)) x' m' (rc ds i) ∧ (0 < m' → ∀ y, x' = some y → y.block < w.heap.size)) := hx3
          rw [← HD.out.1] at hxs
          clear hx2 hx3 Hdn
          go_wp2_with (at_builtin; refine wpList_push1 _ (by rfl) _ _ 26 22 i0 (.slice none 0 0) 24 rfl hu hi hz0 hz1 hz2 rfl (.slice va vn vc) vn xs rfl hxs w6.heap.size (.slice x m cx) rfl (by simp) rfl (by unfold maxLen; omega) (by omega) ?_; intro v7 w7 hown7 hgr7 hat7; obtain ⟨a7, c7, rfl, hnc7, hnil7⟩ := ownsRow_shape' hown7)
          have HS : Hid (AgInv w w7 j (w1.heap.size + 1) (.slice a7 (vn + 1) c7) (ds ++ [lx]) (grow Q w5 w6) S6) := by
            have hv : vn = ds.length := HD.out.1
            subst hv
            exact H.out.step HB5.out HS6.out.1 HS6.out.2.1 HS6.out.2.2 Hb.out.1 hxs Hx3.out hown7 hgr7 hat7
          clear hown7 hgr7 hat7 hxs hnil7 hnc7
          go_roundw
          case rel =>
            refine ⟨k + 1, a7, vn + 1, c7, ds ++ [lx], grow Q w5 w6, S6, by omega, by go_num, rfl, HS, ⟨by rw [List.length_append, HD.out.1]; rfl, fun r hr => ?_⟩, by omega⟩
            rcases List.mem_append.1 hr with hr | hr
            · exact HD.out.2 r hr
            · simp at hr; subst hr; exact Hlx.out
          case measure => simp [intOf]; omega
    · obtain rfl : k = n := by omega
      have hfl : (fileB ds).length ≤ 4194304 := by
        have h1 := fileB_le ds 1000 HD.out.2
        have h3 := HD.out.1
        have h4 : ds.length * (1000 + 18) ≤ 100 * 1018 := Nat.mul_le_mul (by omega) (Nat.le_refl _)
        omega
      have HW : Hid (∃ F G, OpInv w wr j (w1.heap.size + 1) (.slice va vn vc) ds S F G) := by
        obtain ⟨F, G, a1, a2, a3, a4, a5, a6⟩ := H.out.jl
        exact ⟨F, G, { ja := a1, dk := a2, fg := a3, gd := H.out.gd, dn := H.out.dn, q := fun k hk => H.out.q k (a5 k hk), vg := fun g hg hG => H.out.dq g hg (a5 g hG), bel := H.out.bel }⟩
      obtain ⟨F, G, hO⟩ := HW.out
      have HO : Hid (OpInv w wr j (w1.heap.size + 1) (.slice va vn vc) ds S F G) := hO
      have hx1 := writes_any _ _ G wr hO.dk
      have Hfl : Hid ((fileB ds).length ≤ 4194304) := hfl
      clear HW hO hfl H
      obtain ⟨wn, hwn⟩ : ∃ wn, wn = S.wr := ⟨_, rfl⟩
      have Hwn : Hid (wn = S.wr) := hwn
      rw [← hwn] at hx1
      clear hwn
      go_wp2_with fail
      refine hx1.mono ?_
      clear hx1
      rintro e w5 ⟨rfl, rfl⟩
      go_wp2_with fail
      go_loopw [61] (fun i wr' => ∃ (t : Nat) (G' : Nat → Prop), t ≤ 2 ∧ i = .int .i64 t ∧ Hid (OpInv w wr' j (w1.heap.size + 1) (.slice va vn vc) ds S F G')) (fun i _ => 2 - (intOf i).toNat)
      case atStart => exact ⟨0, G, by omega, rfl, HO⟩
      case round =>
        clear HO
        obtain ⟨t, G', ht, rfl, HO⟩ := hrel
        by_cases h2 : t < 2
        · have i2 : (t : Int) < 2 := by omega
          have hx2 := jl_open _ _ S G' fNm ds HO.out.dk (by decide) HO.out.gd Hfl.out
          go_wp2_with fail
          refine hx2.mono ?_
          clear hx2
          rintro e w6 ⟨jk, rfl, ⟨F6, G6, hJ6, hd6, hFG6, hF6, hG6, hQ6⟩, hT6⟩
          have hO6 := HO.out.opened hT6 hd6 hG6
          obtain ⟨hsl, hvn⟩ := hO6.dn.slices
          have hx3 := holds_any w6 jk _ fNm ds _ false F6 hJ6 va vc (by rw [← hvn]; exact hsl)
          rw [← hvn] at hx3
          have HO6 : Hid (OpInv w w6 j (w1.heap.size + 1) (.slice va vn vc) ds S F G6) := hO6
          have HJ6 : Hid (JAt w6 jk (w1.heap.size + 1) fNm ds (fileB ds).length false F6) := hJ6
          clear hJ6 hd6 hFG6 hF6 hG6 hQ6 hT6 hO6 hsl hvn
          go_wp2_with fail
          refine hx3.mono ?_
          clear hx3
          rintro e w7 ⟨rfl, hB7⟩
          have HO7 : Hid (OpInv w w7 j (w1.heap.size + 1) (.slice va vn vc) ds S F G6) := HO6.out.below hB7
          have hx4 := jsize_any w7 jk _ fNm ds _ false F6 (HJ6.out.below hB7)
          have hx5 := jsize_any w7 j _ fNm ds _ false F HO7.out.ja
          obtain ⟨zz, hzz⟩ : ∃ zz, zz = (fileB ds).length := ⟨_, rfl⟩
          rw [← hzz] at hx4 hx5
          clear hzz hB7
          go_wp2_with fail
          refine hx4.mono ?_
          clear hx4
          rintro e w8 ⟨rfl, rfl⟩
          go_wp2_with fail
          refine hx5.mono ?_
          clear hx5
          rintro e w9 ⟨rfl, rfl⟩
          go_wp2
          go_roundw
          case rel => exact ⟨t + 1, G6, by omega, by go_num, HO7⟩
          case measure => simp [intOf]; omega
        · obtain rfl : t = 2 := by omega
          have hx6 := writes_any _ _ G' _ HO.out.dk
          rw [← Hwn.out] at hx6
          go_wp2_with fail
          refine hx6.mono ?_
          clear hx6
          rintro e w8 ⟨rfl, rfl⟩
          go_wp2
          go_ret
          exact ⟨by simp, HO.out.bel⟩

end Go.Proofs.Ytjbifbfhlmdlbaa
