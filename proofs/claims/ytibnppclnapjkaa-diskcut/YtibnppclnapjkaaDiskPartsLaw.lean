/- Proved here: for every two rows of bytes and every number the law DiskParts returns true, and its arguments read as before. No condition. -/
import Derived.Test.YtibnppclnapjkaaDiskSame
import Derived.Test.YtibnppclnapjkaaDiskNoneLaw
namespace Go.Proofs.Ytibnppclnapjkaa
open Go.ChangeShapes Go.WideShapes Go.ChangeAt Go.RowKit Go.Maps

abbrev S0 : DG := ⟨fun _ => none, 0, 0, false, 0⟩
theorem name97 : nameB [97] = true := by decide +kernel

theorem app_first (x : List UInt8) (h : x.length ≤ 500) : ∃ S1, S0.app [97] x = (S1, 0) ∧ S1.f [97] = some x ∧ S1.n = 1 ∧ S1.cut = false ∧ S1.wr ≤ 600 ∧ ∀ l bs, S1.f l = some bs → bs.length ≤ 500 := by
  unfold DG.app
  rw [if_neg (by simp [name97]), if_neg (by simp [DG.bs]; omega), if_neg (by simp), pieces_free _ S0 _ _ rfl (Nat.le_refl _)]
  refine ⟨_, rfl, by simp [DG.add, DG.set], by simp [DG.add, DG.set], rfl, ?_, ?_⟩
  · show 0 + (if x = [] then 1 else (x.length + 31) / 32) ≤ 600
    split <;> omega
  · intro l bs hf
    simp only [DG.add, DG.set] at hf
    split at hf
    · cases hf
      simpa using h
    · cases hf

theorem app_second (S1 : DG) (x0 x1 : List UInt8) (hf : S1.f [97] = some x0) (hc : S1.cut = false) (h0 : x0.length ≤ 500) (h : x1.length ≤ 1000) :
    ∃ S2, S1.app [97] x1 = (S2, 0) ∧ S2.bs [97] = x0 ++ x1 ∧ S2.wr = S1.wr + (x1.length + 31) / 32 ∧ S2.err [97] = 0 := by
  have hbs : S1.bs [97] = x0 := by simp [DG.bs, hf]
  unfold DG.app
  rw [if_neg (by simp [name97]), if_neg (by rw [hbs, hf]; simp; omega)]
  by_cases e : x1 = []
  · rw [if_pos ⟨by simp [hf], e⟩]
    subst e
    exact ⟨S1, rfl, by simp [hbs], by simp, by simp [DG.err, hf]⟩
  · rw [if_neg (fun h' => e h'.2), pieces_free _ S1 _ _ hc (Nat.le_refl _)]
    refine ⟨_, rfl, by simp [DG.add, DG.set, DG.bs, hf], ?_, by simp [DG.add, DG.set, DG.err]⟩
    show S1.wr + (if x1 = [] then 1 else (x1.length + 31) / 32) = _
    rw [if_neg e]

theorem app_third (S1 : DG) (x0 x1 : List UInt8) (j : Nat) (hf : S1.f [97] = some x0) (hn : S1.n = 1) (h0 : x0.length ≤ 500) (h : x1.length ≤ 1000) (hj : j * 32 < x1.length) :
    ∃ S3, DG.app { S1.copy with cut := true, left := j } [97] x1 = (S3, 6) ∧ S3.bs [97] = x0 ++ x1.take (j * 32) := by
  have hbs : DG.bs { S1.copy with cut := true, left := j } [97] = x0 := by simp [DG.bs, DG.copy, hf]
  have hf' : DG.f { S1.copy with cut := true, left := j } [97] = some x0 := hf
  have hn' : DG.n { S1.copy with cut := true, left := j } = 1 := hn
  have hp := pieces_cut (x1.length + 1) { S1.copy with cut := true, left := j } [97] x1 rfl (Nat.le_refl _) hj
  rw [hbs] at hp
  unfold DG.app
  rw [if_neg (by simp [name97]), if_neg (by rw [hbs, hf']; simp; omega), if_neg (by intro h'; rw [h'.2] at hj; simp at hj)]
  exact ⟨_, Prod.ext rfl hp.1, hp.2.1⟩

theorem mod_small (k : Int) (P : Nat) (h0 : 0 < P) (h : P ≤ 32) : ∃ j : Nat, wrap64 ((IntKind.u64.wrap k).tmod (P : Int)) = (j : Int) ∧ j < P := by
  rw [IntKind.wrap_u64]
  have h1 : 0 ≤ k % 18446744073709551616 := by omega
  rw [Int.tmod_eq_emod_of_nonneg h1]
  have h2 : 0 ≤ (k % 18446744073709551616) % (P : Int) := Int.emod_nonneg _ (by omega)
  have h3 : (k % 18446744073709551616) % (P : Int) < (P : Int) := Int.emod_lt_of_pos _ (by omega)
  generalize (k % 18446744073709551616) % (P : Int) = x at *
  refine ⟨x.toNat, ?_, by omega⟩
  unfold wrap64
  omega

theorem Bytes.below {w w' : World} {a : Option Addr} {n : Nat} {l : List UInt8} (h : Bytes w a n l) (hB : Below w.heap.size w w') : Bytes w' a n l := (Turn.of_below (fun _ => False) hB).bytes h (fun _ _ _ => id)
theorem Bytes.lt {w : World} {a : Option Addr} {n : Nat} {l : List UInt8} (h : Bytes w a n l) (h0 : 0 < n) (x : Addr) (hx : a = some x) : x.block < w.heap.size := by
  obtain ⟨b, off, e, hc⟩ := h.2 h0
  rw [e] at hx
  cases hx
  exact World.block_lt_of_cell? w _ (hc 0 h0)

set_option maxRecDepth 20000 in
set_option maxHeartbeats 4000000 in
theorem diskParts_walk (a0 a1 : Option Addr) (n0 c0 n1 c1 : Nat) (l0 l1 : List UInt8) (k : Int) (w : World) (hb0 : Bytes w a0 n0 l0) (hb1 : Bytes w a1 n1 l1) (h0 : n0 ≤ c0) (h1 : n1 ≤ c1) (hnil0 : a0 = none → n0 = 0 ∧ c0 = 0) (hnil1 : a1 = none → n1 = 0 ∧ c1 = 0) :
    Calls Try.prog 5 #[.slice a0 n0 c0, .slice a1 n1 c1, .int .i64 k] w fun e w' => e = .returned (.bool true) ∧ Below w.heap.size w w' := by
  obtain ⟨m0, hm0⟩ : ∃ m0 : Nat, (if (500 : Int) < (n0 : Int) then (500 : Int) else (n0 : Int)) = (m0 : Int) := by split; exact ⟨500, rfl⟩; exact ⟨n0, rfl⟩
  obtain ⟨m1, hm1⟩ : ∃ m1 : Nat, (if (1000 : Int) < (n1 : Int) then (1000 : Int) else (n1 : Int)) = (m1 : Int) := by split; exact ⟨1000, rfl⟩; exact ⟨n1, rfl⟩
  have q0 : m0 ≤ n0 ∧ m0 ≤ 500 := by split at hm0 <;> omega
  have q1 : m1 ≤ n1 ∧ m1 ≤ 1000 := by split at hm1 <;> omega
  have i0 : (0 : Int) ≤ (m0 : Int) := by omega
  have i1 : (m0 : Int) ≤ (c0 : Int) := by omega
  have i2 : (0 : Int) ≤ (m1 : Int) := by omega
  have i3 : (m1 : Int) ≤ (c1 : Int) := by omega
  go_enter Try.func5, Try.ntmps5
  go_wp2_with fail
  refine (wakes_any _).mono ?_
  rintro e w1 ⟨rfl, B1⟩
  go_wp2_with fail
  go_quiet (fail)
  have BA : Below w.heap.size w (w1.drewN nq) := ⟨B1.os, B1.tape, B1.output, B1.size, B1.block⟩
  generalize w1.drewN nq = wA at *
  have hx0 : Bytes w a0 m0 (l0.take m0) := hb0.take m0 q0.1
  have hx1 : Bytes w a1 m1 (l1.take m1) := hb1.take m1 q1.1
  have hn0 : a0 = none → m0 = 0 ∧ c0 = 0 := fun h => ⟨by have := (hnil0 h).1; omega, (hnil0 h).2⟩
  have hn1 : a1 = none → m1 = 0 ∧ c1 = 0 := fun h => ⟨by have := (hnil1 h).1; omega, (hnil1 h).2⟩
  have hc0 : m0 ≤ c0 := by omega
  have hc1 : m1 ≤ c1 := by omega
  generalize l0.take m0 = x0 at *
  generalize l1.take m1 = x1 at *
  clear B1 hm0 hm1 hb0 hb1 hnil0 hnil1 h0 h1
  have e0 := hx0.1
  have e1 := hx1.1
  subst e0 e1
  obtain ⟨S1, hS1, hf1, hn1', hcut1, hwr1, hall1⟩ := app_first x0 q0.2
  obtain ⟨S2, hS2, hbs2, hwr2, herr2⟩ := app_second S1 x0 x1 hf1 hcut1 q0.2 q1.2
  have hbs1 : S1.bs [97] = x0 := by simp [DG.bs, hf1]
  -- New
  go_wp2_with fail
  refine (new_any wA).mono ?_
  rintro e w2 ⟨rfl, hd2, B2⟩
  have B2w := below_more BA B2
  have hlt2 : ∀ x : Addr, x.block < w.heap.size → ¬ (x.block = wA.heap.size ∨ x.block = wA.heap.size + 1) := fun x hx h => by have := BA.size; omega
  have happ := append_any _ _ _ _ aName a0 x0.length c0 x0 hd2 (by decide) (hx0.below B2w) hc0 hn0 (fun h x hx => ⟨hlt2 x (hx0.lt h x hx), Nat.lt_of_lt_of_le (hx0.lt h x hx) B2w.size⟩) (by simp [DG.bs]) (by simp) (by simp) (by omega)
  rw [show aName.data.toList = [97] from rfl, hS1] at happ
  go_wp2_with fail
  refine happ.mono ?_
  rintro e w3 ⟨rfl, hd3, hT3⟩
  have B3w : Below w.heap.size w w3 := B2w.trans (hT3.below B2w.size (by have := BA.size; rintro k (rfl | rfl) <;> omega))
  have hG3 : ∀ k, grow (fun k => k = wA.heap.size ∨ k = wA.heap.size + 1) w2 w3 k → w.heap.size ≤ k := by
    have h1 := BA.size
    have h2 := B2w.size
    rintro k ((rfl | rfl) | h) <;> omega
  generalize grow (fun k => k = wA.heap.size ∨ k = wA.heap.size + 1) w2 w3 = F3 at *
  clear happ hT3 hd2 hlt2
  have hw3 := writes_any _ _ _ _ hd3
  go_wp2_with fail
  refine hw3.mono ?_
  rintro e w4 ⟨rfl, rfl⟩
  have hcp := copy_any _ _ _ _ hd3 (fun l bs h => by have := hall1 l bs h; omega) (by omega)
  clear hw3
  go_wp2_with fail
  refine hcp.mono ?_
  rintro e w5 ⟨q, rfl, hq5, B5⟩
  have hd5 := hd3.below B5
  have B5w := below_more B3w B5
  have hG5 : ∀ k, grow (fun _ => False) w4 w5 k → w.heap.size ≤ k ∧ ¬ F3 k := by
    have h1 := B3w.size
    rintro k (h | h)
    · exact h.elim
    · exact ⟨by omega, fun h' => by have := hd3.lt k h'; omega⟩
  generalize grow (fun _ => False) w4 w5 = F5 at *
  have happ2 := append_any _ _ _ _ aName a1 x1.length c1 x1 hd5 (by decide) (hx1.below B5w) hc1 hn1 (fun h x hx => ⟨fun h' => by have := hG3 _ h'; have := hx1.lt h x hx; omega, Nat.lt_of_lt_of_le (hx1.lt h x hx) B5w.size⟩) (by rw [show aName.data.toList = [97] from rfl, hbs1]; omega) (by omega) (by omega) (by omega)
  rw [show aName.data.toList = [97] from rfl, hS2] at happ2
  clear hcp B3w hd3
  go_wp2_with fail
  refine happ2.mono ?_
  rintro e w6 ⟨rfl, hd6, hT6⟩
  have B6w : Below w.heap.size w w6 := B5w.trans (hT6.below B5w.size hG3)
  have hq6 := hq5.turn hT6 (fun k hk => (hG5 k hk).2)
  have hG6 : ∀ k, F5 k → ¬ grow F3 w5 w6 k := fun k hk h => h.elim (hG5 k hk).2 (fun h' => by have := hq5.lt k hk; omega)
  generalize grow F3 w5 w6 = F6 at *
  clear happ2 hT6 hd5 hq5 B5w
  have hrd := read_any _ _ _ _ aName hd6 (by decide) (by rw [show aName.data.toList = [97] from rfl, hbs2]; simp; omega)
  rw [show aName.data.toList = [97] from rfl, hbs2, herr2] at hrd
  go_wp2_with fail
  refine hrd.mono ?_
  rintro e w7 ⟨a7, c7, rfl, hown7, B7, hc7, hn7⟩
  have hby7 := (ownsRow_toBytes hown7).1
  have hd7 := hd6.below B7
  have hq7 := hq6.below B7
  have B7w := below_more B6w B7
  have hw7 := writes_any _ _ _ _ hd7
  rw [hwr2] at hw7
  have hq6lt := hq6.lt
  clear hrd hd6 hq6 B6w
  obtain ⟨P, HP⟩ : ∃ P, Hid (P = (x1.length + 31) / 32) := ⟨_, rfl⟩
  have hP : ((x1.length : Int) + 32 - 1) / 32 = (P : Int) := by have := HP.out; omega
  rw [← HP.out] at hw7
  have hsub : (S1.wr : Int) + (P : Int) - (S1.wr : Int) = (P : Int) := by omega
  have hB8 : Below w7.heap.size w7 (w7.alloc (.cells #[] 5)) := (Below.refl _ _).alloc (Nat.le_refl _) _
  have hB8w := below_more B7w hB8
  have hr8 : (w7.alloc (.cells #[] 5)).ownsRow 0 5 1 (.slice (some ⟨w7.heap.size, 0, none⟩) 0 0) 0 [] := World.ownsRow_made w7 #[] 0 (Nat.zero_le _) (by unfold maxLen; omega) rfl
  have hx08 := hx0.below hB8w
  have tok1 : True := trivial
  go_wp2_with fail
  refine hw7.mono ?_
  rintro e w8 ⟨rfl, rfl⟩
  go_wp2_with (first
    | (at_builtin; have _t := tok1; refine wpList_append_row_g _ (by rfl) _ _ rfl (.slice (some ⟨w8.heap.size, 0, none⟩) 0 0) 0 [] rfl hr8 a0 x0.length c0 x0 rfl hx08 hn0 (by omega) ?_; intro v9 w9 ho9 hg9 hat9; clear tok1; simp only [Nat.zero_add, List.nil_append] at ho9; obtain ⟨a9, c9, rfl, hc9, hn9⟩ := ownsRow_shape ho9; have hB9 : Below w8.heap.size w8 w9 := hB8.grown hg9 (by simp) (by intro k hk; cases hk; exact Nat.le_refl _); have hx19 := hx1.below (below_more B7w hB9))
    | (at_builtin; refine wpList_append_row_g _ (by rfl) _ _ rfl (.slice a9 x0.length c9) x0.length (cellsOf x0) rfl ho9 a1 x1.length c1 x1 rfl hx19 hn1 (by omega) ?_; intro v10 w10 ho10 hg10 hat10; obtain ⟨a10, c10, rfl, hc10, hn10⟩ := ownsRow_shape ho10)
    | fail)
  have hB10 : Below w8.heap.size w8 w10 := hB9.grown hg10 hB9.size (by
    intro k hk
    have := (ownsRow_toBytes ho9).2
    rcases hat9 with e | e
    · rw [e] at hk; cases hk; exact Nat.le_refl _
    · rw [e] at hk; cases hk; simp)
  have hby10 : Bytes w10 a10 (x0.length + x1.length) (x0 ++ x1) := by
    rw [← cellsOf_append] at ho10
    exact (ownsRow_toBytes ho10).1
  have hby710 : Bytes w10 a7 (x0.length + x1.length) (x0 ++ x1) := by
    have := hby7.below hB10
    rw [List.length_append] at this
    exact this
  have B10w := below_more B7w hB10
  have hA7 : ∀ x, a7 = some x → ¬ F5 x.block := fun x hx h => by
    have h1 := ((ownsRow_toBytes hown7).2 x hx).1
    have h2 := hq6lt _ h
    omega
  have hq10 := hq7.below hB10
  refine (equal_any w10 a7 a10 _ _ c7 c10 (x0 ++ x1) (x0 ++ x1) hby710 hby10).mono ?_
  rw [show decide (x0 ++ x1 = x0 ++ x1) = true from by simp]
  rintro e w11 ⟨rfl, rfl⟩
  clear hw7 hd7 hq7 hr8 hx08 hB8 hB8w hB9 hx19 ho9 ho10 hg9 hg10 hat9 hat10 hB10 hby10 hby7 B7w hn9 hn10 hc9 hc10 hwr2 hS1 hS2
  by_cases hP0 : P = 0
  · subst hP0
    go_wp2_with fail
    refine (wakes_any _).mono ?_
    rintro e w12 ⟨rfl, B12⟩
    go_wp2
    go_ret
    exact ⟨rfl, below_more B10w B12⟩
  · have hP0' : ¬ (P : Int) = 0 := by omega
    have hPb : P ≤ 32 := by have := HP.out; omega
    obtain ⟨j, hj, hjP⟩ := mod_small k P (by omega) hPb
    have hj32 : j * 32 < x1.length := by have := HP.out; omega
    obtain ⟨S3, hS3, hbs3⟩ := app_third S1 x0 x1 j hf1 hn1' q0.2 q1.2 hj32
    have hct := cut_any q S1.copy F5 w11 j hq10 (by omega)
    have Hj : Hid (j < P) := hjP
    clear hjP
    go_wp2_with fail
    rw [hj]
    refine hct.mono ?_
    rintro e w12 ⟨rfl, hq12, hT12⟩
    have B12 : Below w.heap.size w w12 := B10w.trans (hT12.below B10w.size (fun k hk => (hG5 k hk).1))
    have hby12 : Bytes w12 a7 (x0.length + x1.length) (x0 ++ x1) := hT12.bytes hby710 (fun _ x hx h => hA7 x hx h)
    have hS1n : (S1.copy.bs [97]) = x0 := by simp [DG.bs, DG.copy, hf1]
    have happ3 := append_any _ _ _ _ aName a1 x1.length c1 x1 hq12 (by decide) (hx1.below B12) hc1 hn1 (fun h x hx => ⟨fun h' => by have := (hG5 _ h').1; have := hx1.lt h x hx; omega, Nat.lt_of_lt_of_le (hx1.lt h x hx) B12.size⟩) (by show (S1.copy.bs [97]).length ≤ _; rw [hS1n]; omega) (by show S1.n ≤ 256; omega) (by show (0 : Nat) < _; omega) (by omega)
    rw [show aName.data.toList = [97] from rfl, hS3] at happ3
    go_wp2_with fail
    refine happ3.mono ?_
    rintro e w13 ⟨rfl, hq13, hT13⟩
    have B13 : Below w.heap.size w w13 := B12.trans (hT13.below B12.size (fun k hk => (hG5 k hk).1))
    have hby13 : Bytes w13 a7 (x0.length + x1.length) (x0 ++ x1) := hT13.bytes hby12 (fun _ x hx h => hA7 x hx h)
    have hrd3 := read_any _ _ _ _ aName hq13 (by decide) (by rw [show aName.data.toList = [97] from rfl, hbs3]; simp; omega)
    rw [show aName.data.toList = [97] from rfl, hbs3] at hrd3
    clear happ3 hct hq12 hT13 hby12 hby710 hq10 hT12
    go_wp2_with fail
    refine hrd3.mono ?_
    rintro e w14 ⟨a14, c14, rfl, hown14, B14, hc14, hn14⟩
    have hby14 := (ownsRow_toBytes hown14).1
    have hby7' := (hby13.below B14).take (x0.length + j * 32) (by omega)
    have hlen14 : (x0 ++ x1.take (j * 32)).length = x0.length + j * 32 := by simp; omega
    rw [hlen14] at hby14
    have hB14w := below_more B13 B14
    have ii0 : (0 : Int) ≤ (x0.length : Int) + (j : Int) * 32 := by omega
    have hc7' : x0.length + x1.length ≤ c7 := by rw [List.length_append] at hc7; exact hc7
    have ii1 : (x0.length : Int) + (j : Int) * 32 ≤ (c7 : Int) := by omega
    go_wp2_with fail
    refine (equal_any w14 a14 a7 _ _ c14 c7 _ _ hby14 hby7').mono ?_
    rw [show decide (x0 ++ x1.take (j * 32) = (x0 ++ x1).take (x0.length + j * 32)) = true from by rw [List.take_length_add_append]; simp]
    rintro e w15 ⟨rfl, rfl⟩
    go_wp2_with fail
    refine (wakes_any _).mono ?_
    rintro e w16 ⟨rfl, B16⟩
    go_wp2
    go_ret
    exact ⟨rfl, below_more hB14w B16⟩

/-- a slice of bytes that came in -/
theorem bytes_arg {H : Type} {enc : TypeId × Value → H} {W : World} {base : Nat} {v : Value} {d : DataW H} {ps : List MemPlace} (hok : Value.okWide Try.prog W .any base 22 v)
    (h : DataW.Trod enc Try.prog W 0 (fun _ => true) true 22 v d ps) :
    ∃ a n cap l, v = .slice a n cap ∧ Bytes W a n l ∧ n ≤ cap ∧ (n = 0 ∨ ∃ el sp, d = .slice el sp ∧ n ≤ el.length + sp.length) := by
  obtain ⟨a, n, cap, rfl⟩ := okWide_slice Try.underlying22 hok
  obtain ⟨fuel, hf⟩ := h
  rcases open_ints Try.underlying22 Try.underlying5 (by kernel_rfl) hf with ⟨hcs, _⟩ | ⟨x, l, c, zs, hcs, _, hl, hm, hz, hx, hcell, hwz⟩
  · simp [Value.cells] at hcs
    obtain ⟨rfl, rfl, rfl⟩ := hcs
    exact ⟨none, 0, 0, [], rfl, ⟨rfl, fun h0 => by omega⟩, Nat.le_refl _, .inl rfl⟩
  · simp [Value.cells] at hcs
    obtain ⟨rfl, rfl, rfl⟩ := hcs
    simp only [Prod.mk.injEq] at hx
    simp only [if_true] at hz
    refine ⟨some x, n, cap, (zs.take n).map (fun z => UInt8.ofNat z.toNat), rfl, ⟨by simp; omega, fun h0 => ?_⟩, hl, .inr ⟨_, _, hx.1, ?_⟩⟩
    · obtain ⟨b, off, spot⟩ := x
      have hc := hcell 0 (by omega)
      have hspot : spot = none := by simpa [Addr.add] using World.cell?_spot hc
      subst hspot
      refine ⟨b, off, rfl, fun i hi => ?_⟩
      have hci := hcell i (by omega)
      rw [Addr.add_lit] at hci
      rw [hci]
      have hb : 0 ≤ zs.getD i 0 ∧ zs.getD i 0 ≤ 255 := by
        rw [List.getD_eq_getElem?_getD]
        exact range_u8 hwz i
      have e : bt ((zs.take n).map (fun z => UInt8.ofNat z.toNat)) i = zs.getD i 0 := by
        unfold bt
        have e1 : ((zs.take n).map (fun z => UInt8.ofNat z.toNat)).getD i 0 = UInt8.ofNat (zs.getD i 0).toNat := by
          simp [List.getD, hi, show i < zs.length by omega]
        rw [e1, UInt8.toNat_ofNat']
        omega
      rw [e]
    · simp [lits]; omega

theorem nil_arg {H : Type} {enc : TypeId × Value → H} {W : World} {n c : Nat} {d : DataW H} {ps : List MemPlace} (h : DataW.Trod enc Try.prog W 0 (fun _ => true) true 22 (.slice none n c) d ps) : n = 0 ∧ c = 0 := by
  obtain ⟨m, hm⟩ := h
  rcases open_ints Try.underlying22 Try.underlying5 (by kernel_rfl) hm with ⟨hcs, _⟩ | ⟨x, l, c, zs, hcs, _⟩
  · simp [Value.cells] at hcs
    exact hcs
  · simp [Value.cells] at hcs

set_option maxRecDepth 100000 in
theorem diskParts_lifted (os : Os) (started : os.Started) (H : Type) (enc : TypeId × Value → H) :
    ReturnsInHanded {} Try.checked os 5 .any (Rows.diskPartsSpec.pre6 enc Try.prog Try.f5 Rows.diskPartsRow.domain false) (Rows.diskPartsSpec.post enc Try.prog Try.f5 false true false false) := by
  refine returnsInHanded_of_change (C := Try.checked) own started (by kernel_rfl) Try.func5
    (ChangeSpec.witness6 (enc := enc) (C := Try.checked) false ⟨#[], #[.slice none 0 0, .slice none 0 0, .int .i64 0], []⟩ 8 (by kernel_rfl) (by kernel_rfl) (by kernel_rfl) (by kernel_rfl)) ?_
  intro W base args ds gs before hval0 hW hcnd _
  have hval : ∀ (j : Nat) t v, Try.f5.params[j]? = some t → args[j]? = some v → Value.okWide Try.prog W .any base t v := hval0
  have hW' := hW
  obtain ⟨p, q, hA0, hV, rfl, hfz, hnd⟩ := hW
  have hA : DataW.TrodAll enc Try.prog W 0 (fun _ => true) true Try.f5.params.toList args.toList ds p := hA0
  rw [Try.params5] at hA hval
  obtain ⟨v0, vs0, d0, ds0, p0, q0, hargs, rfl, rfl, h0, r0⟩ := trodAll_cons hA
  obtain ⟨v1, vs1, d1, ds1, p1, q1, rfl, rfl, rfl, h1, r1⟩ := trodAll_cons r0
  obtain ⟨v2, vs2, d2, ds2, p2, q2, rfl, rfl, rfl, h2, r2⟩ := trodAll_cons r1
  obtain ⟨rfl, rfl, rfl⟩ := trodAll_nil r2
  obtain rfl : args = #[v0, v1, v2] := by cases args; simp_all
  obtain ⟨rfl, rfl⟩ := trodVars_none hV
  have k0 := h0
  have k1 := h1
  have lt0 : ∀ x ∈ p0, x.block < W.heap.size := by obtain ⟨m, hm⟩ := k0; exact DataW.trod_lt m _ _ _ hm
  have lt1 : ∀ x ∈ p1, x.block < W.heap.size := by obtain ⟨m, hm⟩ := k1; exact DataW.trod_lt m _ _ _ hm
  obtain ⟨a0, n0, c0, l0, rfl, b0, hc0, _⟩ := bytes_arg (hval 0 22 v0 rfl rfl) h0
  obtain ⟨a1, n1, c1, l1, rfl, b1, hc1, _⟩ := bytes_arg (hval 1 22 v1 rfl rfl) h1
  obtain ⟨a2, rfl, rfl, rfl, w2⟩ := open_int Try.underlying3 (hval 2 3 v2 rfl rfl) h2
  clear hA0 hval0
  refine (diskParts_walk a0 a1 n0 c0 n1 c1 l0 l1 a2 W b0 b1 hc0 hc1 (fun e => by subst e; exact nil_arg k0) (fun e => by subst e; exact nil_arg k1)).mono fun e W' ⟨he, bel⟩ => ?_
  subst he
  exact ⟨_, rfl, _, _, _, [], _, [], hW', trodAll_mk1 (shut_bool Try.underlying4 _), trodAll_cons_mk (Below.trod laidOut (by kernel_rfl) (of_decide_eq_true (by kernel_rfl)) k0 bel lt0) (trodAll_cons_mk (Below.trod laidOut (by kernel_rfl) (of_decide_eq_true (by kernel_rfl)) k1 bel lt1) (trodAll_cons_mk (shut_int Try.underlying3 w2) trodAll_mk0)), rfl, bel.frame _, fun h => by cases h⟩

theorem diskParts_holds : Rows.DiskPartsSaid :=
  OpenClaim.holds_of_wide 5 Try.f5 rfl rfl rfl rfl rfl rfl rfl ⟨rfl, rfl, rfl, rfl, rfl⟩ rfl rfl rfl rfl rfl (by kernel_rfl) Try.func5 (by kernel_rfl)
    (of_decide_eq_true (by kernel_rfl)) (by unfold Func.isWrapper; first | (rw [if_pos (by decide +kernel)]; kernel_rfl) | (rw [if_neg (by decide +kernel)]; exact ⟨rfl, rfl⟩))
    (fun os started H enc _ => diskParts_lifted os started H enc)
#print axioms diskParts_holds

end Go.Proofs.Ytibnppclnapjkaa
