import Derived.Test.YthalpnpnbclipaaB47
import Derived.Test.YthalpnpnbclipaaB48
/- The walk of the law StoreBytes. -/
namespace Go.Proofs.Ythalpnpnbclipaa
open Go.RowKit Go.Shelf Go.Maps

attribute [local go_sem] Oper.semAt_some

theorem sfileB_le (rs : List (List UInt8)) (N : Nat) (h : ∀ r ∈ rs, r.length ≤ N) : (fileB rs).length ≤ rs.length * (N + 18) := by
  induction rs with
  | nil => simp [fileB]
  | cons r rs ih =>
    have h1 := ih (fun r hr => h r (by simp [hr]))
    have h2 := (recB_pos r).2
    have h3 := h r (by simp)
    have e : (fileB (r :: rs)).length = (recB r).length + (fileB rs).length := by simp [fileB]
    rw [e, List.length_cons, Nat.add_mul]
    omega
/-- what stands ahead of each round -/
structure BInv (w wr : World) (s d : Nat) (os : List Ob) (S : DG) (F G : Nat → Prop) (E : Nat → El) (k : Nat) : Prop where
  st : StG wr s d os S F G
  q : ∀ x, F x ∨ G x → w.heap.size ≤ x
  bel : Below w.heap.size w wr
  mem : ∀ p ∈ os, ∃ i, i < k ∧ p = .blob (E i).l ∧ (E i).l.length ≤ 4096
  len : os.length ≤ k
theorem BInv.fit {w wr : World} {s d : Nat} {os : List Ob} {S : DG} {F G : Nat → Prop} {E : Nat → El} {k : Nat} (h : BInv w wr s d os S F G E k) : (fileB (os.map obB)).length ≤ k * 4115 := by
  have h1 := sfileB_le (os.map obB) 4097 (fun r hr => by
    obtain ⟨p, hp, rfl⟩ := List.mem_map.1 hr
    obtain ⟨i, _, rfl, hl⟩ := h.mem p hp
    simp only [obB, List.length_cons]
    omega)
  rw [List.length_map] at h1
  exact Nat.le_trans h1 (Nat.mul_le_mul h.len (Nat.le_refl _))
/-- a store that a round has put something in -/
theorem BInv.next {w wr w5 w6 W : World} {s d : Nat} {os : List Ob} {S : DG} {F G : Nat → Prop} {E : Nat → El} {k : Nat} (h : BInv w wr s d os S F G E k) (hB5 : Below wr.heap.size wr w5) {os' : List Ob} {S' : DG} {F' G' : Nat → Prop} (hS : StG w6 s d os' S' F' G') (ho : os' = os ∨ os' = os ++ [.blob (E k).l]) (hl : (E k).l.length ≤ 4096)
    (hF : ∀ x, F' x → F x ∨ w5.heap.size ≤ x) (hG : ∀ x, G' x → G x ∨ w5.heap.size ≤ x) (hT : Turn (fun x => F x ∨ G x) w5 w6) (hW : Below w6.heap.size w6 W) : BInv w W s d os' S' F' G' E (k + 1) := by
  have hb := h.bel
  have s1 := hb.size
  have s2 := hB5.size
  have hB06 : Below w.heap.size w w6 := (hb.trans (hB5.mono s1)).trans (hT.below (by omega) h.q)
  refine ⟨hS.below hW, fun x hx => ?_, hB06.trans (hW.mono hB06.size), fun p hp => ?_, ?_⟩
  · rcases hx with hx | hx
    · exact (hF x hx).elim (fun e => h.q x (.inl e)) (fun e => by omega)
    · exact (hG x hx).elim (fun e => h.q x (.inr e)) (fun e => by omega)
  · rcases ho with rfl | rfl
    · obtain ⟨i, hi, e⟩ := h.mem p hp
      exact ⟨i, by omega, e⟩
    · rcases List.mem_append.1 hp with hp | hp
      · obtain ⟨i, hi, e⟩ := h.mem p hp
        exact ⟨i, by omega, e⟩
      · simp at hp
        exact ⟨k, by omega, hp, hl⟩
  · have := h.len
    rcases ho with rfl | rfl
    · omega
    · simp; omega

set_option maxRecDepth 100000 in
set_option maxHeartbeats 4000000 in
theorem storeBytes_walk (a : Option Addr) (n c : Nat) (E : Nat → El) (w : World) (hl : Lists w a n E) (hn : n ≤ maxLen) (hnc : n ≤ c) : Calls Try.prog 3 #[.slice a n c] w fun e w' => e = .returned (.bool true) ∧ Below w.heap.size w w' := by
  have hn' : n ≤ 9223372036854775807 := by unfold maxLen at hn; omega
  go_enter Try.func3, Try.ntmps3
  go_wp2_with fail
  refine (swakes_any _).mono ?_
  rintro e w1 ⟨rfl, B1⟩
  go_wp2_with fail
  refine (snew_any w1).mono ?_
  rintro e w2 ⟨rfl, G0, hd2, hG0, B2⟩
  have hx := sopen_good w2 _ [] _ G0 hd2 (JGd.new _) Pure.nil (by simp [fileB]) (by simp)
  clear hd2
  go_wp2_with fail
  refine hx.mono ?_
  clear hx
  rintro e w3 ⟨s, F, G, rfl, hS3, hT3, hF3, hG3⟩
  have B3 : Below w.heap.size w w3 := B1.trans ((B2.trans (hT3.below B2.size hG0)).mono B1.size)
  have s1 := B1.size
  have s2 := B2.size
  have Q3 : Hid (∀ k, F k ∨ G k → w.heap.size ≤ k) := fun k hk => hk.elim (fun h => by have := hF3 k h; omega) (fun h => (hG3 k h).elim (fun e => by have := hG0 k e; omega) (fun e => by omega))
  clear hT3 hF3 hG3 hG0 B2 B1
  go_wp2_with fail
  refine (swakes_any _).mono ?_
  rintro e w4 ⟨rfl, B4⟩
  have HI : Hid (BInv w w4 s (w1.heap.size + 1) [] ⟨fun _ => none, 0, 0, false, 0⟩ F G E 0) := ⟨hS3.below B4, Q3.out, B3.trans (B4.mono B3.size), by simp, by simp⟩
  clear hS3 B3 B4 Q3
  go_wp2_with fail
  go_loopw [44] (fun i wr => ∃ (k : Nat) (os : List Ob) (S : DG) (F G : Nat → Prop), k ≤ n ∧ k ≤ 40 ∧ i = .int .i64 k ∧ Hid (BInv w wr s (w1.heap.size + 1) os S F G E k)) (fun i _ => n - (intOf i).toNat)
  case atStart => exact ⟨0, [], _, F, G, Nat.zero_le _, by omega, rfl, HI⟩
  case round =>
    clear HI
    obtain ⟨k, os, S, F, G, hk, hk40, rfl, H⟩ := hrel
    by_cases hlt : k < n
    · obtain ⟨b, off, rfl, hc⟩ := hl.1 (by omega)
      obtain ⟨hbE, hmc, hnilE, hmx⟩ := hl.2 k hlt
      have hck : wr.cell? ⟨b, off + k, none⟩ = some (.slice (E k).x (E k).m (E k).c) := (H.out.bel.cell (p := ⟨b, off + k, none⟩) (World.block_lt_of_cell? w _ (hc k hlt))).trans (hc k hlt)
      obtain ⟨x, m, cx, lx, hE⟩ : ∃ x m cx lx, E k = ⟨x, m, cx, lx⟩ := ⟨_, _, _, _, rfl⟩
      rw [hE] at hck hbE hmc hnilE hmx
      simp only at hck hbE hmc hnilE hmx
      have Hb : Hid (Bytes w x m lx ∧ m ≤ cx ∧ (x = none → m = 0 ∧ cx = 0) ∧ (E k).l = lx) := ⟨hbE, hmc, hnilE, by rw [hE]⟩
      have i1 : (k : Int) < (n : Int) := by omega
      have hm' : m ≤ 9223372036854775807 := by unfold maxLen at hmx; omega
      have HC : Hid (∀ k, k < n → w.cell? ⟨b, off + k, none⟩ = some (.slice (E k).x (E k).m (E k).c)) := hc
      clear hc hE hbE hmc hnilE hmx
      by_cases h40 : k = 40
      · subst h40
        go_wp2_with fail
        go_ret
        exact ⟨rfl, H.out.bel⟩
      · have i40 : ¬ (k : Int) = 40 := by omega
        by_cases h4096 : 4096 < m
        · have i2 : (4096 : Int) < (m : Int) := by omega
          go_wp2_with fail
          go_ret
          exact ⟨rfl, H.out.bel⟩
        · have i2 : ¬ (4096 : Int) < (m : Int) := by omega
          have hba : Bytes (wr.alloc (.cells #[] 5)) x m lx := (Turn.of_below (fun _ => False) (H.out.bel.alloc H.out.bel.size _)).bytes Hb.out.1 (fun _ _ _ => id)
          go_wp2_with (at_builtin; refine wpList_append_row _ rfl _ _ rfl (.slice (some ⟨wr.heap.size, 0, none⟩) 0 0) 0 [] rfl (empty_row wr) x m cx lx rfl hba Hb.out.2.2.1 (by omega) ?_; intro v5 w5 hown5 hgr5 hat5; obtain ⟨a5, c5, rfl, hnc5, hnil5⟩ := ownsRow_shape' hown5)
          rw [Nat.zero_add] at hown5 hnc5 hnil5
          rw [List.nil_append] at hown5
          have hB5 : Below wr.heap.size wr w5 := ((Below.refl _ wr).alloc (Nat.le_refl _) _).grown hgr5 (by simp) (fun k hk => by cases hk; exact Nat.le_refl _)
          have hb5 := (ownsRow_toBytes hown5).1
          have hlx : lx.length = m := hb5.1
          have ha5 : 0 < m → ∀ y, a5 = some y → ¬ (F y.block ∨ G y.block) := fun _ y hy hq => by
            have h1 : y.block < wr.heap.size := hq.elim (fun h => H.out.st.st.lt _ h) (fun h => H.out.st.dk.lt _ h)
            rcases hat5 with e | e
            · rw [hy] at e
              simp [Value.ownBlock] at e
              omega
            · rw [hy] at e
              simp [Value.ownBlock] at e
              omega
          have HB5 : Hid (Below wr.heap.size wr w5 ∧ Bytes w5 a5 m lx ∧ (a5 = none → m = 0 ∧ c5 = 0)) := ⟨hB5, hb5, hnil5⟩
          have Hlx : Hid (lx.length = m) := hlx
          have hfit : (recB (98 :: lx)).length + (fileB (os.map obB)).length ≤ 4194304 := by
            have h1 := H.out.fit
            have h2 := (recB_pos (98 :: lx)).2
            have h3 : k * 4115 ≤ 40 * 4115 := Nat.mul_le_mul hk40 (Nat.le_refl _)
            simp only [List.length_cons] at h2
            omega
          have hol := H.out.len
          by_cases hcol : findO os (oid (.blob lx)) = none ∨ findO os (oid (.blob lx)) = some (.blob lx)
          · have hx6 := sput_two w5 s _ os S F G (H.out.st.below hB5) a5 m c5 lx hb5 hnil5 ha5 (by omega) hcol (by omega) hfit
            obtain ⟨I, hI⟩ : ∃ I, I = oid (.blob lx) := ⟨_, rfl⟩
            have HI : Hid (I = oid (.blob lx)) := hI
            rw [← hI] at hx6
            clear hown5 hgr5 hat5 hB5 hb5 hba hnil5 hnc5 hlx ha5 hfit hcol hI
            go_wp2_with fail
            refine hx6.mono ?_
            clear hx6
            rintro e w6 ⟨rfl, hT6, os6, S6, F6, G6, hS6, hf6, ho6, hF6, hG6⟩
            have H6 : Hid (StG w6 s (w1.heap.size + 1) os6 S6 F6 G6 ∧ findO os6 (oid (.blob lx)) = some (.blob lx)) := ⟨hS6, hf6⟩
            have HN : Hid (∀ W, Below w6.heap.size w6 W → BInv w W s (w1.heap.size + 1) os6 S6 F6 G6 E (k + 1)) := fun W hW => H.out.next HB5.out.1 hS6 (by rw [Hb.out.2.2.2]; exact ho6) (by rw [Hb.out.2.2.2, Hlx.out]; omega) hF6 hG6 hT6 hW
            clear hT6 hS6 hf6 ho6 hF6 hG6
            have hx7 := get_blob w6 s _ os6 _ _ F6 H6.out.1.st lx H6.out.2
            rw [← HI.out, Hlx.out] at hx7
            have q1 := as_blob
            have q2 : ∀ (v : Value) xT w, (Instr.typeAssert (.iface 36 v) xT 44 true).run Try.prog w = .ok (.tuple #[.agg #[.int .u64 0, .slice none 0 0, .string ⟨#[]⟩, .int .i64 0, .string ⟨#[]⟩], .bool false]) w := fun v => no_commit _ (by decide) v
            have HF6 : Hid (∀ W, Below w6.heap.size w6 W → IsSt W s (w1.heap.size + 1) os6 (fileB (os6.map obB)).length false F6 ∧ IsDisk W (w1.heap.size + 1) S6 G6) := fun W hW => ⟨H6.out.1.st.below hW, H6.out.1.dk.below hW⟩
            go_wp2_with fail
            refine hx7.mono ?_
            clear hx7
            rintro e w7 ⟨ga, gc, rfl, hy7, B7⟩
            obtain ⟨wB, hwB⟩ : ∃ wB, wB = (w7.alloc (.cells #[.slice ga m gc] 36)).alloc (.cells #[.int .u64 0, .slice none 0 0, .string ⟨#[]⟩, .int .i64 0, .string ⟨#[]⟩] 44) := ⟨_, rfl⟩
            have B7B : Below w7.heap.size w7 wB := by rw [hwB]; exact ((Below.refl _ w7).alloc (Nat.le_refl _) _).alloc (by simp) _
            have B6B : Below w6.heap.size w6 wB := B7.trans (B7B.mono B7.size)
            have bxB : Boxed wB w7.heap.size 36 (.slice ga m gc) := by rw [hwB]; exact (Boxed.new w7 _ _).alloc _
            have hx8 := sbytes_blob wB s _ os6 _ _ F6 (HF6.out wB B6B).1 lx H6.out.2
            rw [← HI.out, Hlx.out] at hx8
            have HK7 : Hid (Bytes wB ga m lx ∧ Boxed wB w7.heap.size 36 (.slice ga m gc) ∧ Below w6.heap.size w6 wB) := ⟨bytes_below hy7 B7B, bxB, B6B⟩
            clear hy7 B7 B7B B6B bxB
            go_wp2_with fail
            rw [← hwB]
            clear hwB
            refine hx8.mono ?_
            clear hx8
            rintro e w8 ⟨ra, rcp, rfl, hy8, B8⟩
            have B68 : Hid (Below w6.heap.size w6 w8) := HK7.out.2.2.trans (B8.mono HK7.out.2.2.size)
            have HK8 : Hid (Bytes w8 ga m lx ∧ Boxed w8 w7.heap.size 36 (.slice ga m gc) ∧ Bytes w8 ra (m + 1) (98 :: lx)) := ⟨bytes_below HK7.out.1 B8, (B8.block _ HK7.out.2.1.lt).trans HK7.out.2.1, hy8⟩
            clear hy8 B8 HK7
            have hwr8 := writes_any (w1.heap.size + 1) S6 G6 w8 (HF6.out w8 B68.out).2
            have B08 := (HN.out w8 B68.out).bel
            have hba8 : Bytes (w8.alloc (.cells #[] 5)) x m lx := (Turn.of_below (fun _ => False) (B08.alloc B08.size _)).bytes Hb.out.1 (fun _ _ _ => id)
            clear B08
            go_wp2_with first
              | (go_at_call 10; refine hwr8.mono ?_; clear hwr8; rintro e w9 ⟨rfl, h9⟩; have h9' := h9.symm; clear h9; subst h9')
              | (at_builtin; refine wpList_append_row _ rfl _ _ rfl (.slice (some ⟨w8.heap.size, 0, none⟩) 0 0) 0 [] rfl (empty_row w8) x m cx lx rfl hba8 Hb.out.2.2.1 (by omega) ?_; intro v9 w9 hown9 hgr9 _; obtain ⟨a9, c9, rfl, _, hnil9⟩ := ownsRow_shape' hown9)
            rw [Nat.zero_add] at hown9 hnil9
            rw [List.nil_append] at hown9
            have B89 : Below w8.heap.size w8 w9 := ((Below.refl _ w8).alloc (Nat.le_refl _) _).grown hgr9 (by simp) (fun k hk => by cases hk; exact Nat.le_refl _)
            have B69 : Below w6.heap.size w6 w9 := B68.out.trans (B89.mono B68.out.size)
            have hx10 := sput_same w9 s _ os6 _ _ F6 (HF6.out w9 B69).1 a9 m c9 lx (ownsRow_toBytes hown9).1 hnil9 (by omega) H6.out.2
            rw [← HI.out] at hx10
            have HK9 : Hid (Bytes w9 ga m lx ∧ Boxed w9 w7.heap.size 36 (.slice ga m gc) ∧ Bytes w9 ra (m + 1) (98 :: lx) ∧ Below w6.heap.size w6 w9) := ⟨bytes_below HK8.out.1 B89, (B89.block _ HK8.out.2.1.lt).trans HK8.out.2.1, bytes_below HK8.out.2.2 B89, B69⟩
            clear hown9 hgr9 hnil9 B89 B69 HK8 B68 hba8
            go_wp2_with fail
            refine hx10.mono ?_
            clear hx10
            rintro e w10 ⟨rfl, B10⟩
            have B610 : Hid (Below w6.heap.size w6 w10) := HK9.out.2.2.2.trans (B10.mono HK9.out.2.2.2.size)
            have bx10 : Boxed w10 w7.heap.size 36 (.slice ga m gc) := (B10.block _ HK9.out.2.1.lt).trans HK9.out.2.1
            have cb10 := bx10.cell
            have r1 := run_string w10 ga m gc lx (bytes_below HK9.out.1 B10)
            have r2 := run_string w10 x m cx lx ((Turn.of_below (fun _ => False) (HN.out w10 B610.out).bel).bytes Hb.out.1 (fun _ _ _ => id))
            have hid : Calls Try.prog 11 #[.slice ra (m + 1) rcp] w10 fun e w' => e = .returned (.int .u64 I) ∧ w' = w10 := by
              rw [HI.out]
              exact Id_any ra (m + 1) rcp (98 :: lx) w10 (bytes_below HK9.out.2.2.1 B10) (by unfold maxLen; omega)
            have hwr10 := writes_any (w1.heap.size + 1) S6 G6 w10 (HF6.out w10 B610.out).2
            clear bx10 B10 HK9
            go_wp2_with first
              | (go_at_call 11; refine hid.mono ?_; clear hid; rintro e w11 ⟨rfl, h11⟩; have h11' := h11.symm; clear h11; subst h11')
              | (go_at_call 10; refine hwr10.mono ?_; clear hwr10; rintro e w12 ⟨rfl, h12⟩; have h12' := h12.symm; clear h12; subst h12')
            go_roundw
            case rel => exact ⟨k + 1, os6, S6, F6, G6, by omega, by omega, by go_num, HN.out w10 B610.out⟩
            case measure => simp [intOf]; omega
          · obtain ⟨p, hp⟩ : ∃ p, findO os (oid (.blob lx)) = some p := by
              cases h : findO os (oid (.blob lx)) with
              | none => exact absurd (.inl h) hcol
              | some p => exact ⟨p, rfl⟩
            have hpne : p ≠ .blob lx := fun e => hcol (.inr (by rw [hp, e]))
            have HT : Hid (∃ i, i < k ∧ (E i).l ≠ lx) := by
              obtain ⟨i, hi, e, _⟩ := H.out.mem p (findO_mem hp).1
              exact ⟨i, hi, fun e' => hpne (by rw [e, e'])⟩
            have hx6 := sput_other w5 s _ os _ _ F (H.out.st.st.below hB5) a5 m c5 lx hb5 hnil5 (by omega) p hp hpne
            have i7 : (k : Int) ≤ (c : Int) := by omega
            have i8 : k ≤ c := by omega
            clear hown5 hgr5 hat5 hB5 hb5 hba hnil5 hnc5 hlx ha5 hfit hcol hp hpne
            go_wp2_with fail
            refine hx6.mono ?_
            clear hx6
            rintro e w6 ⟨rfl, B6⟩
            have B06 : Hid (Below w.heap.size w w6) := (H.out.bel.trans (HB5.out.1.mono H.out.bel.size)).trans (B6.mono (Nat.le_trans H.out.bel.size HB5.out.1.size))
            clear B6
            have HSt : Hid (∀ (W : World) q, Below w.heap.size w W → q < n → Bytes W (E q).x (E q).m (E q).l ∧ W.cell? ⟨b, off + q, none⟩ = some (.slice (E q).x (E q).m (E q).c)) := fun W q hB hq => ⟨(Turn.of_below (fun _ => False) hB).bytes (hl.2 q hq).1 (fun _ _ _ => id), (hB.cell (p := ⟨b, off + q, none⟩) (World.block_lt_of_cell? w _ (HC.out q hq))).trans (HC.out q hq)⟩
            go_wp2_with fail
            go_loopw [10, 72] (fun t i wr2 => ∃ (q : Nat) (th : Bool), q ≤ k ∧ i = .int .i64 q ∧ t = .bool th ∧ Hid (Below w.heap.size w wr2) ∧ Hid (th = true ↔ ∃ i, i < q ∧ (E i).l ≠ lx)) (fun _ i _ => k - (intOf i).toNat)
            case atStart => exact ⟨0, false, Nat.zero_le _, rfl, rfl, B06.out, ⟨fun h => (by cases h), fun ⟨i, hi, _⟩ => (by omega)⟩⟩
            case round =>
              obtain ⟨q, th, hq, rfl, rfl, HB, HTH⟩ := hrel
              by_cases hqk : q < k
              · obtain ⟨hyq, hcq⟩ := HSt.out wr q HB.out (by omega)
                have r1 := run_string wr (E q).x (E q).m (E q).c (E q).l hyq
                have r2 := run_string wr x m cx lx ((Turn.of_below (fun _ => False) HB.out).bytes Hb.out.1 (fun _ _ _ => id))
                have i9 : (q : Int) < (k : Int) := by omega
                have HTq : Hid ((th = true ↔ ∃ i, i < q ∧ (E i).l ≠ lx)) := HTH.out
                have hEm : (E q).m ≤ 9223372036854775807 := by have := (hl.2 q (by omega)).2.2.2; unfold maxLen at this; omega
                clear hyq HTH
                generalize hEx : (E q).x = xq at *
                generalize hEm' : (E q).m = mq at *
                generalize hEc : (E q).c = cq at *
                generalize hEl : (E q).l = lq at *
                have HEl : Hid ((E q).l = lq) := hEl
                clear hEx hEm' hEc hEl
                cases th
                · go_wp2_with fail
                  go_roundw
                  case rel =>
                    refine ⟨q + 1, _, by omega, by go_num, rfl, HB, ?_⟩
                    have h0 := HTq.out
                    have h2 := HEl.out
                    constructor
                    · intro h
                      refine ⟨q, by omega, fun e => ?_⟩
                      rw [h2] at e
                      rw [e] at h
                      simp at h
                    · rintro ⟨i, hi, hne⟩
                      have hiq : i = q := by
                        by_cases e : i = q
                        · exact e
                        · exact absurd (h0.2 ⟨i, by omega, hne⟩) (by decide)
                      subst hiq
                      rw [h2] at hne
                      simpa using hne
                  case measure => simp [intOf]; omega
                · go_wp2_with fail
                  go_roundw
                  case rel =>
                    refine ⟨q + 1, true, by omega, by go_num, rfl, HB, ⟨fun _ => ?_, fun _ => rfl⟩⟩
                    obtain ⟨i, hi, h⟩ := HTq.out.1 rfl
                    exact ⟨i, by omega, h⟩
                  case measure => simp [intOf]; omega
              · obtain rfl : q = k := by omega
                have hth : th = true := HTH.out.2 HT.out
                subst hth
                go_wp2_with fail
                go_ret
                exact ⟨rfl, HB.out⟩
    · obtain rfl : k = n := by omega
      go_wp2_with fail
      go_ret
      exact ⟨rfl, H.out.bel⟩
end Go.Proofs.Ythalpnpnbclipaa
