import Derived.Test.YtiafhbpklddlnaaGreatDoorE37
import Derived.Test.YtiafhbpklddlnaaGreatDoorE44
import Derived.Test.YtiafhbpklddlnaaGreatDoorE48
import Derived.Test.YtiafhbpklddlnaaGreatDoorE22
import Derived.Test.YtiafhbpklddlnaaGreatDoorRows
import Derived.Test.YtiafhbpklddlnaaGreatDoorTie
import Derived.Test.YtiafhbpklddlnaaGreatDoorCards
import Derived.Lay
import Derived.LaidOnce
import Derived.SevenTiedAt
/- The walk of the law RefsOpens. -/
namespace Go.Proofs.YtiafhbpklddlnaaGreatDoor
open Go.RowKit Go.Shelf Go.Maps

attribute [local go_sem] Oper.semAt_some

/-- a disk with one file of these bytes -/
def D1R (l : List UInt8) : DG := DG.add { f := fun _ => none, n := 0, wr := 0 + (if l = [] then 1 else (l.length + 31) / 32), cut := false, left := 0 } refNm.data.toList l
theorem D1R_app (l : List UInt8) (hl : l.length ≤ 4194304) : DG.app ⟨fun _ => none, 0, 0, false, 0⟩ refNm.data.toList l = (D1R l, 0) := by
  unfold DG.app
  rw [if_neg (by decide), if_neg (by simp [DG.bs]; omega), if_neg (by simp), pieces_free _ _ _ _ rfl (Nat.le_refl _)]
  rfl
theorem D1R_f (l : List UInt8) : (D1R l).f refNm.data.toList = some l := by
  unfold D1R DG.add DG.set; simp
theorem D1R_bs (l : List UInt8) : (D1R l).bs refNm.data.toList = l := by unfold DG.bs; rw [D1R_f]; rfl
theorem D1R_n (l : List UInt8) : (D1R l).n = 1 := by unfold D1R DG.add DG.set; simp
theorem D1R_cut (l : List UInt8) : (D1R l).cut = false := rfl
theorem D1R_wr (l : List UInt8) : (D1R l).wr ≤ l.length + 1 := by
  show 0 + (if l = [] then 1 else (l.length + 31) / 32) ≤ _
  split
  · omega
  · rename_i h
    have : 0 < l.length := List.length_pos_iff.2 h
    omega
theorem D1R_wrong (l : List UInt8) (h : (parseL l).2.2 = true) : (D1R l).opened refNm.data.toList = (D1R l, 8) := by
  unfold DG.opened; rw [D1R_bs, if_pos h]
theorem D1R_right (l : List UInt8) (h : (parseL l).2.2 = false) : ((D1R l).opened refNm.data.toList).2 = 0 ∧ ((D1R l).opened refNm.data.toList).1.bs refNm.data.toList = l.take (parseL l).2.1 ∧ ((D1R l).opened refNm.data.toList).1.err refNm.data.toList = 0 := by
  have hle := parseL_len l
  unfold DG.opened
  rw [D1R_bs, if_neg (by rw [h]; decide)]
  split
  · rename_i hlt
    rw [trunc_err (D1R l) _ _ (by rw [D1R_bs]; omega) (by rw [D1R_bs]; exact hlt), if_pos (by rfl), D1R_bs]
    refine ⟨rfl, ?_, ?_⟩
    · unfold DG.bs DG.set; simp
    · unfold DG.err DG.set; simp
  · rename_i hlt
    refine ⟨rfl, ?_, ?_⟩
    · show (D1R l).bs _ = _
      rw [D1R_bs, List.take_of_length_le (by omega)]
    · show (D1R l).err _ = _
      unfold DG.err; rw [D1R_f]; rfl

theorem run_min4 (ty : TypeId) (n k : Nat) (w : World) : (Builtin.min_ #[3, 3] ty #[.int .i64 (n : Int), .int .i64 (k : Int)]).run Tryz.prog w = .ok (.int .i64 ((min n k : Nat) : Int)) w := by
  have hm : (min n k : Nat) = if k < n then k else n := by split <;> omega
  rw [hm]
  by_cases hkn : k < n
  · have i1 : (k : Int) < (n : Int) := by omega
    rw [if_pos hkn]
    simp [Builtin.min_, Builtin.min2, go_sem, i1]
  · have i1 : ¬ (k : Int) < (n : Int) := by omega
    rw [if_neg hkn]
    simp [Builtin.min_, Builtin.min2, go_sem, i1]
theorem wpList_min4 (w : World) {ops : Array Oper} {rest : List Oper} {o : Oper} {a : Act} {Q : Exit → Act → World → Prop} (hgd : o.guard = none) (x y : Operand)
    (ho : o.op = .call { callee := .builtin .min, args := #[x, y], argTypes := #[3, 3] }) (n k : Nat) (K : Int) (hx : a.eval x = .int .i64 (n : Int)) (hy : a.eval y = .int .i64 K) (hk : K = (k : Int))
    (h : wpList Tryz.prog ops Q rest (a.put o.dst (.int .i64 ((min n k : Nat) : Int))) w) : wpList Tryz.prog ops Q (o :: rest) a w := by
  refine wpList_plain hgd fun K hK => ?_
  subst hk
  unfold Oper.wp execOp
  simp only [ho, resolve, invoke, builtin, Sem.run_bind, Sem.run_pure, Result.andThen_ok, List.map_toArray, List.map_cons, List.map_nil, hx, hy, run_min4]
  exact hK _ _ h

theorem strs_three (W : World) (a b c : ByteArray) : StrsR (W.alloc (.cells #[.string a, .string b, .string c] 9)) (some ⟨W.heap.size, 0, none⟩) 3 [a, b, c] := by
  refine ⟨rfl, fun _ => ⟨W.heap.size, 0, rfl, fun j x hx => ?_⟩⟩
  have hb := World.alloc_heap_new W (.cells #[.string a, .string b, .string c] 9)
  match j, hx with
  | 0, hx => simp at hx; subst hx; simp only [World.cell?, hb]; rfl
  | 1, hx => simp at hx; subst hx; simp only [World.cell?, hb]; rfl
  | 2, hx => simp at hx; subst hx; simp only [World.cell?, hb]; rfl
  | j + 3, hx => simp at hx

theorem decOkR (l : List UInt8) (hl : l.length ≤ 4000) : DecOk decRf (parseL ((D1R l).bs refNm.data.toList)).1 := by
  rw [D1R_bs]
  exact decOk _ (fun p hp => by have := parse_mem hp; omega)
/-- the program's Open on a file of these bytes, where they are wrong -/
theorem ropen_wrong (l : List UInt8) (hl : l.length ≤ 4000) (hbad : (parseL l).2.2 = true ∨ loadR decRf (parseL l).1 noR = none) (W : World) (d : Nat) (G : Nat → Prop) (hd : IsDisk W d (D1R l) G) :
    Calls Tryz.prog 7 #[.pointer (some ⟨d, 0, none⟩)] W fun e w' => e = .returned (.tuple #[.pointer none, .int .i64 8]) ∧ Turn G W w' := by
  have hwr := D1R_wr l
  have hn := D1R_n l
  refine (ropen_any W d (D1R l) G decRf (decOkR l hl) hd (by rw [D1R_bs]; omega) (by omega) (by unfold maxLen; omega)).mono ?_
  rintro e w' ⟨hT, G', hd', hG', hc⟩
  by_cases hw : (parseL l).2.2 = true
  · rw [D1R_wrong l hw] at hc
    rcases hc with ⟨_, he⟩ | ⟨h0, _⟩ | ⟨h0, _⟩
    · exact ⟨he, hT⟩
    · exact absurd h0 (by simp)
    · exact absurd h0 (by simp)
  · have hw' : (parseL l).2.2 = false := by simpa using hw
    have h8 := (D1R_right l hw').1
    rw [D1R_bs] at hc
    rcases hc with ⟨h0, _⟩ | ⟨_, _, he⟩ | ⟨_, g, n, r, j, b, M, FJ, F, h1, _⟩
    · exact absurd h8 h0
    · exact ⟨he, hT⟩
    · rcases hbad with hb | hb
      · exact absurd hb hw
      · rw [hb] at h1; cases h1
/-- and where they are right -/
theorem ropen_right (l : List UInt8) (hl : l.length ≤ 4000) (hw : (parseL l).2.2 = false) (g : List UInt8 → Int) (n : Nat) (hld : loadR decRf (parseL l).1 noR = some (g, n)) (W : World) (d : Nat) (G : Nat → Prop) (hd : IsDisk W d (D1R l) G) :
    Calls Tryz.prog 7 #[.pointer (some ⟨d, 0, none⟩)] W fun e w' => ∃ r j b M FJ F G' S', e = .returned (.tuple #[.pointer (some ⟨r, 0, none⟩), .int .i64 0]) ∧ Turn G W w' ∧ IsDisk w' d S' G' ∧ S'.bs refNm.data.toList = l.take (parseL l).2.1 ∧ S'.err refNm.data.toList = 0 ∧ RfAt w' r d j b M (parseL l).1 g n (parseL l).2.1 false FJ F := by
  have hwr := D1R_wr l
  have hn := D1R_n l
  refine (ropen_any W d (D1R l) G decRf (decOkR l hl) hd (by rw [D1R_bs]; omega) (by omega) (by unfold maxLen; omega)).mono ?_
  rintro e w' ⟨hT, G', hd', hG', hc⟩
  obtain ⟨h8, hbs, her⟩ := D1R_right l hw
  rw [D1R_bs] at hc
  rcases hc with ⟨h0, _⟩ | ⟨_, h1, _⟩ | ⟨_, g', n', r, j, b, M, FJ, F, h1, _, he, hR, _⟩
  · exact absurd h8 h0
  · rw [hld] at h1; cases h1
  · rw [hld] at h1
    cases h1
    exact ⟨r, j, b, M, FJ, F, G', _, he, hT, hd', hbs, her, hR⟩
theorem dopen_wrong (l : List UInt8) (hbad : (parseL l).2.2 = true ∨ loadR decRf (parseL l).1 noR = none) (W : World) (a : Option Addr) (M c : Nat) (hb : Bytes W a M l) (hMc : M ≤ c) (hcm : c ≤ maxLen) (hM : M ≤ 4000) :
    Calls Tryz.prog 17 #[.slice a M c] W fun e w' => (∃ oa on oc z, e = .returned (.tuple #[.agg #[.slice oa on oc], .int .i64 z, .bool false])) ∧ Below W.heap.size W w' := by
  refine (dopen_any W a M c l hb hMc hcm hM).mono ?_
  rintro e w' ⟨hB, ⟨_, he⟩ | ⟨h0, g, n, oa, oc, O, h1, _⟩⟩
  · exact ⟨he, hB⟩
  · rcases hbad with h | h
    · rw [h] at h0; cases h0
    · rw [h] at h1; cases h1
theorem dopen_right (l : List UInt8) (hw : (parseL l).2.2 = false) (g : List UInt8 → Int) (n : Nat) (hld : loadR decRf (parseL l).1 noR = some (g, n)) (W : World) (a : Option Addr) (M c : Nat) (hb : Bytes W a M l) (hMc : M ≤ c) (hcm : c ≤ maxLen) (hM : M ≤ 4000) :
    Calls Tryz.prog 17 #[.slice a M c] W fun e w' => ∃ oa oc O, e = .returned (.tuple #[.agg #[.slice oa (List.length O) oc], .int .i64 ((parseL l).2.1 : Int), .bool true]) ∧ AllR g n O ∧ NamesR g n ∧ Chs w' oa O.length O ∧ Below W.heap.size W w' := by
  refine (dopen_any W a M c l hb hMc hcm hM).mono ?_
  rintro e w' ⟨hB, ⟨h0, _⟩ | ⟨_, g', n', oa, oc, O, h1, he, hA, hN, hC⟩⟩
  · rcases h0 with h | h
    · rw [hw] at h; cases h
    · rw [hld] at h; cases h
  · rw [hld] at h1
    cases h1
    exact ⟨oa, oc, O, he, hA, hN, hC, hB⟩

set_option maxRecDepth 100000 in
set_option maxHeartbeats 8000000 in
theorem refsOpens_walk (w : World) (a : Option Addr) (n c : Nat) (l0 : List UInt8) (hb : Bytes w a n l0) (hc : n ≤ c) (hcm : c ≤ maxLen) (hnil : a = none → n = 0 ∧ c = 0) :
    Calls Tryz.prog 4 #[.slice a n c] w fun e w' => e = .returned (.bool true) ∧ Below w.heap.size w w' := by
  have hwk := rwakes_any
  have hnw := new_any
  have hcm' : c ≤ 9223372036854775807 := by unfold maxLen at hcm; omega
  obtain ⟨M, hM⟩ : ∃ M, M = min n 4000 := ⟨_, rfl⟩
  obtain ⟨l, hl⟩ : ∃ l, l = l0.take M := ⟨_, rfl⟩
  have hbl : Bytes w a M l := by rw [hl]; exact hb.take M (by omega)
  have HM : Hid (M = min n 4000) := hM
  have hMc : M ≤ c := by omega
  have hM4 : M ≤ 4000 := by omega
  have hMn : M ≤ n := by omega
  have HG : Hid (Bytes w a M l ∧ (a = none → M = 0 ∧ c = 0) ∧ c ≤ maxLen ∧ l.length = M) := ⟨hbl, fun h => ⟨by have := (hnil h).1; omega, (hnil h).2⟩, hcm, hbl.1⟩
  have hap := fun W d S G (hB : Below w.heap.size w W) (hd : IsDisk W d S G) (hG : ∀ k, G k → w.heap.size ≤ k) (hbs : (S.bs refNm.data.toList).length ≤ 4194304) (hn : S.n ≤ 256) (hw : S.wr < 4000000000000000000) => append_any d S G W refNm a M c l hd (by decide) ((Turn.of_below (fun _ => False) hB).bytes hbl (fun _ _ _ => id)) hMc HG.out.2.1 (fun h0 x hx => by
    obtain ⟨b', off, e, hcell⟩ := hbl.2 h0
    rw [hx] at e; cases e
    have hlt := World.block_lt_of_cell? w _ (hcell 0 h0)
    have hlt' : b' < w.heap.size := hlt
    have := hB.size
    exact ⟨fun e => by have := hG _ e; simp only at this; omega, by show b' < W.heap.size; omega⟩) hbs hn hw (by omega)
  have HAP : Hid _ := hap
  clear hap hM hl hbl hb hnil hcm
  go_enter Tryz.func4, Tryz.ntmps4
  by_cases hbad : (parseL l).2.2 = true ∨ loadR decRf (parseL l).1 noR = none
  · have HOP : Hid (∀ W d G, IsDisk W d (D1R l) G → Calls Tryz.prog 7 #[.pointer (some ⟨d, 0, none⟩)] W fun e w' => e = .returned (.tuple #[.pointer none, .int .i64 8]) ∧ Turn G W w') := fun W d G hd => ropen_wrong l (by have := HG.out.2.2.2; omega) hbad W d G hd
    have HDO : Hid (∀ W, Below w.heap.size w W → Calls Tryz.prog 17 #[.slice a M c] W fun e w' => (∃ oa on oc z, e = .returned (.tuple #[.agg #[.slice oa on oc], .int .i64 z, .bool false])) ∧ Below W.heap.size W w') := fun W hB => dopen_wrong l hbad W a M c ((Turn.of_below (fun _ => False) hB).bytes HG.out.1 (fun _ _ _ => id)) hMc HG.out.2.2.1 hM4
    clear hbad
    go_wp2_with first
      | (go_at_call 5; refine (hwk _).mono ?_; rintro e w1 ⟨rfl, B1⟩)
      | (refine wpList_min4 _ rfl _ _ rfl n 4000 _ rfl rfl rfl ?_; rw [← HM.out])
      | (go_at_call 6; refine (hnw _).mono ?_; clear hnw; rintro e w2 ⟨rfl, hd2, B2⟩; have hx3 := HAP.out w2 _ _ _ (B1.trans (B2.mono B1.size)) hd2 (fun k hk => by have := B1.size; rcases hk with rfl | rfl <;> omega) (by simp [DG.bs]) (by simp) (by simp); rw [D1R_app l (by have := HG.out.2.2.2; omega)] at hx3)
      | (go_at_call 16; refine hx3.mono ?_; clear hx3; rintro e w3 ⟨rfl, hd3, hT3⟩; have HB3 : Hid (Below w.heap.size w w3 ∧ ∀ k, grow (fun k => k = w1.heap.size ∨ k = w1.heap.size + 1) w2 w3 k → w.heap.size ≤ k) := ⟨(B1.trans (B2.mono B1.size)).trans (hT3.below (Nat.le_trans B1.size B2.size) (fun k hk => by have := B1.size; rcases hk with rfl | rfl <;> omega)), fun k hk => by have := B1.size; have := B2.size; rcases hk with (rfl | rfl) | h <;> first | omega | (have := h.1; omega)⟩; have HD3 : Hid (IsDisk w3 (w1.heap.size + 1) (D1R l) (grow (fun k => k = w1.heap.size ∨ k = w1.heap.size + 1) w2 w3)) := hd3; clear hd3 hT3 B1 B2 hd2)
      | (go_at_call 7; refine (HOP.out _ _ _ HD3.out).mono ?_; clear HOP; rintro e w4 ⟨rfl, hT4⟩; have HB4 : Hid (Below w.heap.size w w4) := HB3.out.1.trans (hT4.below HB3.out.1.size HB3.out.2); clear hT4 HD3 HB3)
      | (go_at_call 17; refine (HDO.out _ HB4.out).mono ?_; clear HDO; rintro e w5 ⟨⟨oa, on, oc, z, rfl⟩, hB5⟩; have HB5 : Hid (Below w.heap.size w w5) := HB4.out.trans (hB5.mono HB4.out.size); clear hB5 HB4)
    have hBa : Below w.heap.size w (w5.alloc (.cells #[.slice oa on oc] 32)) := HB5.out.alloc HB5.out.size _
    go_ret
    exact ⟨rfl, hBa.trans (B1.mono hBa.size)⟩
  · obtain ⟨hw0, g, n0, hld⟩ : (parseL l).2.2 = false ∧ ∃ g n0, loadR decRf (parseL l).1 noR = some (g, n0) := by
      refine ⟨by cases h : (parseL l).2.2 with | false => rfl | true => exact absurd (.inl h) hbad, ?_⟩
      cases h : loadR decRf (parseL l).1 noR with
      | none => exact absurd (.inr h) hbad
      | some q => exact ⟨q.1, q.2, rfl⟩
    obtain ⟨sz, hsz⟩ : ∃ sz, sz = (parseL l).2.1 := ⟨_, rfl⟩
    have hszM : sz ≤ M := by have := parseL_len l; have := HG.out.2.2.2; omega
    have HOP : Hid (∀ W d G, IsDisk W d (D1R l) G → Calls Tryz.prog 7 #[.pointer (some ⟨d, 0, none⟩)] W fun e w' => ∃ r j b M FJ F G' S', e = .returned (.tuple #[.pointer (some ⟨r, 0, none⟩), .int .i64 0]) ∧ Turn G W w' ∧ IsDisk w' d S' G' ∧ S'.bs refNm.data.toList = l.take sz ∧ S'.err refNm.data.toList = 0 ∧ RfAt w' r d j b M (parseL l).1 g n0 sz false FJ F) := fun W d G hd => by
      have := ropen_right l (by have := HG.out.2.2.2; omega) hw0 g n0 hld W d G hd
      rw [← hsz] at this
      exact this
    have HDO : Hid (∀ W, Below w.heap.size w W → Calls Tryz.prog 17 #[.slice a M c] W fun e w' => ∃ oa oc O, e = .returned (.tuple #[.agg #[.slice oa (List.length O) oc], .int .i64 (sz : Int), .bool true]) ∧ AllR g n0 O ∧ NamesR g n0 ∧ Chs w' oa O.length O ∧ Below W.heap.size W w') := fun W hB => by
      have := dopen_right l hw0 g n0 hld W a M c ((Turn.of_below (fun _ => False) hB).bytes HG.out.1 (fun _ _ _ => id)) hMc HG.out.2.2.1 hM4
      rw [← hsz] at this
      exact this
    have hlk : (l.take sz).length = sz := by rw [List.length_take, HG.out.2.2.2]; omega
    generalize (parseL l).1 = rs at *
    clear hbad hw0 hld hsz
    have k1 : (sz : Int) ≤ (c : Int) := by omega
    have k2 : sz ≤ c := by omega
    go_wp2_with first
      | (go_at_call 5; refine (hwk _).mono ?_; rintro e w1 ⟨rfl, B1⟩)
      | (refine wpList_min4 _ rfl _ _ rfl n 4000 _ rfl rfl rfl ?_; rw [← HM.out])
      | (go_at_call 6; refine (hnw _).mono ?_; clear hnw; rintro e w2 ⟨rfl, hd2, B2⟩; have hx3 := HAP.out w2 _ _ _ (B1.trans (B2.mono B1.size)) hd2 (fun k hk => by have := B1.size; rcases hk with rfl | rfl <;> omega) (by simp [DG.bs]) (by simp) (by simp); rw [D1R_app l (by have := HG.out.2.2.2; omega)] at hx3)
      | (go_at_call 16; refine hx3.mono ?_; clear hx3; rintro e w3 ⟨rfl, hd3, hT3⟩; have HB3 : Hid (Below w.heap.size w w3 ∧ ∀ k, grow (fun k => k = w1.heap.size ∨ k = w1.heap.size + 1) w2 w3 k → w.heap.size ≤ k) := ⟨(B1.trans (B2.mono B1.size)).trans (hT3.below (Nat.le_trans B1.size B2.size) (fun k hk => by have := B1.size; rcases hk with rfl | rfl <;> omega)), fun k hk => by have := B1.size; have := B2.size; rcases hk with (rfl | rfl) | h <;> first | omega | (have := h.1; omega)⟩; have HD3 : Hid (IsDisk w3 (w1.heap.size + 1) (D1R l) (grow (fun k => k = w1.heap.size ∨ k = w1.heap.size + 1) w2 w3)) := hd3; clear hd3 hT3 B1 B2 hd2)
      | (go_at_call 7; refine (HOP.out _ _ _ HD3.out).mono ?_; clear HOP; rintro e w4 ⟨r, j, b, M', FJ, F, G', S', rfl, hT4, hd4, hbs4, her4, hR4⟩; have HB4 : Hid (Below w.heap.size w w4) := HB3.out.1.trans (hT4.below HB3.out.1.size HB3.out.2); have HR4 : Hid (RfAt w4 r (w1.heap.size + 1) j b M' rs g n0 sz false FJ F ∧ IsDisk w4 (w1.heap.size + 1) S' G' ∧ S'.bs refNm.data.toList = l.take sz ∧ S'.err refNm.data.toList = 0) := ⟨hR4, hd4, hbs4, her4⟩; clear hT4 HD3 HB3 hd4 hbs4 her4 hR4)
      | (go_at_call 17; refine (HDO.out _ HB4.out).mono ?_; clear HDO; rintro e w5 ⟨oa, oc, O, rfl, hA5, hN5, hC5, hB5⟩; have HB5 : Hid (Below w.heap.size w w5 ∧ RfAt w5 r (w1.heap.size + 1) j b M' rs g n0 sz false FJ F ∧ IsDisk w5 (w1.heap.size + 1) S' G' ∧ Chs w5 oa O.length O ∧ AllR g n0 O ∧ NamesR g n0) := ⟨HB4.out.trans (hB5.mono HB4.out.size), HR4.out.1.below hB5, HR4.out.2.1.turn (Turn.of_below (fun _ => False) hB5) (fun _ _ => id), hC5, hA5, hN5⟩; clear hB5 HB4 hA5 hN5 hC5)
    obtain ⟨w6, hw6⟩ : ∃ w6, w6 = w5.alloc (.cells #[.slice oa O.length oc] 32) := ⟨_, rfl⟩
    generalize w1.heap.size + 1 = d at *
    have H6 : Hid (Below w.heap.size w w6 ∧ RfAt w6 r d j b M' rs g n0 sz false FJ F ∧ IsDisk w6 d S' G' ∧ Chs w6 oa O.length O ∧ Boxed w6 w5.heap.size 32 (.slice oa O.length oc)) := by
      have B6 : Below w5.heap.size w5 w6 := by rw [hw6]; exact (Below.refl _ _).alloc (Nat.le_refl _) _
      obtain ⟨h1, h2, h3, h4, _⟩ := HB5.out
      exact ⟨h1.trans (B6.mono h1.size), h2.below B6, h3.turn (Turn.of_below (fun _ => False) B6) (fun _ _ => id), h4.kept B6, by rw [hw6]; exact Boxed.new _ _ _⟩
    have HA : Hid (AllR g n0 O ∧ NamesR g n0) := HB5.out.2.2.2.2
    rw [← hw6]
    have hrd := read_any d S' G' w6 refNm H6.out.2.2.1 (by decide) (by rw [HR4.out.2.2.1, hlk]; omega)
    rw [HR4.out.2.2.1, HR4.out.2.2.2, hlk] at hrd
    generalize w5.heap.size = wb at *
    clear hw6 HB5 HR4
    have hon : O.length = n0 := HA.out.1.len
    have hn64 := HA.out.2.2
    have HSAME : Hid (∀ W na, RfAt W r d j b M' rs g n0 sz false FJ F → Chs W oa O.length O → StrsR W na 3 [⟨#[97]⟩, ⟨#[]⟩, ⟨#[98, 47, 99]⟩] → Calls Tryz.prog 15 #[.pointer (some ⟨r, 0, none⟩), .agg #[.slice oa O.length oc], .slice na 3 3] W fun e w' => e = .returned (.bool true) ∧ Below W.heap.size W w') := fun W na hR hC hS => by
      have hc0 := (HA.out.1.set HA.out.2).1
      rw [hon] at hC ⊢
      exact lsame_any W r d j b M' rs g n0 sz false FJ F hR (by omega) oa oc O hC HA.out.1 (fun x hx => by have := chkFrom_short g O _ _ hc0 x hx; omega) na 3 3 _ hS (fun x hx => by
        rcases List.mem_cons.1 hx with rfl | hx
        · decide
        · rcases List.mem_cons.1 hx with rfl | hx
          · decide
          · rcases List.mem_cons.1 hx with rfl | hx
            · decide
            · cases hx) (by omega)
    clear hon hn64
    go_wp2_with first
      | (go_at_call 13; refine hrd.mono ?_; clear hrd; rintro e w7 ⟨fa, fc, rfl, hrow7, hB7, _⟩; have H7 : Hid (Below w.heap.size w w7 ∧ RfAt w7 r d j b M' rs g n0 sz false FJ F ∧ Chs w7 oa O.length O ∧ Bytes w7 fa sz (l.take sz) ∧ wb < w7.heap.size) := ⟨H6.out.1.trans (hB7.mono H6.out.1.size), H6.out.2.1.below hB7, H6.out.2.2.2.1.kept hB7, ownsRow_toBytes' hrow7, Nat.lt_of_lt_of_le H6.out.2.2.2.2.lt hB7.size⟩; have c7 : w7.cell? ⟨wb, 0, none⟩ = some (.slice oa O.length oc) := (hB7.cell (p := ⟨wb, 0, none⟩) H6.out.2.2.2.2.lt).trans H6.out.2.2.2.2.cell; have BA : Below w7.heap.size w7 (w7.alloc (.cells #[.string ⟨#[97]⟩, .string ⟨#[]⟩, .string ⟨#[98, 47, 99]⟩] 9)) := (Below.refl _ w7).alloc (Nat.le_refl _) _; have hsm := HSAME.out _ (some ⟨w7.heap.size, 0, none⟩) (H7.out.2.1.below BA) (H7.out.2.2.1.kept BA) (strs_three w7 _ _ _); have H8 : Hid (Below w.heap.size w (w7.alloc (.cells #[.string ⟨#[97]⟩, .string ⟨#[]⟩, .string ⟨#[98, 47, 99]⟩] 9)) ∧ Bytes (w7.alloc (.cells #[.string ⟨#[97]⟩, .string ⟨#[]⟩, .string ⟨#[98, 47, 99]⟩] 9)) fa sz (l.take sz)) := ⟨H7.out.1.trans (BA.mono H7.out.1.size), (Turn.of_below (fun _ => False) BA).bytes H7.out.2.2.2.1 (fun _ _ _ => id)⟩; clear hrow7 hB7 BA H7)
      | (go_at_call 15; refine hsm.mono ?_; clear hsm; rintro e w9 ⟨rfl, hB9⟩; have H9 : Hid (Below w.heap.size w w9) := H8.out.1.trans (hB9.mono H8.out.1.size); have heq := equal_any w9 fa a sz sz fc c (l.take sz) (l.take sz) ((Turn.of_below (fun _ => False) hB9).bytes H8.out.2 (fun _ _ _ => id)) (((Turn.of_below (fun _ => False) H9.out).bytes HG.out.1 (fun _ _ _ => id)).take sz hszM); rw [decide_eq_true rfl] at heq; clear hB9 H8)
      | (go_at_call 14; refine heq.mono ?_; clear heq; rintro e w10 ⟨rfl, h10⟩; subst h10)
      | (go_at_call 5; refine (hwk _).mono ?_; rintro e w11 ⟨rfl, B11⟩)
    go_ret
    exact ⟨rfl, H9.out.trans (B11.mono H9.out.size)⟩
end Go.Proofs.YtiafhbpklddlnaaGreatDoor

/- Proved here: for all bytes the law RefsOpens (refs are read from a file of any bytes, or it is told that it is broken; a record that is not whole is cut off) returns true, and its argument reads as before. No condition; the card ties the two tables that the row lists. -/
namespace Go.Proofs.YtiafhbpklddlnaaGreatDoor
open Go.RowKit
open Go.ChangeShapes Go.WideShapes Go.ChangeAt

theorem own : ownKnob Tryz.prog.godebug = none := by kernel_rfl
theorem laidOut : laidOutB Tryz.prog = true := by kernel_rfl

set_option maxRecDepth 100000 in
theorem refsOpens_lifted (os : Os) (started : os.Started) (H : Type) (enc : TypeId × Value → H) :
    ReturnsInHanded {} Tryz.checked os 4 .any (fun w args => (Rows.refsOpensSpec.pre enc Tryz.prog Tryz.f4 [] false w args ∧ laidMetH Tryz.prog Rows.refsOpensRow.laid w) ∧ sizedMet enc Tryz.prog Tryz.f4 (OpenSpec.ofChange Rows.refsOpensSpec) false w args)
      (Rows.refsOpensSpec.post enc Tryz.prog Tryz.f4 false true false false) := by
  refine returnsInHanded_of_change_and (C := Tryz.checked) (X := fun w _ => laidMetH Tryz.prog Rows.refsOpensRow.laid w) (fun _ _ _ hh h => h.of_heap hh) own started (by kernel_rfl) Tryz.func4
    (ChangeSpec.witness_shaped (enc := enc) (C := Tryz.checked) (os := os) (X := fun w _ => laidMetH Tryz.prog Rows.refsOpensRow.laid w) false (World.laidAll Tryz.prog os Rows.refsOpensRow.laid) #[.slice none 0 0] 8 (World.laidAll_os _ _ _)
      (World.shaped_of_ZipB (by kernel_rfl) (by kernel_rfl)) (by kernel_rfl) (by kernel_rfl) (by kernel_rfl)
      (by rw [MakeChecks.laidMetH_plain _ _ _ (by kernel_rfl)]; exact laidMet_laidAll _ (by kernel_rfl) (by kernel_rfl))) ?_
  intro W base args ds gs before hval0 hW _ _ _ _
  have hval : ∀ (j : Nat) t v, Tryz.f4.params[j]? = some t → args[j]? = some v → Value.okWide Tryz.prog W .any base t v := hval0
  have hW' := hW
  obtain ⟨p, q, hA0, hV, rfl, _, _⟩ := hW
  have hA : DataW.TrodAll enc Tryz.prog W 0 (fun _ => true) true Tryz.f4.params.toList args.toList ds p := hA0
  rw [Tryz.params4] at hA hval
  obtain ⟨v0, vs0, d0, ds0, p0, q0, hargs, rfl, rfl, h0, r0⟩ := trodAll_cons hA
  obtain ⟨rfl, rfl, rfl⟩ := trodAll_nil r0
  obtain rfl : args = #[v0] := by cases args; simp_all
  obtain ⟨rfl, rfl⟩ := trodVars_none hV
  have k0 := h0
  have lt0 : ∀ x ∈ p0, x.block < W.heap.size := by obtain ⟨m, hm⟩ := k0; exact DataW.trod_lt m _ _ _ hm
  obtain ⟨a0, n0, cap0, rfl⟩ := okWide_slice Tryz.underlying33 (hval 0 33 v0 rfl rfl)
  obtain ⟨fuel0, hf0⟩ := k0
  have hcap := bytes_capR hf0
  obtain ⟨a1, n1, cap1, l1, he1, hb1, hc1, hnil1, hn1⟩ := bytes_cellR hf0
  simp only [Value.slice.injEq] at he1
  obtain ⟨rfl, rfl, rfl⟩ := he1
  clear hA0 hval0
  refine (refsOpens_walk W a0 n0 cap0 l1 hb1 hc1 hcap hnil1).mono fun e W' ⟨he, bel⟩ => ?_
  subst he
  exact ⟨_, rfl, _, _, _, [], _, [], hW', trodAll_mk1 (shut_bool Tryz.underlying4 _), trodAll_cons_mk (Below.trod laidOut (by kernel_rfl) (of_decide_eq_true (by kernel_rfl)) h0 bel lt0) trodAll_mk0, rfl, bel.frame _, fun h => by cases h⟩

theorem refsOpens_row : Rows.RefsOpensSaid :=
  OpenClaim.holds_of_wide 4 Tryz.f4 rfl rfl rfl rfl rfl rfl rfl ⟨rfl, rfl, rfl, rfl, rfl⟩ rfl rfl rfl rfl rfl (by kernel_rfl) Tryz.func4 (by kernel_rfl)
    (of_decide_eq_true (by kernel_rfl)) (by unfold Func.isWrapper; first | (rw [if_pos (by decide +kernel)]; kernel_rfl) | (rw [if_neg (by decide +kernel)]; exact ⟨rfl, rfl⟩))
    (fun os started H enc _ => refsOpens_lifted os started H enc)

theorem refsOpens_holds : Rows.RefsOpensCardSaid :=
  Claim7.holds_tied_plain_at .later [] [.data, .pinned] true (true, "05f1abbb4a2e868011133ec30f848d97b34c09d31bf04d52f6a0e359a6647af9") true refsOpens_row (fun _ h => by cases h) (by kernel_rfl) (fun _ h => by cases h) refsOpens_row_tie rfl ⟨rfl, rfl⟩ (by kernel_rfl) rfl
    (fun f fn hf hfn => by
      obtain rfl : f = 4 := Option.some.inj ((show Tryz.prog.funcNamed "espalier/espalierlaw08.RefsOpens" = some 4 by kernel_rfl).symm.trans hf) |>.symm
      obtain rfl : fn = Tryz.f4 := (Option.some.inj (Tryz.func4.symm.trans hfn)).symm
      exact ⟨by kernel_rfl, fun j t ht => by
        rw [Tryz.params4] at ht
        have hm : t ∈ [33] := by simpa using Array.mem_of_getElem? ht
        have hall : ([33].all fun u => !Tryz.prog.wantsStandIn u) = true := by kernel_rfl
        exact (show Tryz.prog.wantsStandIn t = false by simpa using List.all_eq_true.1 hall t hm)⟩)
    (by kernel_rfl)
#print axioms refsOpens_holds

end Go.Proofs.YtiafhbpklddlnaaGreatDoor
