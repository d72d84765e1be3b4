import Derived.Test.YtojpbemfbjkjjaaGreatP26
import Derived.RangeFuncNested
import Derived.RangeFuncBound
import Derived.RangeFuncCalls
import Derived.RangeFuncLeaves
import Derived.Shelf.Abstract
import Derived.Shelf.RegionOpen
import Derived.WalkKit
import Derived.OwnWalkIn
import Derived.TacticsInMore
import Derived.LoopNIn
import Derived.LoopIn
import Derived.Test.YtojpbemfbjkjjaaGreatProg
import Derived.Test.YtojpbemfbjkjjaaGreatP19
/- The walk of Put. -/
namespace Go.Proofs.YtojpbemfbjkjjaaGreat
open Go.RowKit Go.Maps

attribute [local go_sem] Oper.semAt_some

theorem Encode_own {o : Ob} {v : Value} (W : World) (h : ObAt o v W) (h0 : obErr o = 0) : Calls Tryz.prog 38 #[v] W fun e w' => ∃ ad cp, e = .returned (.tuple #[.slice ad (obB o).length cp, .int .i64 0]) ∧ OwnB W.heap.size (obB o) (.slice ad (obB o).length cp) w' ∧ Below W.heap.size W w' := by
  cases o with
  | blob b =>
    obtain ⟨ad, cp, rfl, h2, h3, h4⟩ := h
    have hb : b.length ≤ 4096 := by
      have h0' : blobErr b.length = 0 := h0
      unfold blobErr at h0'
      split at h0'
      · omega
      · omega
    refine (Encode_blob ad _ cp b W h2 h3 hb).mono fun e w' hx => ?_
    obtain ⟨v, rfl, ho, hB⟩ := hx
    have ho' : OwnB W.heap.size (98 :: b) v w' := ⟨ho⟩
    obtain ⟨a', c', rfl, _⟩ := ho'.shape rfl
    exact ⟨a', c', rfl, ho', hB⟩
  | tree l =>
    obtain ⟨ad, cp, rfl, h2, h3, h4⟩ := h
    refine (Encode_tree ad _ cp l W h2 h3 h4 h0).mono fun e w' hx => ?_
    obtain ⟨v, rfl, ho', hB⟩ := hx
    obtain ⟨a', c', rfl, _⟩ := ho'.shape rfl
    exact ⟨a', c', rfl, ho', hB⟩
  | com c =>
    obtain ⟨ad, cp, rfl, h2⟩ := h
    refine (Encode_com _ _ _ _ _ _ _ _ W h2 h0).mono fun e w' hx => ?_
    obtain ⟨v, rfl, ho', hB⟩ := hx
    obtain ⟨a', c', rfl, _⟩ := ho'.shape rfl
    exact ⟨a', c', rfl, ho', hB⟩
theorem obB_len {o : Ob} {v : Value} {W : World} (h : ObAt o v W) (h0 : obErr o = 0) : (obB o).length ≤ 16384 := by
  cases o with
  | blob b =>
    have h0' : blobErr b.length = 0 := h0
    unfold blobErr at h0'
    simp only [obB, List.length_cons]
    split at h0'
    · omega
    · omega
  | tree l =>
    obtain ⟨ad, cp, rfl, h2, h3, h4⟩ := h
    obtain ⟨f1, f2⟩ := fits_of h3 h0
    have := entsB_len l f2 l.length (Nat.le_refl _)
    rw [List.take_length] at this
    have := short_len l.length
    simp only [obB, treeB, List.length_cons, List.length_append]
    omega
  | com c =>
    exact comB_len _ h0

theorem sput_nil (w : World) (v : Value) : Calls Tryz.prog 27 #[.pointer none, v] w fun e w' => e = .returned (.tuple #[.int .u64 0, .int .i64 1]) ∧ w' = w := by
  go_enter Tryz.func27, Tryz.ntmps27
  go_wp2
  go_ret2
  exact ⟨rfl, rfl⟩
theorem sput_bad (w : World) (s : Nat) (v : Value) (o : Ob) (hv : ObAt o v w) (h0 : obErr o ≠ 0) :
    Calls Tryz.prog 27 #[.pointer (some ⟨s, 0, none⟩), v] w fun e w' => e = .returned (.tuple #[.int .u64 0, .int .i64 (obErr o)]) ∧ Below w.heap.size w w' := by
  have hx := Encode_bad w hv h0
  have h0' : (obErr o == 0) = false := beq_eq_false_iff_ne.2 h0
  have h0'' : (obErr o != 0) = true := by simp [h0]
  generalize obErr o = E at *
  go_enter Tryz.func27, Tryz.ntmps27
  go_wp2_with (go_at_call 38; refine hx.mono ?_; clear hx; rintro e w1 ⟨rfl, hB1⟩)
  go_ret2
  exact ⟨rfl, hB1⟩
set_option maxRecDepth 20000 in
set_option maxHeartbeats 1000000 in
theorem sput_there (w : World) (s d j b : Nat) (M : DataW Value) (u : Value) (rs : List (List UInt8)) (os : List Ob) (sz : Nat) (cut : Bool) (FJ O F : Nat → Prop) (h : StAt w s d j b M u rs os sz cut FJ O F) (v : Value) (o p : Ob) (hv : ObAt o v w) (h0 : obErr o = 0) (hf : findO os (oid o) = some p) :
    Calls Tryz.prog 27 #[.pointer (some ⟨s, 0, none⟩), v] w fun e w' => e = .returned (.tuple #[.int .u64 (if obB p = obB o then oid o else 0), .int .i64 (if obB p = obB o then 0 else 7)]) ∧ Below w.heap.size w w' := by
  have hx := Encode_own w hv h0
  have hlen := obB_len hv h0
  have hgood := h.good p (findO_mem hf).1
  have hi0 := (idOf_bounds (obB o)).1
  have hi1 := (idOf_bounds (obB o)).2
  obtain ⟨pu, hpu, hl⟩ := h.there (oid o) hi0 hi1 p hf
  have HL : Hid (∀ W : World, Below w.heap.size w W → W.cell? ⟨s, 1, none⟩ = some (.map (some b)) ∧ (Instr.lookup 95 (.map (some b)) (.int .u64 (oid o)) true).run Tryz.prog W = .ok (.tuple #[pu, .bool true]) W) := fun W hB => ⟨(h.below hB).c1, hl W (hB.block b (h.lt b h.fs.2))⟩
  have HS : Hid (∀ W : World, Below w.heap.size w W → Calls Tryz.prog 41 #[pu, v] W fun e w' => e = .returned (.bool (decide (obB p = obB o))) ∧ Below W.heap.size W w') := fun W hB =>
    Same_ob W (hpu.kept fun k hk => hB.block k (h.lt k (h.fo k hk))).get.1 (hv.below hB) hgood h0
  have HID : Hid (∀ W ad n c, n = (obB o).length → Bytes W ad n (obB o) → Calls Tryz.prog 39 #[.slice ad n c] W fun e w' => e = .returned (.int .u64 (oid o)) ∧ w' = W) := fun W ad n c hn hb => Id_any ad n c (obB o) W hb (by unfold maxLen; omega)
  clear hl hpu h hv hf hgood hi0 hi1
  have HD : Hid (∀ (c : Bool), c = decide (obB p = obB o) → (if obB p = obB o then oid o else 0) = (if c = true then oid o else 0) ∧ ((if obB p = obB o then (0 : Int) else 7) = (if c = true then 0 else 7))) := by
    intro c hc
    by_cases e : obB p = obB o
    · simp [hc, e]
    · simp [hc, e]
  obtain ⟨C, hC⟩ : ∃ C, C = decide (obB p = obB o) := ⟨_, rfl⟩
  rw [(HD.out C hC).1, (HD.out C hC).2]
  rw [← hC] at HS
  generalize hT : obB o = T at *
  generalize oid o = I at *
  have hTn : Hid (T.length = T.length) := rfl
  generalize hn : T.length = n at *
  have Hn : Hid (n = T.length) := hn.symm
  clear hn hC HD hTn hT
  have HA : Hid (∀ W, Calls Tryz.prog 40 #[.int .u64 I, .bool C] W fun e w' => e = .returned (.tuple #[.int .u64 (if C = true then I else 0), .int .i64 (if C = true then 0 else 7)]) ∧ w' = W) := fun W => again_any I C W
  generalize (if C = true then I else 0) = I' at *
  generalize (if C = true then (0 : Int) else 7) = E' at *
  go_enter Tryz.func27, Tryz.ntmps27
  go_wp2_with first
    | (go_at_call 38; refine hx.mono ?_; clear hx; rintro e w1 ⟨ad, cp, rfl, ho, hB1⟩; have hy : Bytes w1 ad n T := ho.bytes Hn.out.symm; obtain ⟨c1, hl⟩ := HL.out w1 hB1; clear ho)
    | (go_at_call 39; refine (HID.out _ ad n cp rfl hy).mono ?_; rintro e w2 ⟨rfl, h2⟩; subst h2)
    | (go_at_call 41; refine (HS.out _ hB1).mono ?_; rintro e w3 ⟨rfl, hB3⟩)
    | (go_at_call 40; refine (HA.out _).mono ?_; rintro e w4 ⟨rfl, h4⟩; subst h4)
  go_ret2
  exact ⟨rfl, hB1.trans (hB3.mono hB1.size)⟩
set_option maxRecDepth 20000 in
set_option maxHeartbeats 1000000 in
/-- nothing is written: the store is full, or its journal is cut -/
theorem sput_none (w : World) (s d j b : Nat) (M : DataW Value) (u : Value) (rs : List (List UInt8)) (os : List Ob) (sz : Nat) (cut : Bool) (FJ O F : Nat → Prop) (h : StAt w s d j b M u rs os sz cut FJ O F) (v : Value) (o : Ob) (hv : ObAt o v w) (h0 : obErr o = 0) (hf : findO os (oid o) = none) (hw : 65536 ≤ os.length ∨ cut = true) :
    Calls Tryz.prog 27 #[.pointer (some ⟨s, 0, none⟩), v] w fun e w' => e = .returned (.tuple #[.int .u64 0, .int .i64 (if 65536 ≤ os.length then 3 else 6)]) ∧ Below w.heap.size w w' := by
  have hx := Encode_own w hv h0
  have hlen := obB_len hv h0
  have hi0 := (idOf_bounds (obB o)).1
  have hi1 := (idOf_bounds (obB o)).2
  have HL : Hid (∀ W : World, Below w.heap.size w W → W.cell? ⟨s, 1, none⟩ = some (.map (some b)) ∧ (Instr.lookup 95 (.map (some b)) (.int .u64 (oid o)) true).run Tryz.prog W = .ok (.tuple #[.nilIface, .bool false]) W) := fun W hB => ⟨(h.below hB).c1, h.not (oid o) hi0 hi1 hf W (hB.block b (h.lt b h.fs.2))⟩
  have HID : Hid (∀ W ad n c, n = (obB o).length → Bytes W ad n (obB o) → Calls Tryz.prog 39 #[.slice ad n c] W fun e w' => e = .returned (.int .u64 (oid o)) ∧ w' = W) := fun W ad n c hn hb => Id_any ad n c (obB o) W hb (by unfold maxLen; omega)
  have HW : Hid (∀ (W : World) (x : Value), Below w.heap.size w W → Calls Tryz.prog 42 #[.pointer (some ⟨s, 0, none⟩), x] W fun e w' => e = .returned (.int .i64 (if 65536 ≤ os.length then 3 else 6)) ∧ w' = W) := by
    intro W x hB
    by_cases hn : 65536 ≤ os.length
    · rw [if_pos hn]
      exact write_full W s d j b M u rs os sz cut FJ O F (h.below hB) x hn
    · rw [if_neg hn]
      have hc : cut = true := hw.resolve_left hn
      subst hc
      exact write_cut W s d j b M u rs os sz FJ O F (h.below hB) x (by omega)
  have hE : (if 65536 ≤ os.length then (3 : Int) else 6) = 3 ∨ (if 65536 ≤ os.length then (3 : Int) else 6) = 6 := by split <;> simp
  generalize (if 65536 ≤ os.length then (3 : Int) else 6) = E at *
  clear h hv hf hi0 hi1 hw
  generalize hT : obB o = T at *
  generalize oid o = I at *
  generalize hn : T.length = n at *
  have Hn : Hid (n = T.length) := hn.symm
  clear hn hT
  have e1 : (E == 0) = false := by rcases hE with e | e <;> rw [e] <;> rfl
  have e2 : (E != 0) = true := by rcases hE with e | e <;> rw [e] <;> rfl
  clear hE
  go_enter Tryz.func27, Tryz.ntmps27
  go_wp2_with first
    | (go_at_call 38; refine hx.mono ?_; clear hx; rintro e w1 ⟨ad, cp, rfl, ho, hB1⟩; have hy : Bytes w1 ad n T := ho.bytes Hn.out.symm; obtain ⟨c1, hl⟩ := HL.out w1 hB1; clear ho)
    | (go_at_call 39; refine (HID.out _ ad n cp rfl hy).mono ?_; rintro e w2 ⟨rfl, h2⟩; subst h2)
    | (go_at_call 42; refine (HW.out _ _ hB1).mono ?_; rintro e w3 ⟨rfl, h3⟩; subst h3)
  go_ret2
  exact ⟨rfl, hB1⟩
/-- what lies behind a Put that writes -/
def PutDone (w w' : World) (s d : Nat) (os : List Ob) (sz : Nat) (F : Nat → Prop) (S : DG) (G : Nat → Prop) (o : Ob) (er : Int) : Prop :=
  Turn (fun k => F k ∨ G k) w w' ∧ ∃ F' G', IsDisk w' d (S.app objNm.data.toList (recB (obB o))).1 G' ∧ (∀ k, F' k → F k ∨ w.heap.size ≤ k) ∧ (∀ k, G' k → G k ∨ w.heap.size ≤ k) ∧ (∀ k, F' k → ¬ G' k) ∧
    ((er = 0 ∧ IsSt w' s d (os ++ [o]) (sz + (recB (obB o)).length) false F') ∨ (er ≠ 0 ∧ IsSt w' s d os sz (decide (er = 6)) F'))
set_option maxRecDepth 20000 in
set_option maxHeartbeats 2000000 in
theorem sput_new (w : World) (s d : Nat) (os : List Ob) (sz : Nat) (F : Nat → Prop) (h : IsSt w s d os sz false F) (S : DG) (G : Nat → Prop) (hd : IsDisk w d S G) (hFG : ∀ k, F k → ¬ G k) (v : Value) (o : Ob) (hv : ∀ W, Turn (fun k => F k ∨ G k) w W → ObS o v W) (h0 : obErr o = 0) (hf : findO os (oid o) = none)
    (hn : os.length < 65536) (hbs : (S.bs objNm.data.toList).length ≤ 4194304) (hsz : sz ≤ (S.bs objNm.data.toList).length) (hSn : S.n ≤ 256) (hw : S.wr < 4000000000000000000) :
    Calls Tryz.prog 27 #[.pointer (some ⟨s, 0, none⟩), v] w fun e w' => e = .returned (.tuple #[.int .u64 (if (S.app objNm.data.toList (recB (obB o))).2 = 0 then oid o else 0), .int .i64 (S.app objNm.data.toList (recB (obB o))).2]) ∧ PutDone w w' s d os sz F S G o (S.app objNm.data.toList (recB (obB o))).2 := by
  obtain ⟨j, b, M, u, FJ, O, h⟩ := h
  have hv0 := hv w (Turn.refl _ _)
  have hx := Encode_own w hv0.1 h0
  have hlen := obB_len hv0.1 h0
  have hi0 := (idOf_bounds (obB o)).1
  have hi1 := (idOf_bounds (obB o)).2
  have HL : Hid (∀ W : World, Below w.heap.size w W → W.cell? ⟨s, 1, none⟩ = some (.map (some b)) ∧ (Instr.lookup 95 (.map (some b)) (.int .u64 (oid o)) true).run Tryz.prog W = .ok (.tuple #[.nilIface, .bool false]) W) := fun W hB => ⟨(h.below hB).c1, h.not (oid o) hi0 hi1 hf W (hB.block b (h.lt b h.fs.2))⟩
  have HID : Hid (∀ W ad n c, n = (obB o).length → Bytes W ad n (obB o) → Calls Tryz.prog 39 #[.slice ad n c] W fun e w' => e = .returned (.int .u64 (oid o)) ∧ w' = W) := fun W ad n c hn hb => Id_any ad n c (obB o) W hb (by unfold maxLen; omega)
  have HW : Hid (∀ W ad n c, n = (obB o).length → Below w.heap.size w W → OwnB w.heap.size (obB o) (.slice ad n c) W → Calls Tryz.prog 42 #[.pointer (some ⟨s, 0, none⟩), .slice ad n c] W fun e w' => e = .returned (.int .i64 (S.app objNm.data.toList (recB (obB o))).2) ∧ Wrote W w' s d j b M u (os.map obB) os sz FJ O F S G (obB o) (S.app objNm.data.toList (recB (obB o))).2) := by
    intro W ad n c hn' hB ho
    subst hn'
    refine write_any W s d j b M u _ os sz FJ O F (h.below hB) S G (hd.below hB) hFG ad _ c (obB o) (ho.bytes rfl) (by omega) (fun h0 x hx => ?_) hn hbs hsz hSn hw
    have := (row_block ho.row x.block (by
      subst hx
      obtain ⟨ad', c', e, _⟩ := row_shape ho.row
      rcases ho.row.2 with ⟨e, _⟩ | ⟨g, cap, cur, e, _⟩
      · cases e
      · cases e; rfl)).1
    exact ⟨fun hf => by have := h.lt _ hf; omega, fun hg => by have := hd.lt _ hg; omega⟩
  have HK : Hid (∀ W1 W2 er, Below w.heap.size w W1 → er = 0 → Wrote W1 W2 s d j b M u (os.map obB) os sz FJ O F S G (obB o) er → ObS o v W2 ∧ ∀ W3 cu, Below W2.heap.size W2 W3 → Held (Fresh W2.heap.size W3) o cu W3 → Calls Tryz.prog 43 #[.pointer (some ⟨s, 0, none⟩), .int .u64 (oid o), cu] W3 fun e w' => e = .returned (.tuple #[]) ∧ PutDone w w' s d os sz F S G o er) := by
    intro W1 W2 er hB1 her hW
    obtain ⟨hT, FJ', G', hd', hF', hG', hFG', hc⟩ := hW
    have hT0 : Turn (fun k => F k ∨ G k) w W2 := (Turn.of_below _ hB1).trans hT (fun i _ e => e.imp (h.fj i) id)
    refine ⟨hv W2 hT0, fun W3 cu hB3 hu => ?_⟩
    rcases hc with ⟨_, hS⟩ | ⟨hne, _⟩
    · have hS3 := hS.below hB3
      refine (keep_any W3 s d j b M u _ os _ false FJ' O _ hS3 o cu (oid o) rfl hf h0 (Fresh W2.heap.size W3) hu (fun k hk => ⟨hk.lt, fun hf => by have := hS.lt k hf; have := hk.1; omega⟩) (by omega)).mono ?_
      rintro e w' ⟨he, hT4, M', v', hS4, hv'⟩
      have hdl := hd'.lt
      have hF3 : ∀ k, (k = s ∨ k = b ∨ u.ownBlock = some k) → F k := fun k hk => by
        rcases hk with rfl | rfl | e
        · exact h.fs.1
        · exact h.fs.2
        · exact (h.vo k e).2.2.2.2
      have hs1 := hB1.size
      have hs3 := hB3.size
      have hs2 := hT.size
      refine ⟨he, (hT0.trans (Turn.of_below (fun k => F k ∨ G k) hB3) (fun _ _ e => e)).trans hT4 (fun i _ e => .inl (hF3 i e)), (fun k => ((F k ∨ FJ' k) ∧ u.ownBlock ≠ some k) ∨ Fresh W2.heap.size W3 k ∨ v'.ownBlock = some k), G', ((hd'.below hB3).turn hT4 (fun k hk e => hFG' k (.inl (hF3 k e)) hk)), ?_, fun k hk => (hG' k hk).imp id (fun e => by omega), ?_, .inl ⟨her, j, b, M', v', FJ', (fun k => O k ∨ Fresh W2.heap.size W3 k), (by rw [List.map_append]; exact hS4)⟩⟩
      · intro k hk
        rcases hk with ⟨hk | hk, _⟩ | hk | hk
        · exact .inl hk
        · exact (hF' k hk).imp (h.fj k) (fun e => by omega)
        · exact .inr (by have := hk.1; omega)
        · rcases hv' k hk with e | e
          · exact .inl (h.vo k e).2.2.2.2
          · exact .inr (by omega)
      · intro k hk hg
        rcases hk with ⟨hk, _⟩ | hk | hk
        · exact hFG' k hk hg
        · have := hk.1; have := hdl k hg; omega
        · rcases hv' k hk with e | e
          · exact hFG' k (.inl (h.vo k e).2.2.2.2) hg
          · have := hdl k hg; omega
    · exact absurd her hne
  have HE : Hid (∀ W1 W2 er, Below w.heap.size w W1 → er ≠ 0 → Wrote W1 W2 s d j b M u (os.map obB) os sz FJ O F S G (obB o) er → PutDone w W2 s d os sz F S G o er) := by
    intro W1 W2 er hB1 her hW
    obtain ⟨hT, FJ', G', hd', hF', hG', hFG', hc⟩ := hW
    have hs1 := hB1.size
    refine ⟨(Turn.of_below _ hB1).trans hT (fun i _ e => e.imp (h.fj i) id), _, G', hd', fun k hk => hk.elim .inl (fun hk => (hF' k hk).imp (h.fj k) (fun e => by omega)), fun k hk => (hG' k hk).imp id (fun e => by omega), hFG', ?_⟩
    rcases hc with ⟨h0, _⟩ | ⟨_, hS⟩
    · exact absurd h0 her
    · exact .inr ⟨her, j, b, M, u, FJ', O, hS⟩
  have Hgood : Hid (obErr o = 0) := h0
  clear h hf hi0 hi1 hv hv0 hd hFG hn hbs hsz hSn hw h0
  generalize (S.app objNm.data.toList (recB (obB o))).2 = er at *
  generalize hI : oid o = I at *
  obtain ⟨n, hn⟩ : ∃ n, n = (obB o).length := ⟨_, rfl⟩
  have Hn : Hid (n = (obB o).length) := hn
  rw [← hn] at hx hlen
  clear hn
  by_cases her : er = 0
  · subst her
    rw [if_pos rfl]
    go_enter Tryz.func27, Tryz.ntmps27
    go_wp2_with first
      | (go_at_call 38; refine hx.mono ?_; clear hx; rintro e w1 ⟨ad, cp, rfl, ho, hB1⟩; have HO : Hid (OwnB w.heap.size (obB o) (.slice ad n cp) w1) := ho; obtain ⟨c1, hl⟩ := HL.out w1 hB1; clear ho)
      | (go_at_call 39; refine (HID.out _ ad n cp Hn.out (HO.out.bytes Hn.out.symm)).mono ?_; rintro e w2 ⟨rfl, h2⟩; subst h2)
      | (go_at_call 42; refine (HW.out _ ad n cp Hn.out hB1 HO.out).mono ?_; rintro e w3 ⟨rfl, h3⟩; have H3 : Hid (Wrote _ w3 s d j b M u (os.map obB) os sz FJ O F S G (obB o) 0) := h3; clear h3)
      | (go_at_call 44; refine (Copy_ob _ (HK.out _ _ 0 hB1 rfl H3.out).1 Hgood.out).mono ?_; rintro e w4 ⟨cu, rfl, hu, hB4⟩; have H4 : Hid (Held (Fresh w3.heap.size w4) o cu w4) := hu; clear hu)
      | (go_at_call 43; refine ((HK.out _ _ 0 hB1 rfl H3.out).2 w4 cu hB4 H4.out).mono ?_; rintro e w5 ⟨rfl, h5⟩; have H5 : Hid (PutDone w w5 s d os sz F S G o 0) := h5; clear h5)
    go_ret2
    exact ⟨rfl, H5.out⟩
  · have e1 : (er == 0) = false := by simp [her]
    have e2 : (er != 0) = true := by simp [her]
    rw [if_neg her]
    have HNE : Hid (er ≠ 0) := her
    clear her
    go_enter Tryz.func27, Tryz.ntmps27
    go_wp2_with first
      | (go_at_call 38; refine hx.mono ?_; clear hx; rintro e w1 ⟨ad, cp, rfl, ho, hB1⟩; have HO : Hid (OwnB w.heap.size (obB o) (.slice ad n cp) w1) := ho; obtain ⟨c1, hl⟩ := HL.out w1 hB1; clear ho)
      | (go_at_call 39; refine (HID.out _ ad n cp Hn.out (HO.out.bytes Hn.out.symm)).mono ?_; rintro e w2 ⟨rfl, h2⟩; subst h2)
      | (go_at_call 42; refine (HW.out _ ad n cp Hn.out hB1 HO.out).mono ?_; rintro e w3 ⟨rfl, h3⟩; have H3 : Hid (PutDone w w3 s d os sz F S G o er) := HE.out _ _ _ hB1 HNE.out h3; clear h3)
    go_ret2
    exact ⟨rfl, H3.out⟩
end Go.Proofs.YtojpbemfbjkjjaaGreat

/- A range over a function whose body never leaves it, where the body is told what the memory holds of the values that it is handed (Px). Of no program; no law of the library says it. -/
namespace Go.Proofs.YtojpbemfbjkjjaaGreat
open Go.RowKit Go.Shelf

/-- these blocks are as they were -/
def Keep (Kb : Nat → Prop) (W W' : World) : Prop := W.heap.size ≤ W'.heap.size ∧ ∀ k, Kb k → W'.heap[k]? = W.heap[k]?
theorem Keep.refl (Kb : Nat → Prop) (W : World) : Keep Kb W W := ⟨Nat.le_refl _, fun _ _ => rfl⟩
theorem Keep.trans {Kb : Nat → Prop} {X Y Z : World} (h : Keep Kb X Y) (k : Keep Kb Y Z) : Keep Kb X Z := ⟨Nat.le_trans h.1 k.1, fun i hi => (k.2 i hi).trans (h.2 i hi)⟩
theorem Keep.put {Kb : Nat → Prop} {W : World} {l : Nat} (o : Obj) (h : ¬ Kb l) : Keep Kb W (W.putObj l o) := ⟨by simp, fun k hk => World.putObj_heap_other (fun e => h (e ▸ hk))⟩

/-- the iterator's word: whatever the loop's body, if each of its rounds goes on -/
def Tells {α : Type} (F : Fence) (n : Nat) (P : Program) (gf : Nat) (lb : Array Value) (encs : α → Array Value) (Px : List α → α → World → Prop) (Kb : Nat → Prop) (S : List α → Prop) (w : World) : Prop :=
  ∀ (l : Nat) (J : List α → World → Prop) (W : World), Below w.heap.size w W → (∀ s X Y, J s X → X.grownBy Y none → J s Y) →
    (∀ pre x W1, J pre W1 → Px pre x W1 → YieldAt F (n - 1) P l (encs x) W1 fun e W' => e = .returned (.bool true) ∧ J (pre ++ [x]) W' ∧ Keep Kb W1 W') →
    J [] W → CallsIn F n P gf (#[.func (.yield l) #[] #[]] ++ lb) W fun e W' => (∃ v, e = .returned v) ∧ ∃ xs, S xs ∧ J xs W'

theorem range_told {α : Type} {F : Fence} {n : Nat} {P : Program} {g : Operand} {ps : Array Tmp} {assign body : Code} {Q : Exit → Act → World → Prop} {a : Act} {w : World}
    (hro : F.round = none) (h1 : 1 ≤ n) {gf : Nat} {lb : Array Value} (hg : a.eval g = .func (.func gf) #[] lb) (hFg : F.fn gf) (eg : ∀ args w, (callFunc gf args).run P w = .ok (.enter gf args) w)
    {encs : α → Array Value} {Px : List α → α → World → Prop} {Kb : Nat → Prop} {S : List α → Prop} (hit : Tells F (n - 1) P gf lb encs Px Kb S w) (hps : ∀ x, (encs x).size = ps.size) (hKb : ∀ k, Kb k → k < w.heap.size)
    (I : List α → World → Prop) (hI : OwnFrom w.heap.size I) (hPx : ∀ pre x, OwnFrom w.heap.size (fun (_ : Unit) W => Px pre x W)) (h0 : I [] w) (a₁ : α → Act)
    (hassign : ∀ (l : Nat) (x : α) (W : World) (K : Act → World → Prop), K (a₁ x) W →
      assign.wpIn (F.inRound l) (n - 1 - 1) P (Exit.then K (fun _ _ _ => False)) { tmps := (ps.zip (encs x)).foldl (fun t (p, v) => t.setIfInBounds p v) a.tmps, defers := [] } W)
    (hbody : ∀ (l : Nat) (pre : List α) (x : α) (W : World), w.heap.size ≤ l → I pre W → Px pre x W → body.wpIn (F.inRound l) (n - 1 - 1) P (fun e _ W' => e = .normal ∧ KeepsFrom w.heap.size W W' ∧ Keep Kb W W' ∧ I (pre ++ [x]) W') (a₁ x) W)
    (hdone : ∀ (D : Nat) (xs : List α) (W : World), w.heap.size ≤ D → S xs → I xs W → W.heap[D]? = some (.deferred (some [])) → Q .normal { a with defers := { target := .collected D, args := #[] } :: a.defers } W) :
    (Code.rangeFunc g ps assign body).wpIn F n P Q a w := by
  refine wpIn_rangeFunc fun fn hfn => ?_
  rw [hro]
  -- the record of the loop, in each of its states; its place, and that of the block for deferred calls
  let R : LoopState → Loop := fun st => { state := st, pending := none, fn := fn, tmps := a.tmps, params := ps, assign := assign, body := body, defers := w.heap.size }
  let D := w.heap.size
  let L := w.heap.size + 1
  let W0 := (w.alloc (.deferred (some []))).alloc (.loop (R .ready))
  have hD0 : W0.heap[D]? = some (.deferred (some [])) := (Below.heap_alloc _ _ _ (by simp [D])).trans (World.alloc_heap_new w _)
  have hL0 : W0.heap[L]? = some (.loop (R .ready)) := by
    have := World.alloc_heap_new (w.alloc (.deferred (some []))) (.loop (R .ready))
    rwa [World.size_alloc] at this
  have hB0 : Below w.heap.size w W0 := ((Below.refl _ w).alloc (Nat.le_refl _) _).alloc (by simp) _
  have hI0 : I [] W0 := hI.alloc _ (hI.alloc _ h0)
  have nL : ¬ Kb L := fun h => by have := hKb _ h; omega
  refine ⟨L, [{ target := .collected D, args := #[] }], W0, { target := .fn (.func gf) lb, args := #[.func (.yield L) #[] #[]] }, W0, gf, #[.func (.yield L) #[] #[]] ++ lb, W0, run_enterLoop_outer _ _ _ _ _, ?_, ?_, ?_, fun _ => h1, ?_⟩
  · simp only [resolve, hg]
    simp [go_sem]
  · intro f' hf'
    simp [Target.leads] at hf'
    exact hf' ▸ hFg
  · simp [invoke, go_sem, eg]
  · let J : List α → World → Prop := fun pre W => I pre W ∧ W.heap[L]? = some (.loop (R .ready)) ∧ W.heap[D]? = some (.deferred (some []))
    have lt_of : ∀ {W : World} {k : Nat} {o : Obj}, W.heap[k]? = some o → k < W.heap.size := fun h => (Array.getElem?_eq_some_iff.1 h).1
    have hJg : ∀ s X Y, J s X → X.grownBy Y none → J s Y := fun s X Y hs hgr =>
      ⟨hI s X Y none hs.1 hgr (by simp), (hgr.block _ (lt_of hs.2.1) (by simp)).trans hs.2.1, (hgr.block _ (lt_of hs.2.2) (by simp)).trans hs.2.2⟩
    have round : ∀ pre x W1, J pre W1 → Px pre x W1 → YieldAt F (n - 1 - 1) P L (encs x) W1 fun e W' => e = .returned (.bool true) ∧ J (pre ++ [x]) W' ∧ Keep Kb W1 W' := by
      intro pre x W1 hJ hx
      refine ⟨fn, _, assign, body, run_yield hJ.2.1 (hps x), roundIn_of_wpIn hfn (hassign L x W1 _ ⟨_, run_beginRound hJ.2.1 rfl, ?_⟩)⟩
      have hLlt := lt_of hJ.2.1
      refine wpIn_mono (hbody L pre x _ (by omega) (hI.putObj _ hJ.1 (by omega) hJ.2.1 rfl) ((hPx pre x).putObj (s := ()) _ hx (by omega) hJ.2.1 rfl)) ?_
      rintro e _ W3 ⟨rfl, hkf, hkb, hi3⟩
      have hL3 := hkf.same L (.loop (R .busy)) (by omega) (World.putObj_heap_same hLlt) rfl
      have hD3 := hkf.same D (.deferred (some [])) (Nat.le_refl _) ((World.putObj_heap_other (by omega)).trans hJ.2.2) rfl
      exact ⟨_, _, run_endRound none hL3, rfl, ⟨hI.putObj _ hi3 (by omega) hL3 rfl, World.putObj_heap_same (lt_of hL3), (World.putObj_heap_other (by omega)).trans hD3⟩, ((Keep.put _ nL).trans hkb).trans (Keep.put _ nL)⟩
    refine (hit L J W0 hB0 hJg round ⟨hI0, hL0, hD0⟩).mono ?_
    rintro e W2 ⟨⟨v, rfl⟩, xs, hS, hi, hL, hD⟩
    exact ⟨none, _, run_endLoop hL (by simp [R]), hdone D xs _ (Nat.le_refl _) hS (hI.putObj _ hi (by omega) hL rfl) ((World.putObj_heap_other (by omega)).trans hD)⟩

end Go.Proofs.YtojpbemfbjkjjaaGreat

/- What Each tells: each record with its number, in order, in new memory. -/
namespace Go.Proofs.YtojpbemfbjkjjaaGreat
open Go.RowKit Go.Shelf

attribute [local go_sem] Oper.semAt_some

/-- a record as the loop's body is handed it: its number, its bytes, the slice that leads to them -/
structure Rec where
  k : Nat
  l : List UInt8
  a : Option Addr
  c : Nat
abbrev Rec.encs (x : Rec) : Array Value := #[.int .i64 (x.k : Int), .slice x.a x.l.length x.c]
/-- what the memory holds of it -/
def Rec.ok (rs : List (List UInt8)) (pre : List Rec) (x : Rec) (W : World) : Prop := x.k = pre.length ∧ x.k < rs.length ∧ x.l = rc rs x.k ∧ Bytes W x.a x.l.length x.l

theorem each_any (w : World) (p : Option Addr) : Calls Tryz.prog 36 #[.pointer p] w fun e w' => e = .returned (.func (.func 50) #[] #[.pointer (some ⟨w.heap.size, 0, none⟩)]) ∧ w' = w.alloc (.cells #[.pointer p] 92) := by
  go_enter Tryz.func36, Tryz.ntmps36
  go_wp2
  go_ret
  exact ⟨rfl, rfl⟩

/-- what has come when k rounds are over -/
def Came (rs : List (List UInt8)) (k : Nat) (xs : List Rec) : Prop := xs.length = k ∧ ∀ i x, xs[i]? = some x → x.k = i ∧ x.l = rc rs i

theorem Came.snoc {rs : List (List UInt8)} {k : Nat} {xs : List Rec} (h : Came rs k xs) (x : Rec) (h1 : x.k = k) (h2 : x.l = rc rs k) : Came rs (k + 1) (xs ++ [x]) := by
  refine ⟨by rw [List.length_append, h.1]; rfl, fun i y hy => ?_⟩
  by_cases hi : i < xs.length
  · rw [List.getElem?_append_left hi] at hy
    exact h.2 i y hy
  · rw [List.getElem?_append_right (by omega)] at hy
    have h0 : i - xs.length = 0 := by
      by_cases e : i - xs.length = 0
      · exact e
      · obtain ⟨j, hj⟩ : ∃ j, i - xs.length = j + 1 := ⟨i - xs.length - 1, by omega⟩
        rw [hj] at hy; simp at hy
    rw [h0] at hy
    simp at hy
    subst hy
    have : i = k := by have := h.1; omega
    subst this
    exact ⟨h1, h2⟩

set_option maxRecDepth 100000 in
set_option maxHeartbeats 4000000 in
theorem each_tells (w : World) (j d : Nat) (nm : ByteArray) (rs : List (List UInt8)) (sz : Nat) (cut : Bool) (Fp : Nat → Prop) (h : JAt w j d nm rs sz cut Fp) (B : Nat) (hB : w.cell? ⟨B, 0, none⟩ = some (.pointer (some ⟨j, 0, none⟩))) (n : Nat) (hn : 1 ≤ n) :
    Tells Fence.wide n Tryz.prog 50 #[.pointer (some ⟨B, 0, none⟩)] Rec.encs (Rec.ok rs) (fun k => Fp k ∨ k = B) (Came rs rs.length) w := by
  intro l J W hW hJg hY h0
  have hJW := h.below hW
  have hcB : W.cell? ⟨B, 0, none⟩ = some (.pointer (some ⟨j, 0, none⟩)) := (hW.cell (p := ⟨B, 0, none⟩) (World.block_lt_of_cell? w _ hB)).trans hB
  refine callsIn_of_wp Tryz.func50 rfl trivial ?_ rfl
  simp only [Tryz.ntmps50, List.size_toArray, List.length_cons, List.length_nil, Nat.reduceAdd, Nat.reduceSub, Array.replicate_succ, Array.replicate_zero, List.push_toArray, List.append_toArray, List.nil_append, List.cons_append]
  obtain ⟨g, na, full, A, v, xs, hp, hA, hv⟩ := hJW.pay
  have cl := hp.cl
  obtain ⟨va, vc, rfl, hvc⟩ : ∃ va vc, v = .slice va rs.length vc ∧ rs.length ≤ 9223372036854775807 := by
    rcases hp.row.2 with ⟨rfl, h1⟩ | ⟨b, cap, cur, rfl, _, _, h3, h4, _⟩
    · exact ⟨none, 0, by rw [h1], by omega⟩
    · unfold maxLen at h4
      exact ⟨_, _, rfl, by omega⟩
  obtain ⟨N, hN⟩ : ∃ N, N = rs.length := ⟨_, rfl⟩
  have HN : Hid (N = rs.length) := hN
  rw [← hN] at cl hvc
  have HP : Hid (PayAt W j 2 rs g na full A (.slice va N vc) xs) := by rw [hN]; exact hp
  have hv' : ∀ k, (Value.slice va N vc).ownBlock = some k → Fp k := by rw [hN]; exact hv
  have hcnt := hJW.cnt
  have hsm := hJW.small
  have hjF : Fp j := hJW.fj
  clear hN hp hv
  gi_wp2
  gi_loopw [13] (fun i wr => ∃ (k : Nat) (pre : List Rec), k ≤ N ∧ i = .int .i64 k ∧ Hid (J pre wr ∧ Came rs k pre ∧ Keep (fun k => Fp k ∨ k = B) W wr)) (fun i _ => N - (intOf i).toNat)
  case atStart => exact ⟨0, [], Nat.zero_le _, rfl, h0, ⟨rfl, fun i x hx => by simp at hx⟩, Keep.refl _ _⟩
  case round =>
    obtain ⟨k, pre, hk, rfl, H⟩ := hrel
    by_cases hlt : k < N
    · have hkn : k < rs.length := by rw [← HN.out]; exact hlt
      have hpr : PayAt wr j 2 rs g na full A (.slice va N vc) xs := HP.out.kept (H.out.2.2.2 j (.inl hjF)) (fun i hi => H.out.2.2.2 i (.inl (hA i hi))) (fun i hi => H.out.2.2.2 i (.inl (hv' i hi)))
      obtain ⟨a, c, hx, hac, hnil, hb⟩ := hpr.bytes k hkn
      have hle := offs_le rs k hkn
      rcases hpr.cell with ⟨_, e⟩ | ⟨b, cap, e, _, _, hc⟩
      · rw [e] at hkn; simp at hkn
      · obtain rfl : va = some ⟨b, 0, none⟩ := by injection e
        clear e
        have hck := hc k _ hx
        clear hc hpr hx
        obtain ⟨m, hm⟩ : ∃ m, m = (rc rs k).length := ⟨_, rfl⟩
        have Hm : Hid (m = (rc rs k).length) := hm
        rw [← hm] at hck hb hac hnil hle
        clear hm
        have i2 : (k : Int) < (N : Int) := by omega
        have Hlt : Hid (∀ i, (Fp i ∨ i = B) → i < wr.heap.size) := fun i hi => by
          have h1 := H.out.2.2.1
          rcases hi with hi | rfl
          · exact Nat.lt_of_lt_of_le (hJW.lt i hi) h1
          · exact Nat.lt_of_lt_of_le (World.block_lt_of_cell? W _ hcB) h1
        have HY : Hid (∀ a' c' w2, w2.ownsRow wr.heap.size 5 1 (.slice a' m c') m (cellsOf (rc rs k)) → Below wr.heap.size wr w2 → YieldAt Fence.wide (n - 1) Tryz.prog l #[.int .i64 (k : Int), .slice a' m c'] w2 fun e W' => e = .returned (.bool true) ∧ J (pre ++ [⟨k, rc rs k, a', c'⟩]) W' ∧ Keep (fun k => Fp k ∨ k = B) w2 W') := fun a' c' w2 hown hB2 => by
          have := hY pre ⟨k, rc rs k, a', c'⟩ w2 (hJg _ _ _ H.out.1 ⟨hB2.os, hB2.tape, hB2.output, hB2.size, fun i hi _ => hB2.block i hi⟩) ⟨H.out.2.1.1.symm, hkn, rfl, by show Bytes w2 a' (rc rs k).length (rc rs k); rw [← Hm.out]; exact (ownsRow_toBytes hown).1⟩
          simp only [Rec.encs] at this
          rw [← Hm.out] at this
          exact this
        gi_wp2_with (refine ⟨trivial, ?_⟩; gi_at_call 51; refine (callsIn_wide.2 (clone_any a m c (rc rs k) wr hb hnil (by omega))).mono ?_; rintro e w2 ⟨a', c', rfl, hown, hB2, hnc, hnn⟩; have hY2 := HY.out a' c' w2 hown hB2; obtain ⟨fn, tmps, assign, body, hy, hR⟩ := hY2)
        refine hR.mono ?_
        rintro e W3 ⟨rfl, hJ3, hk3⟩
        have HE : Hid (J (pre ++ [⟨k, rc rs k, a', c'⟩]) W3 ∧ Came rs (k + 1) (pre ++ [⟨k, rc rs k, a', c'⟩]) ∧ Keep (fun k => Fp k ∨ k = B) W W3) :=
          ⟨hJ3, H.out.2.1.snoc _ rfl rfl, (H.out.2.2.trans ⟨hB2.size, fun i hi => hB2.block i (Hlt.out i hi)⟩).trans hk3⟩
        gi_wp2
        go_roundw
        case rel => exact ⟨k + 1, _, by omega, by simp, HE⟩
        case measure => simp [intOf]; omega
    · obtain rfl : k = N := by omega
      gi_wp2
      go_end0
      exact ⟨⟨_, rfl⟩, pre, by rw [← HN.out]; exact H.out.2.1, H.out.1⟩

end Go.Proofs.YtojpbemfbjkjjaaGreat
