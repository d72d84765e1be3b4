import Derived.Test.YtncagdfbgpdhfaaGreatP26
import Derived.Maps.AppendAt
import Derived.RangeFuncNested
import Derived.RangeFuncBound
import Derived.RangeFuncCalls
import Derived.RangeFuncLeaves
import Derived.Shelf.Abstract
import Derived.Shelf.RegionOpen
import Derived.WalkKit
import Derived.OwnWalkIn
import Derived.TacticsInMore
import Derived.LoopNIn
import Derived.LoopIn
import Derived.Test.YtncagdfbgpdhfaaGreatProg
import Derived.Test.YtncagdfbgpdhfaaGreatP19
/- The walks of keep, write, again and Put. -/
namespace Go.Proofs.YtncagdfbgpdhfaaGreat
open Go.RowKit Go.Maps

attribute [local go_sem] Oper.semAt_some

/-- what lies behind an object more -/
def KeptO (w w' : World) (s d j b : Nat) (v : Value) (rs : List (List UInt8)) (os : List Ob) (o : Ob) (sz : Nat) (cut : Bool) (FJ O O' F : Nat → Prop) : Prop :=
  Turn (fun k => k = s ∨ k = b ∨ v.ownBlock = some k) w w' ∧ ∃ M' v', StAt w' s d j b M' v' rs (os ++ [o]) sz cut FJ (fun k => O k ∨ O' k) (fun k => (F k ∧ v.ownBlock ≠ some k) ∨ O' k ∨ v'.ownBlock = some k) ∧ ∀ g, v'.ownBlock = some g → v.ownBlock = some g ∨ (w.heap.size ≤ g ∧ ∃ o : Obj, w'.heap[g]? = some o ∧ o.isCells = true)

set_option maxRecDepth 20000 in
set_option maxHeartbeats 2000000 in
theorem keep_any (w : World) (s d j b : Nat) (M : DataW Value) (v : Value) (rs : List (List UInt8)) (os : List Ob) (sz : Nat) (cut : Bool) (FJ O F : Nat → Prop) (h : StAt w s d j b M v rs os sz cut FJ O F) (o : Ob) (u : Value) (i : Int) (hi : i = oid o) (hf : findO os (oid o) = none) (hgood : obErr o = 0) (O' : Nat → Prop)
    (hO : Held O' o u w) (hO' : ∀ k, O' k → k < w.heap.size ∧ ¬ F k) (hn : os.length ≤ 1000000000) :
    Calls Tryz.prog 57 #[.pointer (some ⟨s, 0, none⟩), .int .u64 i, u] w fun e w' => e = .returned (.tuple #[]) ∧ KeptO w w' s d j b v rs os o sz cut FJ O O' F := by
  have c1 := h.c1
  have hb0 := (idOf_bounds (obB o)).1
  have hb1 := (idOf_bounds (obB o)).2
  obtain ⟨w2, hrun, own2, hg2⟩ := h.own.update keyedI Tryz.underlying113 (by rw [h.msz]; unfold maxLen; omega) (keyOfI (oid o) hb0 hb1) (show rvO u = some (.held u, []) from rfl)
  rw [← hi] at hrun
  have hslt := h.lt s h.fs.1
  have ks : w2.heap[s]? = w.heap[s]? := hg2.block s hslt (by simpa using h.sb)
  have c2 : w2.cell? ⟨s, 2, none⟩ = some v := (World.cell?_of_block ks).trans h.c2
  have f2 : w2.frozen? ⟨s, 2, none⟩ = false := (World.frozen?_of_block ks).trans h.f2
  have hr2 : w2.ownsRow 0 31 1 v os.length ((oids os).map (Value.int .u64)) := row_moved h.row fun g hg => hg2.block g (row_block h.row g hg).2.1 (by simpa using (h.vo g hg).2.1)
  have hr3 := hr2.alloc (.cells #[.int .u64 i] 31)
  obtain ⟨i0, hi0, hzz0, hzz1, hzz2⟩ := info_parts infoId
  have HH : Hid (StAt w s d j b M v rs os sz cut FJ O F) := h
  have HO : Hid (Held O' o u w) := hO
  have H2 : Hid (w2.ownsMap Tryz.prog 31 rvO b (size M + 1) (M.put (.int .u64 (oid o)) (.held u)) ∧ w.grownBy w2 (some b)) := ⟨own2, hg2⟩
  have hvs : Hid (v.ownBlock ≠ some s) := fun e => (h.vo s e).1 rfl
  have HI : Hid (i = oid o) := hi
  have hs2 := hg2.size
  obtain ⟨ad, cp, rfl, _⟩ := row_shape hr2
  have hs4 : s < w2.heap.size := by omega
  have hs3 : s < (w2.alloc (.cells #[.int .u64 i] 31)).heap.size := by simp; omega
  clear h hO own2 hg2 hr2 hi ks hb0 hb1
  generalize hN : os.length = N at *
  have HN : Hid (os.length = N) := hN
  clear hN
  go_enter Tryz.func57, Tryz.ntmps57
  go_wp2_with (at_builtin; refine wpList_append_own_at _ rfl _ _ 28 rfl 0 31 i0 (.int .u64 0) 1 8 Tryz.underlying28 hi0 hzz0 hzz1 hzz2 rfl (by decide) _ N _ rfl hr3 ⟨_, 0, none⟩ 1 1 [.int .u64 i] rfl rfl (cell_one_new _ _ _) (by simp [Value.oneCell']) (by unfold maxLen; omega) (by omega) (by omega) ?_; intro v' w5 hown5 hgr5 _ hat5; have ks5 : w5.heap[s]? = w2.heap[s]? := (hgr5.block s hs3 (fun e => hvs.out e.symm)).trans (Below.heap_alloc _ _ _ hs4); have c25 : w5.cell? ⟨s, 2, none⟩ = some (.slice ad N cp) := (World.cell?_of_block ks5).trans c2; have f25 : w5.frozen? ⟨s, 2, none⟩ = false := (World.frozen?_of_block ks5).trans f2; have H5 : Hid (w5.ownsRow 0 31 1 v' (N + 1) (List.map (Value.int IntKind.u64) (oids os) ++ [Value.int IntKind.u64 i]) ∧ (w2.alloc (.cells #[.int .u64 i] 31)).grownBy w5 (Value.slice ad N cp).ownBlock ∧ (v'.ownBlock = (Value.slice ad N cp).ownBlock ∨ v'.ownBlock = some (w2.alloc (.cells #[.int .u64 i] 31)).heap.size)) := ⟨hown5, hgr5, hat5⟩; clear hgr5 hat5 ks5 c2 f2; obtain ⟨ad5, cp5, hv5, _⟩ := row_shape hown5; clear hown5; subst hv5)
  go_end0
  obtain ⟨ho5, hg5, hat5⟩ := H5.out
  obtain ⟨own2, hg2⟩ := H2.out
  have hh := HH.out
  have hsz5 : w2.heap.size + 1 ≤ w5.heap.size := by have := hg5.size; simpa using this
  have hv5 : ∀ g, (Value.slice ad5 (N + 1) cp5).ownBlock = some g → (Value.slice ad N cp).ownBlock = some g ∨ w2.heap.size ≤ g := fun g hg => hat5.elim (fun e => .inl (by rw [← e]; exact hg)) (fun e => .inr (by rw [e] at hg; simp at hg; omega))
  have hk5 : ∀ k, k < w2.heap.size → (Value.slice ad N cp).ownBlock ≠ some k → w5.heap[k]? = w2.heap[k]? := fun k hk hne => (hg5.block k (by simp; omega) (fun e => hne e.symm)).trans (Below.heap_alloc _ _ _ hk)
  have hi := HI.out
  have hm := hh.more o u hf hgood HO.out hO' own2 hg2 (v' := .slice ad5 (N + 1) cp5) (w3 := w5) (by rw [HN.out, ← hi]; exact ho5) hk5 (by omega) hv5
  refine ⟨rfl, ⟨hg5.os.trans hg2.os, hg5.tape.trans hg2.tape, hg5.output.trans hg2.output, by rw [World.size_setCell]; omega, fun k hk hn => ?_⟩, _, _, hm, fun g hg => ?_⟩
  · have n1 : k ≠ s := fun e => hn (.inl e)
    have n2 : k ≠ b := fun e => hn (.inr (.inl e))
    have n3 : (Value.slice ad N cp).ownBlock ≠ some k := fun e => hn (.inr (.inr e))
    rw [Below.heap_setCell _ _ _ _ (by exact n1), hk5 k (by omega) n3]
    exact hg2.block k hk (by simpa using n2)
  · rcases hv5 g hg with e | e
    · exact .inl e
    · refine .inr ⟨by omega, ?_⟩
      obtain ⟨_, _, cur, hc⟩ := row_block hm.row g hg
      exact ⟨_, hc, rfl⟩

theorem again_any (i : Int) (same : Bool) (w : World) : Calls Tryz.prog 54 #[.int .u64 i, .bool same] w fun e w' => e = .returned (.tuple #[.int .u64 (if same = true then i else 0), .int .i64 (if same = true then 0 else 7)]) ∧ w' = w := by
  cases same
  · go_enter Tryz.func54, Tryz.ntmps54
    go_wp2
    go_ret2
    exact ⟨rfl, rfl⟩
  · go_enter Tryz.func54, Tryz.ntmps54
    go_wp2
    go_ret2
    exact ⟨rfl, rfl⟩

/-- what lies behind an Append of the store's journal -/
def Wrote (w w' : World) (s d j b : Nat) (M : DataW Value) (v : Value) (rs : List (List UInt8)) (os : List Ob) (sz : Nat) (FJ O F : Nat → Prop) (S : DG) (G : Nat → Prop) (l : List UInt8) (er : Int) : Prop :=
  Turn (fun k => FJ k ∨ G k) w w' ∧ ∃ FJ' G', IsDisk w' d (S.app objNm.data.toList (recB l)).1 G' ∧ (∀ k, FJ' k → FJ k ∨ w.heap.size ≤ k) ∧ (∀ k, G' k → G k ∨ w.heap.size ≤ k) ∧ (∀ k, (F k ∨ FJ' k) → ¬ G' k) ∧
    ((er = 0 ∧ StAt w' s d j b M v (rs ++ [l]) os (sz + (recB l).length) false FJ' O (fun k => F k ∨ FJ' k)) ∨ (er ≠ 0 ∧ StAt w' s d j b M v rs os sz (decide (er = 6)) FJ' O (fun k => F k ∨ FJ' k)))
theorem write_any (w : World) (s d j b : Nat) (M : DataW Value) (v : Value) (rs : List (List UInt8)) (os : List Ob) (sz : Nat) (FJ O F : Nat → Prop) (h : StAt w s d j b M v rs os sz false FJ O F) (S : DG) (G : Nat → Prop) (hd : IsDisk w d S G) (hFG : ∀ k, F k → ¬ G k)
    (a : Option Addr) (m c : Nat) (l : List UInt8) (hb : Bytes w a m l) (hm : m ≤ 262144) (ha : 0 < m → ∀ x, a = some x → ¬ F x.block ∧ ¬ G x.block) (hn : os.length < 65536) (hbs : (S.bs objNm.data.toList).length ≤ 4194304) (hsz : sz ≤ (S.bs objNm.data.toList).length) (hSn : S.n ≤ 256) (hw : S.wr < 4000000000000000000) :
    Calls Tryz.prog 56 #[.pointer (some ⟨s, 0, none⟩), .slice a m c] w fun e w' => e = .returned (.int .i64 (S.app objNm.data.toList (recB l)).2) ∧ Wrote w w' s d j b M v rs os sz FJ O F S G l (S.app objNm.data.toList (recB l)).2 := by
  have c2 := h.c2
  have c0 := h.c0
  have hx : Calls Tryz.prog 78 #[.pointer (some ⟨j, 0, none⟩), .slice a m c] w fun e w' => e = .returned (.int .i64 (S.app objNm.data.toList (recB l)).2) ∧ Wrote w w' s d j b M v rs os sz FJ O F S G l (S.app objNm.data.toList (recB l)).2 := by
    refine (jappend_any w j d objNm rs sz FJ S G h.jr hd (fun k hk => hFG k (h.fj k hk)) a m c l hb hm (fun h0 x hx => ⟨fun hf => (ha h0 x hx).1 (h.fj _ hf), (ha h0 x hx).2⟩) (by simp [objNm, ByteArray.size, maxLen]) hbs hsz hSn hw).mono ?_
    rintro e w' ⟨he, hT, FJ', G', hd', hF', hG', hFG', hc⟩
    refine ⟨he, hT, FJ', G', hd', hF', hG', fun k hk hg => hk.elim (fun hf => (hG' k hg).elim (hFG k hf) (fun e => by have := h.lt k hf; omega)) (fun hf => hFG' k hf hg), ?_⟩
    rcases hc with ⟨h0, hJ⟩ | ⟨h0, hJ⟩
    · exact .inl ⟨h0, h.moved hT hFG hJ hF'⟩
    · exact .inr ⟨h0, h.moved hT hFG hJ hF'⟩
  obtain ⟨ad, c', rfl, _⟩ := row_shape h.row
  have i1 : ¬ (65536 : Int) ≤ (os.length : Int) := by omega
  clear h hn hd hbs hsz
  generalize (S.app objNm.data.toList (recB l)).2 = er at *
  generalize hN : os.length = N at c2 i1 hx ⊢
  clear hN
  go_enter Tryz.func56, Tryz.ntmps56
  go_wp2_with (go_at_call 78; refine hx.mono ?_; clear hx; rintro e w1 ⟨rfl, h1⟩)
  go_ret
  exact ⟨rfl, h1⟩
end Go.Proofs.YtncagdfbgpdhfaaGreat

/- The walk of Put. -/
namespace Go.Proofs.YtncagdfbgpdhfaaGreat
open Go.RowKit Go.Maps

attribute [local go_sem] Oper.semAt_some

theorem Encode_own {o : Ob} {v : Value} (W : World) (h : ObAt o v W) (h0 : obErr o = 0) : Calls Tryz.prog 52 #[v] W fun e w' => ∃ ad cp, e = .returned (.tuple #[.slice ad (obB o).length cp, .int .i64 0]) ∧ OwnB W.heap.size (obB o) (.slice ad (obB o).length cp) w' ∧ Below W.heap.size W w' := by
  cases o with
  | blob b =>
    obtain ⟨ad, cp, rfl, h2, h3, h4⟩ := h
    have hb : b.length ≤ 4096 := by
      have h0' : blobErr b.length = 0 := h0
      unfold blobErr at h0'
      split at h0'
      · omega
      · omega
    refine (Encode_blob ad _ cp b W h2 h3 hb).mono fun e w' hx => ?_
    obtain ⟨v, rfl, ho, hB⟩ := hx
    have ho' : OwnB W.heap.size (98 :: b) v w' := ⟨ho⟩
    obtain ⟨a', c', rfl, _⟩ := ho'.shape rfl
    exact ⟨a', c', rfl, ho', hB⟩
  | tree l =>
    obtain ⟨ad, cp, rfl, h2, h3, h4⟩ := h
    refine (Encode_tree ad _ cp l W h2 h3 h4 h0).mono fun e w' hx => ?_
    obtain ⟨v, rfl, ho', hB⟩ := hx
    obtain ⟨a', c', rfl, _⟩ := ho'.shape rfl
    exact ⟨a', c', rfl, ho', hB⟩
  | com c =>
    obtain ⟨ad, cp, rfl, h2⟩ := h
    refine (Encode_com _ _ _ _ _ _ _ _ W h2 h0).mono fun e w' hx => ?_
    obtain ⟨v, rfl, ho', hB⟩ := hx
    obtain ⟨a', c', rfl, _⟩ := ho'.shape rfl
    exact ⟨a', c', rfl, ho', hB⟩
theorem obB_len {o : Ob} {v : Value} {W : World} (h : ObAt o v W) (h0 : obErr o = 0) : (obB o).length ≤ 16384 := by
  cases o with
  | blob b =>
    have h0' : blobErr b.length = 0 := h0
    unfold blobErr at h0'
    simp only [obB, List.length_cons]
    split at h0'
    · omega
    · omega
  | tree l =>
    obtain ⟨ad, cp, rfl, h2, h3, h4⟩ := h
    obtain ⟨f1, f2⟩ := fits_of h3 h0
    have := entsB_len l f2 l.length (Nat.le_refl _)
    rw [List.take_length] at this
    have := short_len l.length
    simp only [obB, treeB, List.length_cons, List.length_append]
    omega
  | com c =>
    exact comB_len _ h0

set_option maxRecDepth 20000 in
set_option maxHeartbeats 1000000 in
theorem sput_there (w : World) (s d j b : Nat) (M : DataW Value) (u : Value) (rs : List (List UInt8)) (os : List Ob) (sz : Nat) (cut : Bool) (FJ O F : Nat → Prop) (h : StAt w s d j b M u rs os sz cut FJ O F) (v : Value) (o p : Ob) (hv : ObAt o v w) (h0 : obErr o = 0) (hf : findO os (oid o) = some p) :
    Calls Tryz.prog 36 #[.pointer (some ⟨s, 0, none⟩), v] w fun e w' => e = .returned (.tuple #[.int .u64 (if obB p = obB o then oid o else 0), .int .i64 (if obB p = obB o then 0 else 7)]) ∧ Below w.heap.size w w' := by
  have hx := Encode_own w hv h0
  have hlen := obB_len hv h0
  have hgood := h.good p (findO_mem hf).1
  have hi0 := (idOf_bounds (obB o)).1
  have hi1 := (idOf_bounds (obB o)).2
  obtain ⟨pu, hpu, hl⟩ := h.there (oid o) hi0 hi1 p hf
  have HL : Hid (∀ W : World, Below w.heap.size w W → W.cell? ⟨s, 1, none⟩ = some (.map (some b)) ∧ (Instr.lookup 113 (.map (some b)) (.int .u64 (oid o)) true).run Tryz.prog W = .ok (.tuple #[pu, .bool true]) W) := fun W hB => ⟨(h.below hB).c1, hl W (hB.block b (h.lt b h.fs.2))⟩
  have HS : Hid (∀ W : World, Below w.heap.size w W → Calls Tryz.prog 55 #[pu, v] W fun e w' => e = .returned (.bool (decide (obB p = obB o))) ∧ Below W.heap.size W w') := fun W hB =>
    Same_ob W (hpu.kept fun k hk => hB.block k (h.lt k (h.fo k hk))).get.1 (hv.below hB) hgood h0
  have HID : Hid (∀ W ad n c, n = (obB o).length → Bytes W ad n (obB o) → Calls Tryz.prog 53 #[.slice ad n c] W fun e w' => e = .returned (.int .u64 (oid o)) ∧ w' = W) := fun W ad n c hn hb => Id_any ad n c (obB o) W hb (by unfold maxLen; omega)
  clear hl hpu h hv hf hgood hi0 hi1
  have HD : Hid (∀ (c : Bool), c = decide (obB p = obB o) → (if obB p = obB o then oid o else 0) = (if c = true then oid o else 0) ∧ ((if obB p = obB o then (0 : Int) else 7) = (if c = true then 0 else 7))) := by
    intro c hc
    by_cases e : obB p = obB o
    · simp [hc, e]
    · simp [hc, e]
  obtain ⟨C, hC⟩ : ∃ C, C = decide (obB p = obB o) := ⟨_, rfl⟩
  rw [(HD.out C hC).1, (HD.out C hC).2]
  rw [← hC] at HS
  generalize hT : obB o = T at *
  generalize oid o = I at *
  have hTn : Hid (T.length = T.length) := rfl
  generalize hn : T.length = n at *
  have Hn : Hid (n = T.length) := hn.symm
  clear hn hC HD hTn hT
  have HA : Hid (∀ W, Calls Tryz.prog 54 #[.int .u64 I, .bool C] W fun e w' => e = .returned (.tuple #[.int .u64 (if C = true then I else 0), .int .i64 (if C = true then 0 else 7)]) ∧ w' = W) := fun W => again_any I C W
  generalize (if C = true then I else 0) = I' at *
  generalize (if C = true then (0 : Int) else 7) = E' at *
  go_enter Tryz.func36, Tryz.ntmps36
  go_wp2_with first
    | (go_at_call 52; refine hx.mono ?_; clear hx; rintro e w1 ⟨ad, cp, rfl, ho, hB1⟩; have hy : Bytes w1 ad n T := ho.bytes Hn.out.symm; obtain ⟨c1, hl⟩ := HL.out w1 hB1; clear ho)
    | (go_at_call 53; refine (HID.out _ ad n cp rfl hy).mono ?_; rintro e w2 ⟨rfl, h2⟩; subst h2)
    | (go_at_call 55; refine (HS.out _ hB1).mono ?_; rintro e w3 ⟨rfl, hB3⟩)
    | (go_at_call 54; refine (HA.out _).mono ?_; rintro e w4 ⟨rfl, h4⟩; subst h4)
  go_ret2
  exact ⟨rfl, hB1.trans (hB3.mono hB1.size)⟩
/-- what lies behind a Put that writes -/
def PutDone (w w' : World) (s d : Nat) (os : List Ob) (sz : Nat) (F : Nat → Prop) (S : DG) (G : Nat → Prop) (o : Ob) (er : Int) : Prop :=
  Turn (fun k => F k ∨ G k) w w' ∧ ∃ F' G', IsDisk w' d (S.app objNm.data.toList (recB (obB o))).1 G' ∧ (∀ k, F' k → F k ∨ w.heap.size ≤ k) ∧ (∀ k, G' k → G k ∨ w.heap.size ≤ k) ∧ (∀ k, F' k → ¬ G' k) ∧
    ((er = 0 ∧ IsSt w' s d (os ++ [o]) (sz + (recB (obB o)).length) false F') ∨ (er ≠ 0 ∧ IsSt w' s d os sz (decide (er = 6)) F'))
set_option maxRecDepth 20000 in
set_option maxHeartbeats 2000000 in
theorem sput_new (w : World) (s d : Nat) (os : List Ob) (sz : Nat) (F : Nat → Prop) (h : IsSt w s d os sz false F) (S : DG) (G : Nat → Prop) (hd : IsDisk w d S G) (hFG : ∀ k, F k → ¬ G k) (v : Value) (o : Ob) (hv : ∀ W, Turn (fun k => F k ∨ G k) w W → ObS o v W) (h0 : obErr o = 0) (hf : findO os (oid o) = none)
    (hn : os.length < 65536) (hbs : (S.bs objNm.data.toList).length ≤ 4194304) (hsz : sz ≤ (S.bs objNm.data.toList).length) (hSn : S.n ≤ 256) (hw : S.wr < 4000000000000000000) :
    Calls Tryz.prog 36 #[.pointer (some ⟨s, 0, none⟩), v] w fun e w' => e = .returned (.tuple #[.int .u64 (if (S.app objNm.data.toList (recB (obB o))).2 = 0 then oid o else 0), .int .i64 (S.app objNm.data.toList (recB (obB o))).2]) ∧ PutDone w w' s d os sz F S G o (S.app objNm.data.toList (recB (obB o))).2 := by
  obtain ⟨j, b, M, u, FJ, O, h⟩ := h
  have hv0 := hv w (Turn.refl _ _)
  have hx := Encode_own w hv0.1 h0
  have hlen := obB_len hv0.1 h0
  have hi0 := (idOf_bounds (obB o)).1
  have hi1 := (idOf_bounds (obB o)).2
  have HL : Hid (∀ W : World, Below w.heap.size w W → W.cell? ⟨s, 1, none⟩ = some (.map (some b)) ∧ (Instr.lookup 113 (.map (some b)) (.int .u64 (oid o)) true).run Tryz.prog W = .ok (.tuple #[.nilIface, .bool false]) W) := fun W hB => ⟨(h.below hB).c1, h.not (oid o) hi0 hi1 hf W (hB.block b (h.lt b h.fs.2))⟩
  have HID : Hid (∀ W ad n c, n = (obB o).length → Bytes W ad n (obB o) → Calls Tryz.prog 53 #[.slice ad n c] W fun e w' => e = .returned (.int .u64 (oid o)) ∧ w' = W) := fun W ad n c hn hb => Id_any ad n c (obB o) W hb (by unfold maxLen; omega)
  have HW : Hid (∀ W ad n c, n = (obB o).length → Below w.heap.size w W → OwnB w.heap.size (obB o) (.slice ad n c) W → Calls Tryz.prog 56 #[.pointer (some ⟨s, 0, none⟩), .slice ad n c] W fun e w' => e = .returned (.int .i64 (S.app objNm.data.toList (recB (obB o))).2) ∧ Wrote W w' s d j b M u (os.map obB) os sz FJ O F S G (obB o) (S.app objNm.data.toList (recB (obB o))).2) := by
    intro W ad n c hn' hB ho
    subst hn'
    refine write_any W s d j b M u _ os sz FJ O F (h.below hB) S G (hd.below hB) hFG ad _ c (obB o) (ho.bytes rfl) (by omega) (fun h0 x hx => ?_) hn hbs hsz hSn hw
    have := (row_block ho.row x.block (by
      subst hx
      obtain ⟨ad', c', e, _⟩ := row_shape ho.row
      rcases ho.row.2 with ⟨e, _⟩ | ⟨g, cap, cur, e, _⟩
      · cases e
      · cases e; rfl)).1
    exact ⟨fun hf => by have := h.lt _ hf; omega, fun hg => by have := hd.lt _ hg; omega⟩
  have HK : Hid (∀ W1 W2 er, Below w.heap.size w W1 → er = 0 → Wrote W1 W2 s d j b M u (os.map obB) os sz FJ O F S G (obB o) er → ObS o v W2 ∧ ∀ W3 cu, Below W2.heap.size W2 W3 → Held (Fresh W2.heap.size W3) o cu W3 → Calls Tryz.prog 57 #[.pointer (some ⟨s, 0, none⟩), .int .u64 (oid o), cu] W3 fun e w' => e = .returned (.tuple #[]) ∧ PutDone w w' s d os sz F S G o er) := by
    intro W1 W2 er hB1 her hW
    obtain ⟨hT, FJ', G', hd', hF', hG', hFG', hc⟩ := hW
    have hT0 : Turn (fun k => F k ∨ G k) w W2 := (Turn.of_below _ hB1).trans hT (fun i _ e => e.imp (h.fj i) id)
    refine ⟨hv W2 hT0, fun W3 cu hB3 hu => ?_⟩
    rcases hc with ⟨_, hS⟩ | ⟨hne, _⟩
    · have hS3 := hS.below hB3
      refine (keep_any W3 s d j b M u _ os _ false FJ' O _ hS3 o cu (oid o) rfl hf h0 (Fresh W2.heap.size W3) hu (fun k hk => ⟨hk.lt, fun hf => by have := hS.lt k hf; have := hk.1; omega⟩) (by omega)).mono ?_
      rintro e w' ⟨he, hT4, M', v', hS4, hv'⟩
      have hdl := hd'.lt
      have hF3 : ∀ k, (k = s ∨ k = b ∨ u.ownBlock = some k) → F k := fun k hk => by
        rcases hk with rfl | rfl | e
        · exact h.fs.1
        · exact h.fs.2
        · exact (h.vo k e).2.2.2.2
      have hs1 := hB1.size
      have hs3 := hB3.size
      have hs2 := hT.size
      refine ⟨he, (hT0.trans (Turn.of_below (fun k => F k ∨ G k) hB3) (fun _ _ e => e)).trans hT4 (fun i _ e => .inl (hF3 i e)), (fun k => ((F k ∨ FJ' k) ∧ u.ownBlock ≠ some k) ∨ Fresh W2.heap.size W3 k ∨ v'.ownBlock = some k), G', ((hd'.below hB3).turn hT4 (fun k hk e => hFG' k (.inl (hF3 k e)) hk)), ?_, fun k hk => (hG' k hk).imp id (fun e => by omega), ?_, .inl ⟨her, j, b, M', v', FJ', (fun k => O k ∨ Fresh W2.heap.size W3 k), (by rw [List.map_append]; exact hS4)⟩⟩
      · intro k hk
        rcases hk with ⟨hk | hk, _⟩ | hk | hk
        · exact .inl hk
        · exact (hF' k hk).imp (h.fj k) (fun e => by omega)
        · exact .inr (by have := hk.1; omega)
        · rcases hv' k hk with e | e
          · exact .inl (h.vo k e).2.2.2.2
          · exact .inr (by omega)
      · intro k hk hg
        rcases hk with ⟨hk, _⟩ | hk | hk
        · exact hFG' k hk hg
        · have := hk.1; have := hdl k hg; omega
        · rcases hv' k hk with e | e
          · exact hFG' k (.inl (h.vo k e).2.2.2.2) hg
          · have := hdl k hg; omega
    · exact absurd her hne
  have HE : Hid (∀ W1 W2 er, Below w.heap.size w W1 → er ≠ 0 → Wrote W1 W2 s d j b M u (os.map obB) os sz FJ O F S G (obB o) er → PutDone w W2 s d os sz F S G o er) := by
    intro W1 W2 er hB1 her hW
    obtain ⟨hT, FJ', G', hd', hF', hG', hFG', hc⟩ := hW
    have hs1 := hB1.size
    refine ⟨(Turn.of_below _ hB1).trans hT (fun i _ e => e.imp (h.fj i) id), _, G', hd', fun k hk => hk.elim .inl (fun hk => (hF' k hk).imp (h.fj k) (fun e => by omega)), fun k hk => (hG' k hk).imp id (fun e => by omega), hFG', ?_⟩
    rcases hc with ⟨h0, _⟩ | ⟨_, hS⟩
    · exact absurd h0 her
    · exact .inr ⟨her, j, b, M, u, FJ', O, hS⟩
  have Hgood : Hid (obErr o = 0) := h0
  clear h hf hi0 hi1 hv hv0 hd hFG hn hbs hsz hSn hw h0
  generalize (S.app objNm.data.toList (recB (obB o))).2 = er at *
  generalize hI : oid o = I at *
  obtain ⟨n, hn⟩ : ∃ n, n = (obB o).length := ⟨_, rfl⟩
  have Hn : Hid (n = (obB o).length) := hn
  rw [← hn] at hx hlen
  clear hn
  by_cases her : er = 0
  · subst her
    rw [if_pos rfl]
    go_enter Tryz.func36, Tryz.ntmps36
    go_wp2_with first
      | (go_at_call 52; refine hx.mono ?_; clear hx; rintro e w1 ⟨ad, cp, rfl, ho, hB1⟩; have HO : Hid (OwnB w.heap.size (obB o) (.slice ad n cp) w1) := ho; obtain ⟨c1, hl⟩ := HL.out w1 hB1; clear ho)
      | (go_at_call 53; refine (HID.out _ ad n cp Hn.out (HO.out.bytes Hn.out.symm)).mono ?_; rintro e w2 ⟨rfl, h2⟩; subst h2)
      | (go_at_call 56; refine (HW.out _ ad n cp Hn.out hB1 HO.out).mono ?_; rintro e w3 ⟨rfl, h3⟩; have H3 : Hid (Wrote _ w3 s d j b M u (os.map obB) os sz FJ O F S G (obB o) 0) := h3; clear h3)
      | (go_at_call 58; refine (Copy_ob _ (HK.out _ _ 0 hB1 rfl H3.out).1 Hgood.out).mono ?_; rintro e w4 ⟨cu, rfl, hu, hB4⟩; have H4 : Hid (Held (Fresh w3.heap.size w4) o cu w4) := hu; clear hu)
      | (go_at_call 57; refine ((HK.out _ _ 0 hB1 rfl H3.out).2 w4 cu hB4 H4.out).mono ?_; rintro e w5 ⟨rfl, h5⟩; have H5 : Hid (PutDone w w5 s d os sz F S G o 0) := h5; clear h5)
    go_ret2
    exact ⟨rfl, H5.out⟩
  · have e1 : (er == 0) = false := by simp [her]
    have e2 : (er != 0) = true := by simp [her]
    rw [if_neg her]
    have HNE : Hid (er ≠ 0) := her
    clear her
    go_enter Tryz.func36, Tryz.ntmps36
    go_wp2_with first
      | (go_at_call 52; refine hx.mono ?_; clear hx; rintro e w1 ⟨ad, cp, rfl, ho, hB1⟩; have HO : Hid (OwnB w.heap.size (obB o) (.slice ad n cp) w1) := ho; obtain ⟨c1, hl⟩ := HL.out w1 hB1; clear ho)
      | (go_at_call 53; refine (HID.out _ ad n cp Hn.out (HO.out.bytes Hn.out.symm)).mono ?_; rintro e w2 ⟨rfl, h2⟩; subst h2)
      | (go_at_call 56; refine (HW.out _ ad n cp Hn.out hB1 HO.out).mono ?_; rintro e w3 ⟨rfl, h3⟩; have H3 : Hid (PutDone w w3 s d os sz F S G o er) := HE.out _ _ _ hB1 HNE.out h3; clear h3)
    go_ret2
    exact ⟨rfl, H3.out⟩
end Go.Proofs.YtncagdfbgpdhfaaGreat

/- A range over a function whose body never leaves it, where the body is told what the memory holds of the values that it is handed (Px). Of no program; no law of the library says it. -/
namespace Go.Proofs.YtncagdfbgpdhfaaGreat
open Go.RowKit Go.Shelf

/-- these blocks are as they were -/
def Keep (Kb : Nat → Prop) (W W' : World) : Prop := W.heap.size ≤ W'.heap.size ∧ ∀ k, Kb k → W'.heap[k]? = W.heap[k]?
theorem Keep.refl (Kb : Nat → Prop) (W : World) : Keep Kb W W := ⟨Nat.le_refl _, fun _ _ => rfl⟩
theorem Keep.trans {Kb : Nat → Prop} {X Y Z : World} (h : Keep Kb X Y) (k : Keep Kb Y Z) : Keep Kb X Z := ⟨Nat.le_trans h.1 k.1, fun i hi => (k.2 i hi).trans (h.2 i hi)⟩
theorem Keep.put {Kb : Nat → Prop} {W : World} {l : Nat} (o : Obj) (h : ¬ Kb l) : Keep Kb W (W.putObj l o) := ⟨by simp, fun k hk => World.putObj_heap_other (fun e => h (e ▸ hk))⟩

end Go.Proofs.YtncagdfbgpdhfaaGreat

/- What Each tells: each record with its number, in order, in new memory. -/
namespace Go.Proofs.YtncagdfbgpdhfaaGreat
open Go.RowKit Go.Shelf

attribute [local go_sem] Oper.semAt_some

/-- a record as the loop's body is handed it: its number, its bytes, the slice that leads to them -/
structure Rec where
  k : Nat
  l : List UInt8
  a : Option Addr
  c : Nat
abbrev Rec.encs (x : Rec) : Array Value := #[.int .i64 (x.k : Int), .slice x.a x.l.length x.c]
/-- what the memory holds of it -/
def Rec.ok (rs : List (List UInt8)) (pre : List Rec) (x : Rec) (W : World) : Prop := x.k = pre.length ∧ x.k < rs.length ∧ x.l = rc rs x.k ∧ Bytes W x.a x.l.length x.l

theorem each_any (w : World) (p : Option Addr) : Calls Tryz.prog 50 #[.pointer p] w fun e w' => e = .returned (.func (.func 70) #[] #[.pointer (some ⟨w.heap.size, 0, none⟩)]) ∧ w' = w.alloc (.cells #[.pointer p] 110) := by
  go_enter Tryz.func50, Tryz.ntmps50
  go_wp2
  go_ret
  exact ⟨rfl, rfl⟩

/-- what has come when k rounds are over -/
def Came (rs : List (List UInt8)) (k : Nat) (xs : List Rec) : Prop := xs.length = k ∧ ∀ i x, xs[i]? = some x → x.k = i ∧ x.l = rc rs i

theorem Came.snoc {rs : List (List UInt8)} {k : Nat} {xs : List Rec} (h : Came rs k xs) (x : Rec) (h1 : x.k = k) (h2 : x.l = rc rs k) : Came rs (k + 1) (xs ++ [x]) := by
  refine ⟨by rw [List.length_append, h.1]; rfl, fun i y hy => ?_⟩
  by_cases hi : i < xs.length
  · rw [List.getElem?_append_left hi] at hy
    exact h.2 i y hy
  · rw [List.getElem?_append_right (by omega)] at hy
    have h0 : i - xs.length = 0 := by
      by_cases e : i - xs.length = 0
      · exact e
      · obtain ⟨j, hj⟩ : ∃ j, i - xs.length = j + 1 := ⟨i - xs.length - 1, by omega⟩
        rw [hj] at hy; simp at hy
    rw [h0] at hy
    simp at hy
    subst hy
    have : i = k := by have := h.1; omega
    subst this
    exact ⟨h1, h2⟩

end Go.Proofs.YtncagdfbgpdhfaaGreat
