import Derived.Test.YtdjodigimhgklaaGreatDoorMD20
import Derived.Test.YtdjodigimhgklaaGreatDoorMD12
import Derived.Test.YtdjodigimhgklaaGreatDoorMD21
import Derived.Test.YtdjodigimhgklaaGreatDoorMD08
import Derived.Test.YtdjodigimhgklaaGreatDoorMD01
import Derived.RangeFuncBox
import Derived.RangeFuncWrites
import Derived.Test.YtdjodigimhgklaaGreatDoorMD16
import Derived.Test.YtdjodigimhgklaaGreatDoorMD22
import Derived.Test.YtdjodigimhgklaaGreatDoorMD18
import Derived.Test.YtdjodigimhgklaaGreatDoorMD03
/- The walk of Open. -/
namespace Go.Proofs.YtdjodigimhgklaaGreatDoor
open Go.RowKit

/-- Open of no disk -/
theorem jopen_nil (w : World) (s : ByteArray) : Calls Tryz.prog 36 #[.pointer none, .string s] w fun e w' => e = .returned (.tuple #[.pointer none, .int .i64 1]) ∧ w' = w := by
  go_enter Tryz.func36, Tryz.ntmps36
  go_wp2
  go_ret2
  exact ⟨rfl, rfl⟩

/-- a Journal just made -/
theorem JAt.new (w : World) (d : Nat) (nm : ByteArray) : JAt (w.alloc (.cells #[.pointer (some ⟨d, 0, none⟩), .string nm, .slice none 0 0, .int .i64 0, .slice none 0 0, .int .i64 0, .bool false] 137)) w.heap.size d nm [] 0 false (fun k => k = w.heap.size) := by
  refine { c0 := by simp, c1 := by simp, pay := ?_, c5 := by simp, c6 := by simp, f5 := by simp, f6 := by simp, fj := rfl, lt := fun k hk => by subst hk; simp, cnt := by simp, small := by simp }
  refine ⟨0, 0, [], .slice none 0 0, .slice none 0 0, [], ?_, by simp [Value.ownBlock], by simp [Value.ownBlock]⟩
  exact { ca := by simp, cu := by simp, cl := by simp, fa := by simp, fu := by simp, fl := by simp, arr := World.ownsRow_nil _ _ _ _, sh := .inl ⟨rfl, rfl⟩, pre := rfl, fit := by simp, row := World.ownsRow_nil _ _ _ _, el := fun k hk => by simp at hk, gp := by simp [Value.ownBlock], vp := by simp [Value.ownBlock], gv := by simp [Value.ownBlock] }

/-- what Open leaves of a disk, and what it answers -/
def DG.opened (S : DG) (nm : List UInt8) : DG × Int :=
  if (parseL (S.bs nm)).2.2 = true then (S, 8) else if (parseL (S.bs nm)).2.1 < (S.bs nm).length then S.trunc nm (parseL (S.bs nm)).2.1 else (S, 0)

/-- what lies behind an Open -/
def Opened (w w' : World) (d : Nat) (S : DG) (Gp : Nat → Prop) (s : ByteArray) (e : Ending) : Prop :=
  Turn Gp w w' ∧ ∃ G', IsDisk w' d (S.opened s.data.toList).1 G' ∧ (∀ k, G' k → Gp k ∨ w.heap.size ≤ k) ∧
    (((S.opened s.data.toList).2 ≠ 0 ∧ e = .returned (.tuple #[.pointer none, .int .i64 (S.opened s.data.toList).2])) ∨
     ((S.opened s.data.toList).2 = 0 ∧ ∃ j F, e = .returned (.tuple #[.pointer (some ⟨j, 0, none⟩), .int .i64 0]) ∧ JAt w' j d s (parseL (S.bs s.data.toList)).1 (parseL (S.bs s.data.toList)).2.1 false F ∧ (∀ k, F k → w.heap.size ≤ k) ∧ (∀ k, F k → ¬ G' k)))

theorem parseL_len (l : List UInt8) : (parseL l).2.1 ≤ l.length := (parseL_bounds l).2

theorem trunc_err (S : DG) (nm : List UInt8) (n : Nat) (h0 : 0 < (S.bs nm).length) (hn : n < (S.bs nm).length) : S.trunc nm n = if S.can = true then (S.done.set nm ((S.bs nm).take n), 0) else (S, 6) := by
  unfold DG.trunc
  have h1 : S.f nm ≠ none := fun e => by unfold DG.bs at h0; rw [e] at h0; simp at h0
  rw [if_neg h1, if_neg (by omega), if_neg (by omega)]
  simp

set_option maxRecDepth 20000 in
set_option maxHeartbeats 4000000 in
theorem jopen_any (w : World) (d : Nat) (S : DG) (Gp : Nat → Prop) (s : ByteArray) (hd : IsDisk w d S Gp) (hs : s.size ≤ maxLen) (hbig : (S.bs s.data.toList).length ≤ 4194304) (hw : S.wr < 4611686018427387904) (hn : S.n < maxLen) :
    Calls Tryz.prog 36 #[.pointer (some ⟨d, 0, none⟩), .string s] w fun e w' => Opened w w' d S Gp s e := by
  have hb4 : (S.bs s.data.toList).length ≤ 140737488355328 := by omega
  have hx1 := read_any d S Gp w s hd hs hb4
  obtain ⟨bs, hbs⟩ : ∃ bs, bs = S.bs s.data.toList := ⟨_, rfl⟩
  have HS : Hid (bs = S.bs s.data.toList) := hbs
  rw [← hbs] at hx1 hbig
  clear hbs hb4
  obtain ⟨n, hn'⟩ : ∃ n, n = bs.length := ⟨_, rfl⟩
  have Hn : Hid (n = bs.length) := hn'
  rw [← hn'] at hx1 hbig
  clear hn'
  have herr : S.err s.data.toList = 0 ∨ S.err s.data.toList = 4 := by unfold DG.err; split <;> simp
  obtain ⟨er, her⟩ : ∃ er, er = S.err s.data.toList := ⟨_, rfl⟩
  rw [← her] at hx1 herr
  clear her
  have hdlt := hd.lt
  have HD : Hid (IsDisk w d S Gp) := hd
  clear hd
  go_enter Tryz.func36, Tryz.ntmps36
  go_wp2_with fail
  refine hx1.mono ?_
  rintro e w1 ⟨a, c, rfl, hown, hB1, hnc, hnil⟩
  obtain ⟨hb1, hab⟩ := ownsRow_toBytes hown
  clear hx1 hown
  have hs1 := hB1.size
  have hJ0 := JAt.new w1 d s
  have hB2 : Below w.heap.size w (w1.alloc (.cells #[.pointer (some ⟨d, 0, none⟩), .string s, .slice none 0 0, .int .i64 0, .slice none 0 0, .int .i64 0, .bool false] 137)) := hB1.alloc hB1.size _
  have hb2 : Bytes (w1.alloc (.cells #[.pointer (some ⟨d, 0, none⟩), .string s, .slice none 0 0, .int .i64 0, .slice none 0 0, .int .i64 0, .bool false] 137)) a n bs := (Turn.of_below (fun _ => False) ((Below.refl _ w1).alloc (Nat.le_refl _) _)).bytes hb1 (fun _ _ _ => id)
  have hx2 := jread_any _ w1.heap.size d s _ hJ0 a n c bs hb2 hbig
  obtain ⟨w2, hw2⟩ : ∃ w2, w2 = w1.alloc (.cells #[.pointer (some ⟨d, 0, none⟩), .string s, .slice none 0 0, .int .i64 0, .slice none 0 0, .int .i64 0, .bool false] 137) := ⟨_, rfl⟩
  have hs2 : w2.heap.size = w1.heap.size + 1 := by rw [hw2]; simp
  rw [← hw2] at hx2 hB2
  clear hJ0 hb2 hb1
  have HK : Hid (∀ w3, Turn (fun k => k = w1.heap.size) w2 w3 → Turn Gp w w3 ∧ IsDisk w3 d S Gp) := fun w3 hT3 =>
    ⟨(Turn.of_below Gp hB2).trans hT3 (fun i hi e => by omega), (HD.out.below hB2).turn hT3 (fun k hk e => by have := hdlt k hk; omega)⟩
  rcases herr with rfl | rfl
  · go_wp2_with fail
    rw [← hw2]
    clear hw2
    refine hx2.mono ?_
    clear hx2
    rintro e w3 ⟨hT3, (⟨hwr, rfl⟩ | ⟨hok, rfl, hJ3⟩)⟩
    · have HT3 : Hid (Turn Gp w w3 ∧ IsDisk w3 d S Gp) := HK.out w3 hT3
      clear hT3
      go_wp2
      go_ret2
      rw [HS.out] at hwr
      have hO : S.opened s.data.toList = (S, 8) := by unfold DG.opened; rw [if_pos hwr]
      refine ⟨HT3.out.1, Gp, by rw [hO]; exact HT3.out.2, fun k hk => .inl hk, .inl ⟨by rw [hO]; simp, by rw [hO]; rfl⟩⟩
    · have HT3 : Hid (Turn Gp w w3 ∧ IsDisk w3 d S Gp) := HK.out w3 hT3
      have hs3 := hT3.size
      clear hT3
      obtain ⟨Z, hZ⟩ : ∃ Z, Z = (parseL bs).2.1 := ⟨_, rfl⟩
      have HZ : Hid (Z = (parseL bs).2.1 ∧ (parseL bs).2.2 = false) := ⟨hZ, hok⟩
      rw [← hZ] at hJ3
      clear hZ hok
      have c5 := hJ3.c5
      have HJ3 : Hid (JAt w3 w1.heap.size d s (parseL bs).1 Z false (grow (fun k => k = w1.heap.size) w2 w3)) := hJ3
      have HF : Hid (∀ k, grow (fun k => k = w1.heap.size) w2 w3 k → w.heap.size ≤ k ∧ ¬ Gp k) := fun k hk => by
        have : w.heap.size ≤ k := hk.elim (fun e => by omega) (fun e => by omega)
        exact ⟨this, fun hg => by have := hdlt k hg; omega⟩
      clear hJ3
      by_cases hZn : Z < n
      · have i1 : (Z : Int) < (n : Int) := by omega
        have hx4 := truncate_any d S Gp w3 s Z HT3.out.2 hs hw hn (by rw [← HS.out, ← Hn.out]; exact hbig)
        have hte := trunc_err S s.data.toList Z (by rw [← HS.out, ← Hn.out]; omega) (by rw [← HS.out, ← Hn.out]; exact hZn)
        have hO : Hid (S.opened s.data.toList = S.trunc s.data.toList Z) := by
          show _ = _
          unfold DG.opened
          rw [← HS.out, if_neg (by rw [HZ.out.2]; decide), ← HZ.out.1, if_pos (by rw [← Hn.out]; exact hZn)]
        by_cases hcan : S.can = true
        · rw [if_pos hcan] at hte
          have HO : Hid (S.opened s.data.toList = (S.done.set s.data.toList ((S.bs s.data.toList).take Z), 0)) := by show _ = _; rw [hO.out, hte]
          rw [hte] at hx4
          clear hte hO
          go_wp2_with fail
          refine hx4.mono ?_
          rintro e w4 ⟨rfl, hd4, hT4⟩
          have HE : Hid (Turn Gp w w4 ∧ IsDisk w4 d (S.done.set s.data.toList ((S.bs s.data.toList).take Z)) (grow Gp w3 w4) ∧ JAt w4 w1.heap.size d s (parseL bs).1 Z false (grow (fun k => k = w1.heap.size) w2 w3)) :=
            ⟨HT3.out.1.trans hT4 (fun _ _ h => h), hd4, HJ3.out.turn hT4 (fun k hk => (HF.out k hk).2)⟩
          have hlt3 := HJ3.out.lt
          clear hd4 hT4 hx4
          go_wp2
          go_ret2
          refine ⟨HE.out.1, grow Gp w3 w4, by rw [HO.out]; exact HE.out.2.1, fun k hk => hk.elim .inl (fun h => .inr (by have := HT3.out.1.size; omega)), .inr ⟨by rw [HO.out], w1.heap.size, _, rfl, ?_, fun k hk => (HF.out k hk).1, fun k hk hg => hg.elim (HF.out k hk).2 (fun h => by have := hlt3 k hk; omega)⟩⟩
          rw [← HS.out, ← HZ.out.1]; exact HE.out.2.2
        · rw [if_neg hcan] at hte
          have HO : Hid (S.opened s.data.toList = (S, 6)) := by show _ = _; rw [hO.out, hte]
          rw [hte] at hx4
          clear hte hO
          go_wp2_with fail
          refine hx4.mono ?_
          rintro e w4 ⟨rfl, hd4, hT4⟩
          have HE : Hid (Turn Gp w w4 ∧ IsDisk w4 d S (grow Gp w3 w4)) := ⟨HT3.out.1.trans hT4 (fun _ _ h => h), hd4⟩
          clear hd4 hT4 hx4
          go_wp2
          go_ret2
          exact ⟨HE.out.1, grow Gp w3 w4, by rw [HO.out]; exact HE.out.2, fun k hk => hk.elim .inl (fun h => .inr (by have := HT3.out.1.size; omega)), .inl ⟨by rw [HO.out]; simp, by rw [HO.out]; rfl⟩⟩
      · have i1 : ¬ (Z : Int) < (n : Int) := by omega
        have HO : Hid (S.opened s.data.toList = (S, 0)) := by
          show _ = _
          unfold DG.opened
          rw [← HS.out, if_neg (by rw [HZ.out.2]; decide), ← HZ.out.1, if_neg (by rw [← Hn.out]; exact hZn)]
        go_wp2
        go_ret2
        refine ⟨HT3.out.1, Gp, by rw [HO.out]; exact HT3.out.2, fun k hk => .inl hk, .inr ⟨by rw [HO.out], w1.heap.size, _, rfl, ?_, fun k hk => (HF.out k hk).1, fun k hk => (HF.out k hk).2⟩⟩
        rw [← HS.out, ← HZ.out.1]; exact HJ3.out
  · go_wp2_with fail
    rw [← hw2]
    clear hw2
    refine hx2.mono ?_
    clear hx2
    rintro e w3 ⟨hT3, (⟨hwr, rfl⟩ | ⟨hok, rfl, hJ3⟩)⟩
    · have HT3 : Hid (Turn Gp w w3 ∧ IsDisk w3 d S Gp) := HK.out w3 hT3
      clear hT3
      go_wp2
      go_ret2
      rw [HS.out] at hwr
      have hO : S.opened s.data.toList = (S, 8) := by unfold DG.opened; rw [if_pos hwr]
      refine ⟨HT3.out.1, Gp, by rw [hO]; exact HT3.out.2, fun k hk => .inl hk, .inl ⟨by rw [hO]; simp, by rw [hO]; rfl⟩⟩
    · have HT3 : Hid (Turn Gp w w3 ∧ IsDisk w3 d S Gp) := HK.out w3 hT3
      have hs3 := hT3.size
      clear hT3
      obtain ⟨Z, hZ⟩ : ∃ Z, Z = (parseL bs).2.1 := ⟨_, rfl⟩
      have HZ : Hid (Z = (parseL bs).2.1 ∧ (parseL bs).2.2 = false) := ⟨hZ, hok⟩
      rw [← hZ] at hJ3
      clear hZ hok
      have c5 := hJ3.c5
      have HJ3 : Hid (JAt w3 w1.heap.size d s (parseL bs).1 Z false (grow (fun k => k = w1.heap.size) w2 w3)) := hJ3
      have HF : Hid (∀ k, grow (fun k => k = w1.heap.size) w2 w3 k → w.heap.size ≤ k ∧ ¬ Gp k) := fun k hk => by
        have : w.heap.size ≤ k := hk.elim (fun e => by omega) (fun e => by omega)
        exact ⟨this, fun hg => by have := hdlt k hg; omega⟩
      clear hJ3
      by_cases hZn : Z < n
      · have i1 : (Z : Int) < (n : Int) := by omega
        have hx4 := truncate_any d S Gp w3 s Z HT3.out.2 hs hw hn (by rw [← HS.out, ← Hn.out]; exact hbig)
        have hte := trunc_err S s.data.toList Z (by rw [← HS.out, ← Hn.out]; omega) (by rw [← HS.out, ← Hn.out]; exact hZn)
        have hO : Hid (S.opened s.data.toList = S.trunc s.data.toList Z) := by
          show _ = _
          unfold DG.opened
          rw [← HS.out, if_neg (by rw [HZ.out.2]; decide), ← HZ.out.1, if_pos (by rw [← Hn.out]; exact hZn)]
        by_cases hcan : S.can = true
        · rw [if_pos hcan] at hte
          have HO : Hid (S.opened s.data.toList = (S.done.set s.data.toList ((S.bs s.data.toList).take Z), 0)) := by show _ = _; rw [hO.out, hte]
          rw [hte] at hx4
          clear hte hO
          go_wp2_with fail
          refine hx4.mono ?_
          rintro e w4 ⟨rfl, hd4, hT4⟩
          have HE : Hid (Turn Gp w w4 ∧ IsDisk w4 d (S.done.set s.data.toList ((S.bs s.data.toList).take Z)) (grow Gp w3 w4) ∧ JAt w4 w1.heap.size d s (parseL bs).1 Z false (grow (fun k => k = w1.heap.size) w2 w3)) :=
            ⟨HT3.out.1.trans hT4 (fun _ _ h => h), hd4, HJ3.out.turn hT4 (fun k hk => (HF.out k hk).2)⟩
          have hlt3 := HJ3.out.lt
          clear hd4 hT4 hx4
          go_wp2
          go_ret2
          refine ⟨HE.out.1, grow Gp w3 w4, by rw [HO.out]; exact HE.out.2.1, fun k hk => hk.elim .inl (fun h => .inr (by have := HT3.out.1.size; omega)), .inr ⟨by rw [HO.out], w1.heap.size, _, rfl, ?_, fun k hk => (HF.out k hk).1, fun k hk hg => hg.elim (HF.out k hk).2 (fun h => by have := hlt3 k hk; omega)⟩⟩
          rw [← HS.out, ← HZ.out.1]; exact HE.out.2.2
        · rw [if_neg hcan] at hte
          have HO : Hid (S.opened s.data.toList = (S, 6)) := by show _ = _; rw [hO.out, hte]
          rw [hte] at hx4
          clear hte hO
          go_wp2_with fail
          refine hx4.mono ?_
          rintro e w4 ⟨rfl, hd4, hT4⟩
          have HE : Hid (Turn Gp w w4 ∧ IsDisk w4 d S (grow Gp w3 w4)) := ⟨HT3.out.1.trans hT4 (fun _ _ h => h), hd4⟩
          clear hd4 hT4 hx4
          go_wp2
          go_ret2
          exact ⟨HE.out.1, grow Gp w3 w4, by rw [HO.out]; exact HE.out.2, fun k hk => hk.elim .inl (fun h => .inr (by have := HT3.out.1.size; omega)), .inl ⟨by rw [HO.out]; simp, by rw [HO.out]; rfl⟩⟩
      · have i1 : ¬ (Z : Int) < (n : Int) := by omega
        have HO : Hid (S.opened s.data.toList = (S, 0)) := by
          show _ = _
          unfold DG.opened
          rw [← HS.out, if_neg (by rw [HZ.out.2]; decide), ← HZ.out.1, if_neg (by rw [← Hn.out]; exact hZn)]
        go_wp2
        go_ret2
        refine ⟨HT3.out.1, Gp, by rw [HO.out]; exact HT3.out.2, fun k hk => .inl hk, .inr ⟨by rw [HO.out], w1.heap.size, _, rfl, ?_, fun k hk => (HF.out k hk).1, fun k hk => (HF.out k hk).2⟩⟩
        rw [← HS.out, ← HZ.out.1]; exact HJ3.out

end Go.Proofs.YtdjodigimhgklaaGreatDoor

/- The law's told: are these just the pairs that a run tells? -/
namespace Go.Proofs.YtdjodigimhgklaaGreatDoor
open Go.RowKit Go.Shelf Go.Maps

attribute [local go_sem] Oper.semAt_some

theorem vfin_m {n D : Nat} {f : Func} {W : World} {v : Value} {tmps : Array Value} {P : Ending → World → Prop} (hK : W.heap[D]? = some (.deferred (some []))) (hr : (results f tmps).run Tryz.prog (W.putObj D (.deferred none)) = .ok v (W.putObj D (.deferred none))) (hP : P (.returned v) (W.putObj D (.deferred none))) :
    bodyPostM Fence.wide n Tryz.prog f P Exit.ret { tmps := tmps, defers := [{ target := .collected D, args := #[] }] } W := ⟨by simp, .inl ⟨_, _, rfl, run_takeDeferred hK, ⟨v, hr, hP⟩⟩⟩
theorem vturn_put {X : Nat → Prop} {w W : World} {D : Nat} (o : Obj) (h : Turn X w W) (hD : w.heap.size ≤ D) : Turn X w (W.putObj D o) :=
  ⟨h.os, h.tape, h.output, by simpa using h.size, fun k hk hn => (World.putObj_heap_other (by omega)).trans (h.block k hk hn)⟩
theorem vkeeps_turn {X : Nat → Prop} {W W' : World} {B : Nat} (h : Turn X W W') (hX : ∀ k, X k → k < B) : KeepsFrom B W W' :=
  ⟨h.size, fun k o hB hk _ => (h.block k (Array.getElem?_eq_some_iff.1 hk).1 (fun hx => by have := hX k hx; omega)).trans hk⟩
theorem vturn_own {X : Nat → Prop} {β : Type} {w3 : World} : OwnFrom w3.heap.size (fun (_ : β) W => Turn X w3 W) := fun _ _ _ _ hT hgr hr =>
  ⟨hgr.os.trans hT.os, hgr.tape.trans hT.tape, hgr.output.trans hT.output, Nat.le_trans hT.size hgr.size, fun k hk hn => (hgr.block k (Nat.lt_of_lt_of_le hk hT.size) (fun e => by have := (hr k e.symm).1; omega)).trans (hT.block k hk hn)⟩
theorem vbox_own {β : Type} {w3 : World} {g : Nat} {t : TypeId} (hg : g < w3.heap.size) (f : β → Value) : OwnFrom w3.heap.size (fun (s : β) W => Boxed W g t (f s)) := fun _ _ _ _ h hgr hr =>
  h.kept hgr (fun e => by have := (hr g e.symm).1; omega)
/-- what stands while pairs are held against a list -/
def ToldI (bn : Nat) (w3 : World) (L2 : List Pr) (pre : List Pr) (W : World) : Prop := Boxed W bn 3 (.int .i64 (pre.length : Int)) ∧ Turn (fun k => k = bn) w3 W ∧ pre = L2.take pre.length ∧ pre.length ≤ L2.length
theorem toldI_own (bn : Nat) (w3 : World) (L2 : List Pr) (h : bn < w3.heap.size) : OwnFrom w3.heap.size (ToldI bn w3 L2) := fun s X Y row hs hgr hr =>
  ⟨vbox_own h (fun s : List Pr => Value.int .i64 (s.length : Int)) s X Y row hs.1 hgr hr, vturn_own (β := List Pr) s X Y row hs.2.1 hgr hr, hs.2.2⟩

end Go.Proofs.YtdjodigimhgklaaGreatDoor

/- Rows of one's own whose elements take one cell, of any type; cut out of VSrc. -/
namespace Go.Proofs.YtdjodigimhgklaaGreatDoor
open Go.RowKit Go.Shelf Go.Maps

attribute [local go_sem] Oper.semAt_some

theorem irow_shape {w : World} {B n : Nat} {e : TypeId} {v : Value} {xs : List Value} (h : w.ownsRow B e 1 v n xs) : ∃ ad c, v = .slice ad n c ∧ n ≤ c ∧ (ad = none → n = 0 ∧ c = 0) := by
  rcases h.2 with ⟨rfl, rfl⟩ | ⟨g, cap, cur, rfl, _, _, hc, _⟩
  · exact ⟨none, 0, rfl, Nat.le_refl _, fun _ => ⟨rfl, rfl⟩⟩
  · exact ⟨_, _, rfl, hc, fun h => by cases h⟩
theorem irow_block {W : World} {base n : Nat} {e : TypeId} {v : Value} {xs : List Value} (h : W.ownsRow base e 1 v n xs) : ∀ r, v.ownBlock = some r → base ≤ r ∧ r < W.heap.size ∧ ∃ cur, W.heap[r]? = some (.cells cur e (0, 0)) := by
  intro r hr
  rcases h.2 with ⟨rfl, _⟩ | ⟨g, cap, cur, rfl, hb, hg, _⟩
  · cases hr
  · cases hr
    exact ⟨hb, (Array.getElem?_eq_some_iff.1 hg).1, cur, hg⟩
theorem irow_moved {w w' : World} {e : TypeId} {B n z : Nat} {v : Value} {xs : List Value} (h : w.ownsRow B e z v n xs) (hb : ∀ g, v.ownBlock = some g → w'.heap[g]? = w.heap[g]?) : w'.ownsRow B e z v n xs := by
  refine ⟨h.1, ?_⟩
  rcases h.2 with h0 | ⟨g, cap, cur, rfl, h1, h2, h3⟩
  · exact .inl h0
  · exact .inr ⟨g, cap, cur, rfl, h1, by rw [hb g rfl]; exact h2, h3⟩
theorem ikeepsFrom_turn {X : Nat → Prop} {W W' : World} {B : Nat} (h : Turn X W W') (hX : ∀ k o, X k → B ≤ k → W.heap[k]? = some o → o.isCells = true) : KeepsFrom B W W' :=
  ⟨h.size, fun k o hB hk ho => (h.block k (Array.getElem?_eq_some_iff.1 hk).1 (fun hx => by rw [hX k o hx hB hk] at ho; cases ho)).trans hk⟩
end Go.Proofs.YtdjodigimhgklaaGreatDoor

/- The walk of Make, and of Check. -/
namespace Go.Proofs.YtdjodigimhgklaaGreatDoor
open Go.RowKit Go.Shelf Go.Maps Go.Lib

attribute [local go_sem] Oper.semAt_some

theorem le_ris {l : List Pr} (h : l.Pairwise fun p q => p.1 ≤ q.1) (ho : Once l) : Ris l := by
  unfold Once at ho
  rw [List.Nodup, List.pairwise_map] at ho
  exact (h.and ho).imp fun ⟨h1, h2⟩ => by omega
theorem Once.perm {l m : List Pr} (h : Once l) (hp : l.Perm m) : Once m := (hp.map _).nodup_iff.1 h
/-- what Make answers: the value, the error, and what the memory holds -/
def MakeE (l : List Pr) (w : World) (v : Value) (er : Int) (w' : World) : Prop :=
  ((∃ p ∈ l, p.1 = 0) ∧ v = .slice none 0 0 ∧ er = 2) ∨ ((∀ p ∈ l, p.1 ≠ 0) ∧ ¬ Once l ∧ v = .slice none 0 0 ∧ er = 5) ∨
    ∃ d ad cp, GoodV d ∧ d.Perm l ∧ (∀ p ∈ l, p.1 ≠ 0) ∧ Once l ∧ v = .slice ad (runB d).length cp ∧ er = 0 ∧ w'.ownsRow w.heap.size 5 1 (.slice ad (runB d).length cp) (runB d).length (cellsOf (runB d))

set_option maxRecDepth 100000 in
set_option maxHeartbeats 4000000 in
theorem make_any (w : World) (a : Option Addr) (n c : Nat) (l : List Pr) (h : Prs w a n l) (hok : PrOk l) (hnil : a = none → n = 0 ∧ c = 0) (hn : n ≤ 65536) :
    Calls Tryz.prog 35 #[.slice a n c] w fun e w' => ∃ v er, e = .returned (.tuple #[v, .int .i64 er]) ∧ MakeE l w v er w' ∧ Below w.heap.size w w' := by
  have hc := vclone_any a n c l w h hnil (by omega)
  have hll := h.1
  have i1 : ¬ (65536 : Int) < (n : Int) := by omega
  clear h hnil
  go_enter Tryz.func35, Tryz.ntmps35
  go_upto_region 5 with first
    | (go_at_call 68; refine hc.mono ?_; clear hc; rintro e w1 ⟨ad, cp, rfl, ho, hB⟩; have H1 : Hid (w1.ownsRow w.heap.size 39 2 (.slice ad n cp) n (prCells l) ∧ Below w.heap.size w w1) := ⟨ho, hB⟩; clear ho hB)
    | (go_at_call 69; refine (vsort_any w1 w.heap.size ad n cp l H1.out.1 hll H1.out.2.size (by omega)).mono ?_; rintro e w2 ⟨rfl, l', hP, hS, hPr, hB⟩; have H2 : Hid (Prs w2 ad n l' ∧ l'.Perm l ∧ (l'.Pairwise fun p q => p.1 ≤ q.1) ∧ Below w.heap.size w w2) := ⟨hPr, hP, hS, H1.out.2.trans hB⟩; clear hP hS hPr hB H1)
  have hri := rises_any w2 ad n cp l' H2.out.1 (by omega)
  have hok' : PrOk l' := hok.perm H2.out.2.1.symm
  have hfo := fun W (hB : Below w2.heap.size w2 W) => vform_any W ad n cp l' (H2.out.1.kept hB) hok' (by omega)
  have HF : Hid (∀ W, Below w2.heap.size w2 W → Calls Tryz.prog 73 #[.slice ad n cp] W fun e w' => ∃ ad cp, e = .returned (.slice ad (runB l').length cp) ∧ w'.ownsRow W.heap.size 5 1 (.slice ad (runB l').length cp) (runB l').length (cellsOf (runB l')) ∧ Below W.heap.size W w') := hfo
  have HO : Hid (PrOk l' ∧ l'.length = n) := ⟨hok', H2.out.1.1⟩
  clear hfo hok' hok
  have key : ∀ b : Bool, b = risF 0 l' → (∀ p ∈ l', p.1 ≠ 0) → (b = true → GoodV l' ∧ Once l) ∧ (b = false → ¬ Once l) := by
    intro b hb hz
    have hle := H2.out.2.2.1
    refine ⟨fun e => ?_, fun e ho => ?_⟩
    · rw [e] at hb
      have := (risF_iff l' 0).1 hb.symm
      exact ⟨⟨HO.out.1, hb.symm, by rw [HO.out.2]; omega⟩, this.1.once.perm H2.out.2.1⟩
    · rw [e] at hb
      have h1 := le_ris hle (ho.perm H2.out.2.1.symm)
      have : risF 0 l' = true := (risF_iff l' 0).2 ⟨h1, fun p hp => by have := hz p hp; omega⟩
      rw [this] at hb
      cases hb
  have HK : Hid (∀ b : Bool, b = risF 0 l' → (∀ p ∈ l', p.1 ≠ 0) → (b = true → GoodV l' ∧ Once l) ∧ (b = false → ¬ Once l)) := key
  clear key
  have tail : (∀ p ∈ l', p.1 ≠ 0) → ∀ b : Bool, b = risF 0 l' → ∀ W, Below w2.heap.size w2 W → (b = false → MakeE l w (.slice none 0 0) 5 W) := fun hz b hb W _ e =>
    .inr (.inl ⟨fun p hp => hz p (H2.out.2.1.mem_iff.2 hp), ((HK.out b hb hz).2 e), rfl, rfl⟩)
  have HT : Hid (∀ W, (∀ p ∈ l', p.1 ≠ 0) → risF 0 l' = false → MakeE l w (.slice none 0 0) 5 W) := fun W hz e =>
    .inr (.inl ⟨fun p hp => hz p (H2.out.2.1.mem_iff.2 hp), ((HK.out _ rfl hz).2 e), rfl, rfl⟩)
  have HG : Hid (∀ W ad cp, (∀ p ∈ l', p.1 ≠ 0) → risF 0 l' = true → W.ownsRow w.heap.size 5 1 (.slice ad (runB l').length cp) (runB l').length (cellsOf (runB l')) → MakeE l w (.slice ad (runB l').length cp) 0 W) := fun W ad cp hz e ho =>
    .inr (.inr ⟨l', ad, cp, ((HK.out _ rfl hz).1 e).1, H2.out.2.1, fun p hp => hz p (H2.out.2.1.mem_iff.2 hp), ((HK.out _ rfl hz).1 e).2, rfl, rfl, ho⟩)
  clear tail HK
  cases hl' : l' with
  | nil =>
    subst hl'
    have h0 : n = 0 := HO.out.2.symm
    subst h0
    have hz : ∀ p ∈ ([] : List Pr), p.1 ≠ 0 := fun p hp => by cases hp
    have HZ : Hid (∀ p ∈ ([] : List Pr), p.1 ≠ 0) := hz
    clear hz
    go_wp2_with first
      | (go_at_call 72; refine hri.mono ?_; clear hri; rintro e w3 ⟨rfl, hB3⟩; have e0 : risF 0 ([] : List Pr) = true := rfl; simp only [e0])
      | (go_at_call 73; refine (HF.out w3 hB3).mono ?_; clear HF; rintro e w4 ⟨ad4, cp4, rfl, ho4, hB4⟩)
    go_ret2
    have hw3 : Below w.heap.size w w3 := H2.out.2.2.2.trans (hB3.mono H2.out.2.2.2.size)
    refine ⟨_, _, rfl, HG.out w4 ad4 cp4 HZ.out rfl ⟨ho4.1, ho4.2.imp id ?_⟩, hw3.trans (hB4.mono hw3.size)⟩
    rintro ⟨g', cap, cur, h1, h2, h3⟩
    exact ⟨g', cap, cur, h1, by have := hw3.size; omega, h3⟩
  | cons p r =>
    obtain ⟨x, y⟩ := p
    have hn0 : 0 < n := by rw [← HO.out.2, hl']; exact Nat.succ_pos _
    obtain ⟨b1, o1, rfl, hc1⟩ := H2.out.1.2 hn0
    obtain ⟨q1, _⟩ := hc1 0 (x, y) (by rw [hl']; rfl)
    simp only [Nat.zero_mul, Nat.add_zero] at q1
    have i2 : (0 : Int) < (n : Int) := by omega
    have HP : Hid (x ≠ 0 → ∀ q ∈ l', q.1 ≠ 0) := fun hx q hq => by
      have hp := H2.out.2.2.1
      rw [hl'] at hq hp
      rcases List.mem_cons.1 hq with rfl | hq
      · exact hx
      · have := (List.pairwise_cons.1 hp).1 q hq
        simp only at this
        omega
    have HM : Hid ((x, y) ∈ l) := (H2.out.2.1.mem_iff.1 (by rw [hl']; exact List.mem_cons_self ..) : (x, y) ∈ l)
    clear hc1
    by_cases hx : x = 0
    · subst hx
      clear hl'
      go_wp2
      go_ret2
      exact ⟨_, _, rfl, .inl ⟨⟨(0, y), HM.out, rfl⟩, rfl, rfl⟩, H2.out.2.2.2⟩
    · have hz := HP.out hx
      have HZ : Hid (∀ q ∈ l', q.1 ≠ 0) := hz
      have i3 : ((x : Int) == 0) = false := by simp; omega
      clear hz hl'
      cases hr : risF 0 l' with
      | false =>
        rw [hr] at hri
        have HR : Hid (risF 0 l' = false) := hr
        clear hr
        go_wp2_with (go_at_call 72; refine hri.mono ?_; clear hri; rintro e w3 ⟨rfl, hB3⟩)
        go_ret2
        exact ⟨_, _, rfl, HT.out w3 HZ.out HR.out, H2.out.2.2.2.trans (hB3.mono H2.out.2.2.2.size)⟩
      | true =>
        rw [hr] at hri
        have HR : Hid (risF 0 l' = true) := hr
        clear hr
        go_wp2_with first
          | (go_at_call 72; refine hri.mono ?_; clear hri; rintro e w3 ⟨rfl, hB3⟩)
          | (go_at_call 73; refine (HF.out w3 hB3).mono ?_; clear HF; rintro e w4 ⟨ad4, cp4, rfl, ho4, hB4⟩)
        go_ret2
        have hw3 : Below w.heap.size w w3 := H2.out.2.2.2.trans (hB3.mono H2.out.2.2.2.size)
        refine ⟨_, _, rfl, HG.out w4 ad4 cp4 HZ.out HR.out ⟨ho4.1, ho4.2.imp id ?_⟩, hw3.trans (hB4.mono hw3.size)⟩
        rintro ⟨g', cap, cur, h1, h2, h3⟩
        exact ⟨g', cap, cur, h1, by have := hw3.size; omega, h3⟩

/-- Check -/
theorem vcheck_any (w : World) (a : Option Addr) (n c : Nat) (b : List UInt8) (hb : Bytes w a n b) (hnil : a = none → n = 0) (hcap : n ≤ c) (hn : n ≤ 1000000000) :
    Calls Tryz.prog 80 #[.slice a n c] w fun e w' => ∃ k er : Int, e = .returned (.tuple #[.int .i64 k, .int .i64 er]) ∧ ((pairsR b = none ∧ k = 0 ∧ er = 8) ∨ ∃ l, pairsR b = some l ∧ k = (l.length : Int) ∧ er = 0) ∧ Below w.heap.size w w' := by
  have hp := pairs_any w a n c b hb hnil hcap hn
  go_enter Tryz.func80, Tryz.ntmps80
  go_wp2_with fail
  refine hp.mono ?_
  rintro e w1 ⟨v, er, rfl, hE, hB⟩
  rcases hE with ⟨h1, rfl, rfl⟩ | ⟨l, G, h1, rfl, rfl, _, _⟩
  · go_wp2
    go_ret2
    exact ⟨0, 8, rfl, .inl ⟨h1, rfl, rfl⟩, hB⟩
  · go_wp2
    go_ret2
    exact ⟨_, 0, rfl, .inr ⟨l, h1, rfl, rfl⟩, hB⟩
end Go.Proofs.YtdjodigimhgklaaGreatDoor

/- The walk of Sources. -/
namespace Go.Proofs.YtdjodigimhgklaaGreatDoor
open Go.RowKit Go.Shelf Go.Maps

attribute [local go_sem] Oper.semAt_some

theorem infoIdV : (Tryz.prog.info? 23).map (fun i => (i.zero, i.size, i.bytes)) = some (some (.int .u64 0), 1, 8) := by kernel_rfl
/-- the Froms of the pairs that lead to t -/
def srcL (l : List Pr) (t : Nat) : List Nat := (l.filter fun p => p.2 == t).map (·.1)
theorem srcL_app (l m : List Pr) (t : Nat) : srcL (l ++ m) t = srcL l t ++ srcL m t := by simp [srcL]
theorem srcL_len (l : List Pr) (t : Nat) : (srcL l t).length ≤ l.length := by
  unfold srcL
  rw [List.length_map]
  exact List.length_filter_le _ _
abbrev idV (x : Nat) : Value := .int .u64 (x : Int)
/-- what stands while ids are gathered in box F -/
def SrcI (F t : Nat) (w3 : World) (pre : List Pr) (W : World) : Prop :=
  Turn (fun k => k = F) w3 W ∧ pre.length ≤ 65536 ∧ ∃ v, Boxed W F 47 v ∧ W.ownsRow w3.heap.size 23 1 v (srcL pre t).length ((srcL pre t).map idV)
theorem srcI_own (F t : Nat) (w3 : World) (hF : F < w3.heap.size) : OwnFrom w3.heap.size (SrcI F t w3) := by
  rintro pre X Y row ⟨hT, hp, v, h3, h4⟩ hgr hr
  refine ⟨vturn_own (β := List Pr) pre X Y row hT hgr hr, hp, v, h3.kept hgr (fun e => by have := (hr F e.symm).1; omega), irow_moved h4 (fun q hq => ?_)⟩
  obtain ⟨_, hlt, cur, hc⟩ := irow_block h4 q hq
  refine hgr.block q hlt (fun e => ?_)
  obtain ⟨_, o, ho, hoc⟩ := hr q e.symm
  rw [hc] at ho
  cases ho
  cases hoc

end Go.Proofs.YtdjodigimhgklaaGreatDoor

/- The walk of Find: by sort.Search. -/
namespace Go.Proofs.YtdjodigimhgklaaGreatDoor
open Go.RowKit Go.Shelf Go.Maps Go.Lib

attribute [local go_sem] Oper.semAt_some

/-- how many Froms are less -/
def cntP (l : List Pr) (x : Nat) : Nat := l.countP fun p => !decide (x ≤ p.1)
theorem cntP_le (l : List Pr) (x : Nat) : cntP l x ≤ l.length := List.countP_le_length
theorem ris_at : ∀ (l : List Pr) (x : Nat), Ris l → (∀ p, l[cntP l x]? = some p → (p.1 = x → lookP l x = some p.2) ∧ (p.1 ≠ x → lookP l x = none)) ∧ (cntP l x = l.length → lookP l x = none)
  | [], x, _ => ⟨fun p hp => by simp at hp, fun _ => rfl⟩
  | q :: r, x, h => by
    have h' := List.pairwise_cons.1 h
    by_cases hq : q.1 < x
    · have ih := ris_at r x h'.2
      have e : cntP (q :: r) x = cntP r x + 1 := by
        unfold cntP
        rw [List.countP_cons_of_pos (by simp; omega)]
      have e2 : lookP (q :: r) x = lookP r x := by rw [lookP, if_neg (by omega)]
      rw [e, e2]
      exact ⟨fun p hp => ih.1 p (by simpa using hp), fun hl => ih.2 (by simpa using hl)⟩
    · have e0 : cntP r x = 0 := by
        unfold cntP
        rw [List.countP_eq_zero]
        intro p hp
        have := h'.1 p hp
        simp; omega
      have e : cntP (q :: r) x = 0 := by
        unfold cntP at e0 ⊢
        rw [List.countP_cons_of_neg (by simp; omega), e0]
      rw [e]
      refine ⟨fun p hp => ?_, fun hl => by simp at hl⟩
      simp at hp
      subst hp
      refine ⟨fun hx => by rw [lookP, if_pos hx], fun hx => ?_⟩
      rw [lookP, if_neg hx]
      exact (look_none r x).2 fun p hp => by have := h'.1 p hp; omega
def findR (b : List UInt8) (x : Nat) : Int × Int := match pairsR b with
  | none => (0, 8)
  | some l => match lookP l x with
    | none => (0, 4)
    | some y => ((y : Int), 0)
theorem findR_bad {b : List UInt8} (x : Nat) (h : pairsR b = none) : findR b x = (0, 8) := by unfold findR; rw [h]
theorem findR_none {b : List UInt8} {l : List Pr} {x : Nat} (h : pairsR b = some l) (h2 : lookP l x = none) : findR b x = (0, 4) := by unfold findR; rw [h]; simp only [h2]
theorem findR_some {b : List UInt8} {l : List Pr} {x y : Nat} (h : pairsR b = some l) (h2 : lookP l x = some y) : findR b x = ((y : Int), 0) := by unfold findR; rw [h]; simp only [h2]

end Go.Proofs.YtdjodigimhgklaaGreatDoor
