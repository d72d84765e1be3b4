import Derived.Test.YtdjodigimhgklaaGreatDoorMC25
import Derived.Test.YtdjodigimhgklaaGreatDoorMC24
import Derived.Test.YtdjodigimhgklaaGreatDoorMC26
import Derived.Test.YtdjodigimhgklaaGreatDoorMC16
import Derived.Test.YtdjodigimhgklaaGreatDoorMC27
import Derived.Test.YtdjodigimhgklaaGreatDoorMC10
import Derived.Test.YtdjodigimhgklaaGreatDoorMC01
import Derived.Test.YtdjodigimhgklaaGreatDoorMC11
import Derived.RangeFuncBox
import Derived.RangeFuncWrites
/- The law's pairs: two slices of the same pairs. -/
namespace Go.Proofs.YtdjodigimhgklaaGreatDoor
open Go.RowKit Go.Shelf Go.Maps

attribute [local go_sem] Oper.semAt_some

set_option maxRecDepth 100000 in
set_option maxHeartbeats 4000000 in
theorem ypairs_same (w : World) (a b : Option Addr) (n c c2 : Nat) (l : List Pr) (h1 : Prs w a n l) (h2 : Prs w b n l) (hn : n ≤ 1000000) :
    Calls Tryz.prog 15 #[.slice a n c, .slice b n c2] w fun e w' => e = .returned (.bool true) ∧ Below w.heap.size w w' := by
  have H : Hid (∀ Y, Below w.heap.size w Y → Prs Y a n l ∧ Prs Y b n l) := fun Y hY => ⟨h1.kept hY, h2.kept hY⟩
  have hl := h1.1
  clear h1 h2
  go_enter Tryz.func15, Tryz.ntmps15
  go_wp2_with fail
  have H0 : Hid (Below w.heap.size w w) := Below.refl _ w
  go_loopw [13] (fun v wr => ∃ (k : Nat), k ≤ n ∧ v = .int .i64 (k : Int) ∧ Hid (Below w.heap.size w wr)) (fun v _ => n - (intOf v).toNat)
  case atStart => exact ⟨0, Nat.zero_le _, rfl, H0⟩
  case round =>
    obtain ⟨k, hk, rfl, HB⟩ := hrel
    by_cases hlt : k < n
    · obtain ⟨⟨x, y⟩, hx⟩ : ∃ x, l[k]? = some x := ⟨_, List.getElem?_eq_getElem (by omega)⟩
      obtain ⟨p1, p2⟩ := H.out wr HB.out
      obtain ⟨b1, o1, rfl, hc1⟩ := p1.2 (by omega)
      obtain ⟨b2, o2, rfl, hc2⟩ := p2.2 (by omega)
      obtain ⟨q1, q2⟩ := hc1 _ _ hx
      obtain ⟨q3, q4⟩ := hc2 _ _ hx
      have i5 : (k : Int) < (n : Int) := by omega
      have hnv : ∀ w, (binOp .neq 39 (.agg #[.int .u64 (x : Int), .int .u64 (y : Int)]) (.agg #[.int .u64 (x : Int), .int .u64 (y : Int)])).run Tryz.prog w = .ok (.bool false) w := fun w => by
        rw [neV]; simp
      clear p1 p2 hc1 hc2 hx H0
      simp only at q1 q2 q3 q4
      go_wp2_with fail
      go_quiet (fail)
      have HD : Hid (Below w.heap.size w (wr.drewN nq)) := vbelow_drewN HB.out nq
      go_wp2_with fail
      go_roundw
      case rel => exact ⟨k + 1, by omega, by go_num, HD⟩
      case measure => simp [intOf]; omega
    · obtain rfl : k = n := by omega
      have i5 : ¬ (k : Int) < (k : Int) := by omega
      have HB2 : Hid (Below w.heap.size w wr) := HB
      go_wp2_with fail
      go_ret
      exact ⟨rfl, HB2.out⟩
end Go.Proofs.YtdjodigimhgklaaGreatDoor

/- The walk of joinTwo. -/
namespace Go.Proofs.YtdjodigimhgklaaGreatDoor
open Go.RowKit Go.Shelf Go.Maps

attribute [local go_sem] Oper.semAt_some

def sliceLen : Value → Nat
  | .slice _ n _ => n
  | _ => 0
theorem prV_tail {W : World} {b o k c : Nat} {l : List Pr} (h : PrV W (some ⟨b, o, none⟩) k c l) (hk : 0 < k) : PrV W (some ⟨b, o + 2, none⟩) (k - 1) (c - 1) (l.drop 1) := by
  refine ⟨⟨by rw [List.length_drop, h.prs.1], fun h0 => ?_⟩, fun e => (by cases e), (by have := h.cap; omega)⟩
  obtain ⟨b', o', e, hc⟩ := h.prs.2 hk
  cases e
  refine ⟨b, o + 2, rfl, fun j p hj => ?_⟩
  have := hc (j + 1) p (by rw [List.getElem?_drop] at hj; rw [Nat.add_comm]; exact hj)
  rw [show o + (j + 1) * 2 = o + 2 + j * 2 by omega] at this
  exact this
theorem prV_last {W : World} {b o k c : Nat} {l : List Pr} (h : PrV W (some ⟨b, o, none⟩) k c l) (hk : 0 < k) (hc : c = 1) : PrV W (some ⟨b, o, none⟩) (k - 1) (c - 1) (l.drop 1) := by
  have h1 := h.cap
  have h2 : k = 1 := by omega
  subst h2
  exact ⟨⟨by rw [List.length_drop, h.prs.1], fun h0 => (by omega)⟩, fun e => (by cases e), (by omega)⟩
abbrev zP : Obj := .cells #[.int .u64 0, .int .u64 0] 39
theorem vb_drew {B : Nat} {w W : World} (h : Below B w W) : Below B w W.drew := ⟨h.os, h.tape, h.output, h.size, h.block⟩
end Go.Proofs.YtdjodigimhgklaaGreatDoor

/- The walk of Open. -/
namespace Go.Proofs.YtdjodigimhgklaaGreatDoor
open Go.RowKit

/-- Open of no disk -/
theorem jopen_nil (w : World) (s : ByteArray) : Calls Tryz.prog 36 #[.pointer none, .string s] w fun e w' => e = .returned (.tuple #[.pointer none, .int .i64 1]) ∧ w' = w := by
  go_enter Tryz.func36, Tryz.ntmps36
  go_wp2
  go_ret2
  exact ⟨rfl, rfl⟩

/-- a Journal just made -/
theorem JAt.new (w : World) (d : Nat) (nm : ByteArray) : JAt (w.alloc (.cells #[.pointer (some ⟨d, 0, none⟩), .string nm, .slice none 0 0, .int .i64 0, .slice none 0 0, .int .i64 0, .bool false] 137)) w.heap.size d nm [] 0 false (fun k => k = w.heap.size) := by
  refine { c0 := by simp, c1 := by simp, pay := ?_, c5 := by simp, c6 := by simp, f5 := by simp, f6 := by simp, fj := rfl, lt := fun k hk => by subst hk; simp, cnt := by simp, small := by simp }
  refine ⟨0, 0, [], .slice none 0 0, .slice none 0 0, [], ?_, by simp [Value.ownBlock], by simp [Value.ownBlock]⟩
  exact { ca := by simp, cu := by simp, cl := by simp, fa := by simp, fu := by simp, fl := by simp, arr := World.ownsRow_nil _ _ _ _, sh := .inl ⟨rfl, rfl⟩, pre := rfl, fit := by simp, row := World.ownsRow_nil _ _ _ _, el := fun k hk => by simp at hk, gp := by simp [Value.ownBlock], vp := by simp [Value.ownBlock], gv := by simp [Value.ownBlock] }

/-- what Open leaves of a disk, and what it answers -/
def DG.opened (S : DG) (nm : List UInt8) : DG × Int :=
  if (parseL (S.bs nm)).2.2 = true then (S, 8) else if (parseL (S.bs nm)).2.1 < (S.bs nm).length then S.trunc nm (parseL (S.bs nm)).2.1 else (S, 0)

/-- what lies behind an Open -/
def Opened (w w' : World) (d : Nat) (S : DG) (Gp : Nat → Prop) (s : ByteArray) (e : Ending) : Prop :=
  Turn Gp w w' ∧ ∃ G', IsDisk w' d (S.opened s.data.toList).1 G' ∧ (∀ k, G' k → Gp k ∨ w.heap.size ≤ k) ∧
    (((S.opened s.data.toList).2 ≠ 0 ∧ e = .returned (.tuple #[.pointer none, .int .i64 (S.opened s.data.toList).2])) ∨
     ((S.opened s.data.toList).2 = 0 ∧ ∃ j F, e = .returned (.tuple #[.pointer (some ⟨j, 0, none⟩), .int .i64 0]) ∧ JAt w' j d s (parseL (S.bs s.data.toList)).1 (parseL (S.bs s.data.toList)).2.1 false F ∧ (∀ k, F k → w.heap.size ≤ k) ∧ (∀ k, F k → ¬ G' k)))

theorem parseL_len (l : List UInt8) : (parseL l).2.1 ≤ l.length := (parseL_bounds l).2

theorem trunc_err (S : DG) (nm : List UInt8) (n : Nat) (h0 : 0 < (S.bs nm).length) (hn : n < (S.bs nm).length) : S.trunc nm n = if S.can = true then (S.done.set nm ((S.bs nm).take n), 0) else (S, 6) := by
  unfold DG.trunc
  have h1 : S.f nm ≠ none := fun e => by unfold DG.bs at h0; rw [e] at h0; simp at h0
  rw [if_neg h1, if_neg (by omega), if_neg (by omega)]
  simp

set_option maxRecDepth 20000 in
set_option maxHeartbeats 4000000 in
theorem jopen_any (w : World) (d : Nat) (S : DG) (Gp : Nat → Prop) (s : ByteArray) (hd : IsDisk w d S Gp) (hs : s.size ≤ maxLen) (hbig : (S.bs s.data.toList).length ≤ 4194304) (hw : S.wr < 4611686018427387904) (hn : S.n < maxLen) :
    Calls Tryz.prog 36 #[.pointer (some ⟨d, 0, none⟩), .string s] w fun e w' => Opened w w' d S Gp s e := by
  have hb4 : (S.bs s.data.toList).length ≤ 140737488355328 := by omega
  have hx1 := read_any d S Gp w s hd hs hb4
  obtain ⟨bs, hbs⟩ : ∃ bs, bs = S.bs s.data.toList := ⟨_, rfl⟩
  have HS : Hid (bs = S.bs s.data.toList) := hbs
  rw [← hbs] at hx1 hbig
  clear hbs hb4
  obtain ⟨n, hn'⟩ : ∃ n, n = bs.length := ⟨_, rfl⟩
  have Hn : Hid (n = bs.length) := hn'
  rw [← hn'] at hx1 hbig
  clear hn'
  have herr : S.err s.data.toList = 0 ∨ S.err s.data.toList = 4 := by unfold DG.err; split <;> simp
  obtain ⟨er, her⟩ : ∃ er, er = S.err s.data.toList := ⟨_, rfl⟩
  rw [← her] at hx1 herr
  clear her
  have hdlt := hd.lt
  have HD : Hid (IsDisk w d S Gp) := hd
  clear hd
  go_enter Tryz.func36, Tryz.ntmps36
  go_wp2_with fail
  refine hx1.mono ?_
  rintro e w1 ⟨a, c, rfl, hown, hB1, hnc, hnil⟩
  obtain ⟨hb1, hab⟩ := ownsRow_toBytes hown
  clear hx1 hown
  have hs1 := hB1.size
  have hJ0 := JAt.new w1 d s
  have hB2 : Below w.heap.size w (w1.alloc (.cells #[.pointer (some ⟨d, 0, none⟩), .string s, .slice none 0 0, .int .i64 0, .slice none 0 0, .int .i64 0, .bool false] 137)) := hB1.alloc hB1.size _
  have hb2 : Bytes (w1.alloc (.cells #[.pointer (some ⟨d, 0, none⟩), .string s, .slice none 0 0, .int .i64 0, .slice none 0 0, .int .i64 0, .bool false] 137)) a n bs := (Turn.of_below (fun _ => False) ((Below.refl _ w1).alloc (Nat.le_refl _) _)).bytes hb1 (fun _ _ _ => id)
  have hx2 := jread_any _ w1.heap.size d s _ hJ0 a n c bs hb2 hbig
  obtain ⟨w2, hw2⟩ : ∃ w2, w2 = w1.alloc (.cells #[.pointer (some ⟨d, 0, none⟩), .string s, .slice none 0 0, .int .i64 0, .slice none 0 0, .int .i64 0, .bool false] 137) := ⟨_, rfl⟩
  have hs2 : w2.heap.size = w1.heap.size + 1 := by rw [hw2]; simp
  rw [← hw2] at hx2 hB2
  clear hJ0 hb2 hb1
  have HK : Hid (∀ w3, Turn (fun k => k = w1.heap.size) w2 w3 → Turn Gp w w3 ∧ IsDisk w3 d S Gp) := fun w3 hT3 =>
    ⟨(Turn.of_below Gp hB2).trans hT3 (fun i hi e => by omega), (HD.out.below hB2).turn hT3 (fun k hk e => by have := hdlt k hk; omega)⟩
  rcases herr with rfl | rfl
  · go_wp2_with fail
    rw [← hw2]
    clear hw2
    refine hx2.mono ?_
    clear hx2
    rintro e w3 ⟨hT3, (⟨hwr, rfl⟩ | ⟨hok, rfl, hJ3⟩)⟩
    · have HT3 : Hid (Turn Gp w w3 ∧ IsDisk w3 d S Gp) := HK.out w3 hT3
      clear hT3
      go_wp2
      go_ret2
      rw [HS.out] at hwr
      have hO : S.opened s.data.toList = (S, 8) := by unfold DG.opened; rw [if_pos hwr]
      refine ⟨HT3.out.1, Gp, by rw [hO]; exact HT3.out.2, fun k hk => .inl hk, .inl ⟨by rw [hO]; simp, by rw [hO]; rfl⟩⟩
    · have HT3 : Hid (Turn Gp w w3 ∧ IsDisk w3 d S Gp) := HK.out w3 hT3
      have hs3 := hT3.size
      clear hT3
      obtain ⟨Z, hZ⟩ : ∃ Z, Z = (parseL bs).2.1 := ⟨_, rfl⟩
      have HZ : Hid (Z = (parseL bs).2.1 ∧ (parseL bs).2.2 = false) := ⟨hZ, hok⟩
      rw [← hZ] at hJ3
      clear hZ hok
      have c5 := hJ3.c5
      have HJ3 : Hid (JAt w3 w1.heap.size d s (parseL bs).1 Z false (grow (fun k => k = w1.heap.size) w2 w3)) := hJ3
      have HF : Hid (∀ k, grow (fun k => k = w1.heap.size) w2 w3 k → w.heap.size ≤ k ∧ ¬ Gp k) := fun k hk => by
        have : w.heap.size ≤ k := hk.elim (fun e => by omega) (fun e => by omega)
        exact ⟨this, fun hg => by have := hdlt k hg; omega⟩
      clear hJ3
      by_cases hZn : Z < n
      · have i1 : (Z : Int) < (n : Int) := by omega
        have hx4 := truncate_any d S Gp w3 s Z HT3.out.2 hs hw hn (by rw [← HS.out, ← Hn.out]; exact hbig)
        have hte := trunc_err S s.data.toList Z (by rw [← HS.out, ← Hn.out]; omega) (by rw [← HS.out, ← Hn.out]; exact hZn)
        have hO : Hid (S.opened s.data.toList = S.trunc s.data.toList Z) := by
          show _ = _
          unfold DG.opened
          rw [← HS.out, if_neg (by rw [HZ.out.2]; decide), ← HZ.out.1, if_pos (by rw [← Hn.out]; exact hZn)]
        by_cases hcan : S.can = true
        · rw [if_pos hcan] at hte
          have HO : Hid (S.opened s.data.toList = (S.done.set s.data.toList ((S.bs s.data.toList).take Z), 0)) := by show _ = _; rw [hO.out, hte]
          rw [hte] at hx4
          clear hte hO
          go_wp2_with fail
          refine hx4.mono ?_
          rintro e w4 ⟨rfl, hd4, hT4⟩
          have HE : Hid (Turn Gp w w4 ∧ IsDisk w4 d (S.done.set s.data.toList ((S.bs s.data.toList).take Z)) (grow Gp w3 w4) ∧ JAt w4 w1.heap.size d s (parseL bs).1 Z false (grow (fun k => k = w1.heap.size) w2 w3)) :=
            ⟨HT3.out.1.trans hT4 (fun _ _ h => h), hd4, HJ3.out.turn hT4 (fun k hk => (HF.out k hk).2)⟩
          have hlt3 := HJ3.out.lt
          clear hd4 hT4 hx4
          go_wp2
          go_ret2
          refine ⟨HE.out.1, grow Gp w3 w4, by rw [HO.out]; exact HE.out.2.1, fun k hk => hk.elim .inl (fun h => .inr (by have := HT3.out.1.size; omega)), .inr ⟨by rw [HO.out], w1.heap.size, _, rfl, ?_, fun k hk => (HF.out k hk).1, fun k hk hg => hg.elim (HF.out k hk).2 (fun h => by have := hlt3 k hk; omega)⟩⟩
          rw [← HS.out, ← HZ.out.1]; exact HE.out.2.2
        · rw [if_neg hcan] at hte
          have HO : Hid (S.opened s.data.toList = (S, 6)) := by show _ = _; rw [hO.out, hte]
          rw [hte] at hx4
          clear hte hO
          go_wp2_with fail
          refine hx4.mono ?_
          rintro e w4 ⟨rfl, hd4, hT4⟩
          have HE : Hid (Turn Gp w w4 ∧ IsDisk w4 d S (grow Gp w3 w4)) := ⟨HT3.out.1.trans hT4 (fun _ _ h => h), hd4⟩
          clear hd4 hT4 hx4
          go_wp2
          go_ret2
          exact ⟨HE.out.1, grow Gp w3 w4, by rw [HO.out]; exact HE.out.2, fun k hk => hk.elim .inl (fun h => .inr (by have := HT3.out.1.size; omega)), .inl ⟨by rw [HO.out]; simp, by rw [HO.out]; rfl⟩⟩
      · have i1 : ¬ (Z : Int) < (n : Int) := by omega
        have HO : Hid (S.opened s.data.toList = (S, 0)) := by
          show _ = _
          unfold DG.opened
          rw [← HS.out, if_neg (by rw [HZ.out.2]; decide), ← HZ.out.1, if_neg (by rw [← Hn.out]; exact hZn)]
        go_wp2
        go_ret2
        refine ⟨HT3.out.1, Gp, by rw [HO.out]; exact HT3.out.2, fun k hk => .inl hk, .inr ⟨by rw [HO.out], w1.heap.size, _, rfl, ?_, fun k hk => (HF.out k hk).1, fun k hk => (HF.out k hk).2⟩⟩
        rw [← HS.out, ← HZ.out.1]; exact HJ3.out
  · go_wp2_with fail
    rw [← hw2]
    clear hw2
    refine hx2.mono ?_
    clear hx2
    rintro e w3 ⟨hT3, (⟨hwr, rfl⟩ | ⟨hok, rfl, hJ3⟩)⟩
    · have HT3 : Hid (Turn Gp w w3 ∧ IsDisk w3 d S Gp) := HK.out w3 hT3
      clear hT3
      go_wp2
      go_ret2
      rw [HS.out] at hwr
      have hO : S.opened s.data.toList = (S, 8) := by unfold DG.opened; rw [if_pos hwr]
      refine ⟨HT3.out.1, Gp, by rw [hO]; exact HT3.out.2, fun k hk => .inl hk, .inl ⟨by rw [hO]; simp, by rw [hO]; rfl⟩⟩
    · have HT3 : Hid (Turn Gp w w3 ∧ IsDisk w3 d S Gp) := HK.out w3 hT3
      have hs3 := hT3.size
      clear hT3
      obtain ⟨Z, hZ⟩ : ∃ Z, Z = (parseL bs).2.1 := ⟨_, rfl⟩
      have HZ : Hid (Z = (parseL bs).2.1 ∧ (parseL bs).2.2 = false) := ⟨hZ, hok⟩
      rw [← hZ] at hJ3
      clear hZ hok
      have c5 := hJ3.c5
      have HJ3 : Hid (JAt w3 w1.heap.size d s (parseL bs).1 Z false (grow (fun k => k = w1.heap.size) w2 w3)) := hJ3
      have HF : Hid (∀ k, grow (fun k => k = w1.heap.size) w2 w3 k → w.heap.size ≤ k ∧ ¬ Gp k) := fun k hk => by
        have : w.heap.size ≤ k := hk.elim (fun e => by omega) (fun e => by omega)
        exact ⟨this, fun hg => by have := hdlt k hg; omega⟩
      clear hJ3
      by_cases hZn : Z < n
      · have i1 : (Z : Int) < (n : Int) := by omega
        have hx4 := truncate_any d S Gp w3 s Z HT3.out.2 hs hw hn (by rw [← HS.out, ← Hn.out]; exact hbig)
        have hte := trunc_err S s.data.toList Z (by rw [← HS.out, ← Hn.out]; omega) (by rw [← HS.out, ← Hn.out]; exact hZn)
        have hO : Hid (S.opened s.data.toList = S.trunc s.data.toList Z) := by
          show _ = _
          unfold DG.opened
          rw [← HS.out, if_neg (by rw [HZ.out.2]; decide), ← HZ.out.1, if_pos (by rw [← Hn.out]; exact hZn)]
        by_cases hcan : S.can = true
        · rw [if_pos hcan] at hte
          have HO : Hid (S.opened s.data.toList = (S.done.set s.data.toList ((S.bs s.data.toList).take Z), 0)) := by show _ = _; rw [hO.out, hte]
          rw [hte] at hx4
          clear hte hO
          go_wp2_with fail
          refine hx4.mono ?_
          rintro e w4 ⟨rfl, hd4, hT4⟩
          have HE : Hid (Turn Gp w w4 ∧ IsDisk w4 d (S.done.set s.data.toList ((S.bs s.data.toList).take Z)) (grow Gp w3 w4) ∧ JAt w4 w1.heap.size d s (parseL bs).1 Z false (grow (fun k => k = w1.heap.size) w2 w3)) :=
            ⟨HT3.out.1.trans hT4 (fun _ _ h => h), hd4, HJ3.out.turn hT4 (fun k hk => (HF.out k hk).2)⟩
          have hlt3 := HJ3.out.lt
          clear hd4 hT4 hx4
          go_wp2
          go_ret2
          refine ⟨HE.out.1, grow Gp w3 w4, by rw [HO.out]; exact HE.out.2.1, fun k hk => hk.elim .inl (fun h => .inr (by have := HT3.out.1.size; omega)), .inr ⟨by rw [HO.out], w1.heap.size, _, rfl, ?_, fun k hk => (HF.out k hk).1, fun k hk hg => hg.elim (HF.out k hk).2 (fun h => by have := hlt3 k hk; omega)⟩⟩
          rw [← HS.out, ← HZ.out.1]; exact HE.out.2.2
        · rw [if_neg hcan] at hte
          have HO : Hid (S.opened s.data.toList = (S, 6)) := by show _ = _; rw [hO.out, hte]
          rw [hte] at hx4
          clear hte hO
          go_wp2_with fail
          refine hx4.mono ?_
          rintro e w4 ⟨rfl, hd4, hT4⟩
          have HE : Hid (Turn Gp w w4 ∧ IsDisk w4 d S (grow Gp w3 w4)) := ⟨HT3.out.1.trans hT4 (fun _ _ h => h), hd4⟩
          clear hd4 hT4 hx4
          go_wp2
          go_ret2
          exact ⟨HE.out.1, grow Gp w3 w4, by rw [HO.out]; exact HE.out.2, fun k hk => hk.elim .inl (fun h => .inr (by have := HT3.out.1.size; omega)), .inl ⟨by rw [HO.out]; simp, by rw [HO.out]; rfl⟩⟩
      · have i1 : ¬ (Z : Int) < (n : Int) := by omega
        have HO : Hid (S.opened s.data.toList = (S, 0)) := by
          show _ = _
          unfold DG.opened
          rw [← HS.out, if_neg (by rw [HZ.out.2]; decide), ← HZ.out.1, if_neg (by rw [← Hn.out]; exact hZn)]
        go_wp2
        go_ret2
        refine ⟨HT3.out.1, Gp, by rw [HO.out]; exact HT3.out.2, fun k hk => .inl hk, .inr ⟨by rw [HO.out], w1.heap.size, _, rfl, ?_, fun k hk => (HF.out k hk).1, fun k hk => (HF.out k hk).2⟩⟩
        rw [← HS.out, ← HZ.out.1]; exact HJ3.out

end Go.Proofs.YtdjodigimhgklaaGreatDoor

/- The law's told: are these just the pairs that a run tells? -/
namespace Go.Proofs.YtdjodigimhgklaaGreatDoor
open Go.RowKit Go.Shelf Go.Maps

attribute [local go_sem] Oper.semAt_some

theorem vfin_m {n D : Nat} {f : Func} {W : World} {v : Value} {tmps : Array Value} {P : Ending → World → Prop} (hK : W.heap[D]? = some (.deferred (some []))) (hr : (results f tmps).run Tryz.prog (W.putObj D (.deferred none)) = .ok v (W.putObj D (.deferred none))) (hP : P (.returned v) (W.putObj D (.deferred none))) :
    bodyPostM Fence.wide n Tryz.prog f P Exit.ret { tmps := tmps, defers := [{ target := .collected D, args := #[] }] } W := ⟨by simp, .inl ⟨_, _, rfl, run_takeDeferred hK, ⟨v, hr, hP⟩⟩⟩
theorem vturn_put {X : Nat → Prop} {w W : World} {D : Nat} (o : Obj) (h : Turn X w W) (hD : w.heap.size ≤ D) : Turn X w (W.putObj D o) :=
  ⟨h.os, h.tape, h.output, by simpa using h.size, fun k hk hn => (World.putObj_heap_other (by omega)).trans (h.block k hk hn)⟩
theorem vkeeps_turn {X : Nat → Prop} {W W' : World} {B : Nat} (h : Turn X W W') (hX : ∀ k, X k → k < B) : KeepsFrom B W W' :=
  ⟨h.size, fun k o hB hk _ => (h.block k (Array.getElem?_eq_some_iff.1 hk).1 (fun hx => by have := hX k hx; omega)).trans hk⟩
theorem vturn_own {X : Nat → Prop} {β : Type} {w3 : World} : OwnFrom w3.heap.size (fun (_ : β) W => Turn X w3 W) := fun _ _ _ _ hT hgr hr =>
  ⟨hgr.os.trans hT.os, hgr.tape.trans hT.tape, hgr.output.trans hT.output, Nat.le_trans hT.size hgr.size, fun k hk hn => (hgr.block k (Nat.lt_of_lt_of_le hk hT.size) (fun e => by have := (hr k e.symm).1; omega)).trans (hT.block k hk hn)⟩
theorem vbox_own {β : Type} {w3 : World} {g : Nat} {t : TypeId} (hg : g < w3.heap.size) (f : β → Value) : OwnFrom w3.heap.size (fun (s : β) W => Boxed W g t (f s)) := fun _ _ _ _ h hgr hr =>
  h.kept hgr (fun e => by have := (hr g e.symm).1; omega)
/-- what stands while pairs are held against a list -/
def ToldI (bn : Nat) (w3 : World) (L2 : List Pr) (pre : List Pr) (W : World) : Prop := Boxed W bn 3 (.int .i64 (pre.length : Int)) ∧ Turn (fun k => k = bn) w3 W ∧ pre = L2.take pre.length ∧ pre.length ≤ L2.length
theorem toldI_own (bn : Nat) (w3 : World) (L2 : List Pr) (h : bn < w3.heap.size) : OwnFrom w3.heap.size (ToldI bn w3 L2) := fun s X Y row hs hgr hr =>
  ⟨vbox_own h (fun s : List Pr => Value.int .i64 (s.length : Int)) s X Y row hs.1 hgr hr, vturn_own (β := List Pr) s X Y row hs.2.1 hgr hr, hs.2.2⟩

end Go.Proofs.YtdjodigimhgklaaGreatDoor

/- Rows of one's own whose elements take one cell, of any type; cut out of VSrc. -/
namespace Go.Proofs.YtdjodigimhgklaaGreatDoor
open Go.RowKit Go.Shelf Go.Maps

attribute [local go_sem] Oper.semAt_some

theorem irow_shape {w : World} {B n : Nat} {e : TypeId} {v : Value} {xs : List Value} (h : w.ownsRow B e 1 v n xs) : ∃ ad c, v = .slice ad n c ∧ n ≤ c ∧ (ad = none → n = 0 ∧ c = 0) := by
  rcases h.2 with ⟨rfl, rfl⟩ | ⟨g, cap, cur, rfl, _, _, hc, _⟩
  · exact ⟨none, 0, rfl, Nat.le_refl _, fun _ => ⟨rfl, rfl⟩⟩
  · exact ⟨_, _, rfl, hc, fun h => by cases h⟩
theorem irow_block {W : World} {base n : Nat} {e : TypeId} {v : Value} {xs : List Value} (h : W.ownsRow base e 1 v n xs) : ∀ r, v.ownBlock = some r → base ≤ r ∧ r < W.heap.size ∧ ∃ cur, W.heap[r]? = some (.cells cur e (0, 0)) := by
  intro r hr
  rcases h.2 with ⟨rfl, _⟩ | ⟨g, cap, cur, rfl, hb, hg, _⟩
  · cases hr
  · cases hr
    exact ⟨hb, (Array.getElem?_eq_some_iff.1 hg).1, cur, hg⟩
theorem irow_moved {w w' : World} {e : TypeId} {B n z : Nat} {v : Value} {xs : List Value} (h : w.ownsRow B e z v n xs) (hb : ∀ g, v.ownBlock = some g → w'.heap[g]? = w.heap[g]?) : w'.ownsRow B e z v n xs := by
  refine ⟨h.1, ?_⟩
  rcases h.2 with h0 | ⟨g, cap, cur, rfl, h1, h2, h3⟩
  · exact .inl h0
  · exact .inr ⟨g, cap, cur, rfl, h1, by rw [hb g rfl]; exact h2, h3⟩
theorem ikeepsFrom_turn {X : Nat → Prop} {W W' : World} {B : Nat} (h : Turn X W W') (hX : ∀ k o, X k → B ≤ k → W.heap[k]? = some o → o.isCells = true) : KeepsFrom B W W' :=
  ⟨h.size, fun k o hB hk ho => (h.block k (Array.getElem?_eq_some_iff.1 hk).1 (fun hx => by rw [hX k o hx hB hk] at ho; cases ho)).trans hk⟩
end Go.Proofs.YtdjodigimhgklaaGreatDoor
