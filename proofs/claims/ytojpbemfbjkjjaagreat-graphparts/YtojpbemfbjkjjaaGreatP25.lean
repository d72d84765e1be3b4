import Derived.Test.YtojpbemfbjkjjaaGreatP23
import Derived.Test.YtojpbemfbjkjjaaGreatP24
import Derived.Test.YtojpbemfbjkjjaaGreatP16
import Derived.Test.YtojpbemfbjkjjaaGreatP22
/- The walk of Open. -/
namespace Go.Proofs.YtojpbemfbjkjjaaGreat
open Go.RowKit

/-- Open of no disk -/
theorem jopen_nil (w : World) (s : ByteArray) : Calls Tryz.prog 35 #[.pointer none, .string s] w fun e w' => e = .returned (.tuple #[.pointer none, .int .i64 1]) ∧ w' = w := by
  go_enter Tryz.func35, Tryz.ntmps35
  go_wp2
  go_ret2
  exact ⟨rfl, rfl⟩

/-- a Journal just made -/
theorem JAt.new (w : World) (d : Nat) (nm : ByteArray) : JAt (w.alloc (.cells #[.pointer (some ⟨d, 0, none⟩), .string nm, .slice none 0 0, .int .i64 0, .slice none 0 0, .int .i64 0, .bool false] 128)) w.heap.size d nm [] 0 false (fun k => k = w.heap.size) := by
  refine { c0 := by simp, c1 := by simp, pay := ?_, c5 := by simp, c6 := by simp, f5 := by simp, f6 := by simp, fj := rfl, lt := fun k hk => by subst hk; simp, cnt := by simp, small := by simp }
  refine ⟨0, 0, [], .slice none 0 0, .slice none 0 0, [], ?_, by simp [Value.ownBlock], by simp [Value.ownBlock]⟩
  exact { ca := by simp, cu := by simp, cl := by simp, fa := by simp, fu := by simp, fl := by simp, arr := World.ownsRow_nil _ _ _ _, sh := .inl ⟨rfl, rfl⟩, pre := rfl, fit := by simp, row := World.ownsRow_nil _ _ _ _, el := fun k hk => by simp at hk, gp := by simp [Value.ownBlock], vp := by simp [Value.ownBlock], gv := by simp [Value.ownBlock] }

/-- what Open leaves of a disk, and what it answers -/
def DG.opened (S : DG) (nm : List UInt8) : DG × Int :=
  if (parseL (S.bs nm)).2.2 = true then (S, 8) else if (parseL (S.bs nm)).2.1 < (S.bs nm).length then S.trunc nm (parseL (S.bs nm)).2.1 else (S, 0)

/-- what lies behind an Open -/
def Opened (w w' : World) (d : Nat) (S : DG) (Gp : Nat → Prop) (s : ByteArray) (e : Ending) : Prop :=
  Turn Gp w w' ∧ ∃ G', IsDisk w' d (S.opened s.data.toList).1 G' ∧ (∀ k, G' k → Gp k ∨ w.heap.size ≤ k) ∧
    (((S.opened s.data.toList).2 ≠ 0 ∧ e = .returned (.tuple #[.pointer none, .int .i64 (S.opened s.data.toList).2])) ∨
     ((S.opened s.data.toList).2 = 0 ∧ ∃ j F, e = .returned (.tuple #[.pointer (some ⟨j, 0, none⟩), .int .i64 0]) ∧ JAt w' j d s (parseL (S.bs s.data.toList)).1 (parseL (S.bs s.data.toList)).2.1 false F ∧ (∀ k, F k → w.heap.size ≤ k) ∧ (∀ k, F k → ¬ G' k)))

theorem parseL_len (l : List UInt8) : (parseL l).2.1 ≤ l.length := (parseL_bounds l).2

theorem trunc_err (S : DG) (nm : List UInt8) (n : Nat) (h0 : 0 < (S.bs nm).length) (hn : n < (S.bs nm).length) : S.trunc nm n = if S.can = true then (S.done.set nm ((S.bs nm).take n), 0) else (S, 6) := by
  unfold DG.trunc
  have h1 : S.f nm ≠ none := fun e => by unfold DG.bs at h0; rw [e] at h0; simp at h0
  rw [if_neg h1, if_neg (by omega), if_neg (by omega)]
  simp

set_option maxRecDepth 20000 in
set_option maxHeartbeats 4000000 in
theorem jopen_any (w : World) (d : Nat) (S : DG) (Gp : Nat → Prop) (s : ByteArray) (hd : IsDisk w d S Gp) (hs : s.size ≤ maxLen) (hbig : (S.bs s.data.toList).length ≤ 4194304) (hw : S.wr < 4611686018427387904) (hn : S.n < maxLen) :
    Calls Tryz.prog 35 #[.pointer (some ⟨d, 0, none⟩), .string s] w fun e w' => Opened w w' d S Gp s e := by
  have hb4 : (S.bs s.data.toList).length ≤ 140737488355328 := by omega
  have hx1 := read_any d S Gp w s hd hs hb4
  obtain ⟨bs, hbs⟩ : ∃ bs, bs = S.bs s.data.toList := ⟨_, rfl⟩
  have HS : Hid (bs = S.bs s.data.toList) := hbs
  rw [← hbs] at hx1 hbig
  clear hbs hb4
  obtain ⟨n, hn'⟩ : ∃ n, n = bs.length := ⟨_, rfl⟩
  have Hn : Hid (n = bs.length) := hn'
  rw [← hn'] at hx1 hbig
  clear hn'
  have herr : S.err s.data.toList = 0 ∨ S.err s.data.toList = 4 := by unfold DG.err; split <;> simp
  obtain ⟨er, her⟩ : ∃ er, er = S.err s.data.toList := ⟨_, rfl⟩
  rw [← her] at hx1 herr
  clear her
  have hdlt := hd.lt
  have HD : Hid (IsDisk w d S Gp) := hd
  clear hd
  go_enter Tryz.func35, Tryz.ntmps35
  go_wp2_with fail
  refine hx1.mono ?_
  rintro e w1 ⟨a, c, rfl, hown, hB1, hnc, hnil⟩
  obtain ⟨hb1, hab⟩ := ownsRow_toBytes hown
  clear hx1 hown
  have hs1 := hB1.size
  have hJ0 := JAt.new w1 d s
  have hB2 : Below w.heap.size w (w1.alloc (.cells #[.pointer (some ⟨d, 0, none⟩), .string s, .slice none 0 0, .int .i64 0, .slice none 0 0, .int .i64 0, .bool false] 128)) := hB1.alloc hB1.size _
  have hb2 : Bytes (w1.alloc (.cells #[.pointer (some ⟨d, 0, none⟩), .string s, .slice none 0 0, .int .i64 0, .slice none 0 0, .int .i64 0, .bool false] 128)) a n bs := (Turn.of_below (fun _ => False) ((Below.refl _ w1).alloc (Nat.le_refl _) _)).bytes hb1 (fun _ _ _ => id)
  have hx2 := jread_any _ w1.heap.size d s _ hJ0 a n c bs hb2 hbig
  obtain ⟨w2, hw2⟩ : ∃ w2, w2 = w1.alloc (.cells #[.pointer (some ⟨d, 0, none⟩), .string s, .slice none 0 0, .int .i64 0, .slice none 0 0, .int .i64 0, .bool false] 128) := ⟨_, rfl⟩
  have hs2 : w2.heap.size = w1.heap.size + 1 := by rw [hw2]; simp
  rw [← hw2] at hx2 hB2
  clear hJ0 hb2 hb1
  have HK : Hid (∀ w3, Turn (fun k => k = w1.heap.size) w2 w3 → Turn Gp w w3 ∧ IsDisk w3 d S Gp) := fun w3 hT3 =>
    ⟨(Turn.of_below Gp hB2).trans hT3 (fun i hi e => by omega), (HD.out.below hB2).turn hT3 (fun k hk e => by have := hdlt k hk; omega)⟩
  rcases herr with rfl | rfl
  · go_wp2_with fail
    rw [← hw2]
    clear hw2
    refine hx2.mono ?_
    clear hx2
    rintro e w3 ⟨hT3, (⟨hwr, rfl⟩ | ⟨hok, rfl, hJ3⟩)⟩
    · have HT3 : Hid (Turn Gp w w3 ∧ IsDisk w3 d S Gp) := HK.out w3 hT3
      clear hT3
      go_wp2
      go_ret2
      rw [HS.out] at hwr
      have hO : S.opened s.data.toList = (S, 8) := by unfold DG.opened; rw [if_pos hwr]
      refine ⟨HT3.out.1, Gp, by rw [hO]; exact HT3.out.2, fun k hk => .inl hk, .inl ⟨by rw [hO]; simp, by rw [hO]; rfl⟩⟩
    · have HT3 : Hid (Turn Gp w w3 ∧ IsDisk w3 d S Gp) := HK.out w3 hT3
      have hs3 := hT3.size
      clear hT3
      obtain ⟨Z, hZ⟩ : ∃ Z, Z = (parseL bs).2.1 := ⟨_, rfl⟩
      have HZ : Hid (Z = (parseL bs).2.1 ∧ (parseL bs).2.2 = false) := ⟨hZ, hok⟩
      rw [← hZ] at hJ3
      clear hZ hok
      have c5 := hJ3.c5
      have HJ3 : Hid (JAt w3 w1.heap.size d s (parseL bs).1 Z false (grow (fun k => k = w1.heap.size) w2 w3)) := hJ3
      have HF : Hid (∀ k, grow (fun k => k = w1.heap.size) w2 w3 k → w.heap.size ≤ k ∧ ¬ Gp k) := fun k hk => by
        have : w.heap.size ≤ k := hk.elim (fun e => by omega) (fun e => by omega)
        exact ⟨this, fun hg => by have := hdlt k hg; omega⟩
      clear hJ3
      by_cases hZn : Z < n
      · have i1 : (Z : Int) < (n : Int) := by omega
        have hx4 := truncate_any d S Gp w3 s Z HT3.out.2 hs hw hn (by rw [← HS.out, ← Hn.out]; exact hbig)
        have hte := trunc_err S s.data.toList Z (by rw [← HS.out, ← Hn.out]; omega) (by rw [← HS.out, ← Hn.out]; exact hZn)
        have hO : Hid (S.opened s.data.toList = S.trunc s.data.toList Z) := by
          show _ = _
          unfold DG.opened
          rw [← HS.out, if_neg (by rw [HZ.out.2]; decide), ← HZ.out.1, if_pos (by rw [← Hn.out]; exact hZn)]
        by_cases hcan : S.can = true
        · rw [if_pos hcan] at hte
          have HO : Hid (S.opened s.data.toList = (S.done.set s.data.toList ((S.bs s.data.toList).take Z), 0)) := by show _ = _; rw [hO.out, hte]
          rw [hte] at hx4
          clear hte hO
          go_wp2_with fail
          refine hx4.mono ?_
          rintro e w4 ⟨rfl, hd4, hT4⟩
          have HE : Hid (Turn Gp w w4 ∧ IsDisk w4 d (S.done.set s.data.toList ((S.bs s.data.toList).take Z)) (grow Gp w3 w4) ∧ JAt w4 w1.heap.size d s (parseL bs).1 Z false (grow (fun k => k = w1.heap.size) w2 w3)) :=
            ⟨HT3.out.1.trans hT4 (fun _ _ h => h), hd4, HJ3.out.turn hT4 (fun k hk => (HF.out k hk).2)⟩
          have hlt3 := HJ3.out.lt
          clear hd4 hT4 hx4
          go_wp2
          go_ret2
          refine ⟨HE.out.1, grow Gp w3 w4, by rw [HO.out]; exact HE.out.2.1, fun k hk => hk.elim .inl (fun h => .inr (by have := HT3.out.1.size; omega)), .inr ⟨by rw [HO.out], w1.heap.size, _, rfl, ?_, fun k hk => (HF.out k hk).1, fun k hk hg => hg.elim (HF.out k hk).2 (fun h => by have := hlt3 k hk; omega)⟩⟩
          rw [← HS.out, ← HZ.out.1]; exact HE.out.2.2
        · rw [if_neg hcan] at hte
          have HO : Hid (S.opened s.data.toList = (S, 6)) := by show _ = _; rw [hO.out, hte]
          rw [hte] at hx4
          clear hte hO
          go_wp2_with fail
          refine hx4.mono ?_
          rintro e w4 ⟨rfl, hd4, hT4⟩
          have HE : Hid (Turn Gp w w4 ∧ IsDisk w4 d S (grow Gp w3 w4)) := ⟨HT3.out.1.trans hT4 (fun _ _ h => h), hd4⟩
          clear hd4 hT4 hx4
          go_wp2
          go_ret2
          exact ⟨HE.out.1, grow Gp w3 w4, by rw [HO.out]; exact HE.out.2, fun k hk => hk.elim .inl (fun h => .inr (by have := HT3.out.1.size; omega)), .inl ⟨by rw [HO.out]; simp, by rw [HO.out]; rfl⟩⟩
      · have i1 : ¬ (Z : Int) < (n : Int) := by omega
        have HO : Hid (S.opened s.data.toList = (S, 0)) := by
          show _ = _
          unfold DG.opened
          rw [← HS.out, if_neg (by rw [HZ.out.2]; decide), ← HZ.out.1, if_neg (by rw [← Hn.out]; exact hZn)]
        go_wp2
        go_ret2
        refine ⟨HT3.out.1, Gp, by rw [HO.out]; exact HT3.out.2, fun k hk => .inl hk, .inr ⟨by rw [HO.out], w1.heap.size, _, rfl, ?_, fun k hk => (HF.out k hk).1, fun k hk => (HF.out k hk).2⟩⟩
        rw [← HS.out, ← HZ.out.1]; exact HJ3.out
  · go_wp2_with fail
    rw [← hw2]
    clear hw2
    refine hx2.mono ?_
    clear hx2
    rintro e w3 ⟨hT3, (⟨hwr, rfl⟩ | ⟨hok, rfl, hJ3⟩)⟩
    · have HT3 : Hid (Turn Gp w w3 ∧ IsDisk w3 d S Gp) := HK.out w3 hT3
      clear hT3
      go_wp2
      go_ret2
      rw [HS.out] at hwr
      have hO : S.opened s.data.toList = (S, 8) := by unfold DG.opened; rw [if_pos hwr]
      refine ⟨HT3.out.1, Gp, by rw [hO]; exact HT3.out.2, fun k hk => .inl hk, .inl ⟨by rw [hO]; simp, by rw [hO]; rfl⟩⟩
    · have HT3 : Hid (Turn Gp w w3 ∧ IsDisk w3 d S Gp) := HK.out w3 hT3
      have hs3 := hT3.size
      clear hT3
      obtain ⟨Z, hZ⟩ : ∃ Z, Z = (parseL bs).2.1 := ⟨_, rfl⟩
      have HZ : Hid (Z = (parseL bs).2.1 ∧ (parseL bs).2.2 = false) := ⟨hZ, hok⟩
      rw [← hZ] at hJ3
      clear hZ hok
      have c5 := hJ3.c5
      have HJ3 : Hid (JAt w3 w1.heap.size d s (parseL bs).1 Z false (grow (fun k => k = w1.heap.size) w2 w3)) := hJ3
      have HF : Hid (∀ k, grow (fun k => k = w1.heap.size) w2 w3 k → w.heap.size ≤ k ∧ ¬ Gp k) := fun k hk => by
        have : w.heap.size ≤ k := hk.elim (fun e => by omega) (fun e => by omega)
        exact ⟨this, fun hg => by have := hdlt k hg; omega⟩
      clear hJ3
      by_cases hZn : Z < n
      · have i1 : (Z : Int) < (n : Int) := by omega
        have hx4 := truncate_any d S Gp w3 s Z HT3.out.2 hs hw hn (by rw [← HS.out, ← Hn.out]; exact hbig)
        have hte := trunc_err S s.data.toList Z (by rw [← HS.out, ← Hn.out]; omega) (by rw [← HS.out, ← Hn.out]; exact hZn)
        have hO : Hid (S.opened s.data.toList = S.trunc s.data.toList Z) := by
          show _ = _
          unfold DG.opened
          rw [← HS.out, if_neg (by rw [HZ.out.2]; decide), ← HZ.out.1, if_pos (by rw [← Hn.out]; exact hZn)]
        by_cases hcan : S.can = true
        · rw [if_pos hcan] at hte
          have HO : Hid (S.opened s.data.toList = (S.done.set s.data.toList ((S.bs s.data.toList).take Z), 0)) := by show _ = _; rw [hO.out, hte]
          rw [hte] at hx4
          clear hte hO
          go_wp2_with fail
          refine hx4.mono ?_
          rintro e w4 ⟨rfl, hd4, hT4⟩
          have HE : Hid (Turn Gp w w4 ∧ IsDisk w4 d (S.done.set s.data.toList ((S.bs s.data.toList).take Z)) (grow Gp w3 w4) ∧ JAt w4 w1.heap.size d s (parseL bs).1 Z false (grow (fun k => k = w1.heap.size) w2 w3)) :=
            ⟨HT3.out.1.trans hT4 (fun _ _ h => h), hd4, HJ3.out.turn hT4 (fun k hk => (HF.out k hk).2)⟩
          have hlt3 := HJ3.out.lt
          clear hd4 hT4 hx4
          go_wp2
          go_ret2
          refine ⟨HE.out.1, grow Gp w3 w4, by rw [HO.out]; exact HE.out.2.1, fun k hk => hk.elim .inl (fun h => .inr (by have := HT3.out.1.size; omega)), .inr ⟨by rw [HO.out], w1.heap.size, _, rfl, ?_, fun k hk => (HF.out k hk).1, fun k hk hg => hg.elim (HF.out k hk).2 (fun h => by have := hlt3 k hk; omega)⟩⟩
          rw [← HS.out, ← HZ.out.1]; exact HE.out.2.2
        · rw [if_neg hcan] at hte
          have HO : Hid (S.opened s.data.toList = (S, 6)) := by show _ = _; rw [hO.out, hte]
          rw [hte] at hx4
          clear hte hO
          go_wp2_with fail
          refine hx4.mono ?_
          rintro e w4 ⟨rfl, hd4, hT4⟩
          have HE : Hid (Turn Gp w w4 ∧ IsDisk w4 d S (grow Gp w3 w4)) := ⟨HT3.out.1.trans hT4 (fun _ _ h => h), hd4⟩
          clear hd4 hT4 hx4
          go_wp2
          go_ret2
          exact ⟨HE.out.1, grow Gp w3 w4, by rw [HO.out]; exact HE.out.2, fun k hk => hk.elim .inl (fun h => .inr (by have := HT3.out.1.size; omega)), .inl ⟨by rw [HO.out]; simp, by rw [HO.out]; rfl⟩⟩
      · have i1 : ¬ (Z : Int) < (n : Int) := by omega
        have HO : Hid (S.opened s.data.toList = (S, 0)) := by
          show _ = _
          unfold DG.opened
          rw [← HS.out, if_neg (by rw [HZ.out.2]; decide), ← HZ.out.1, if_neg (by rw [← Hn.out]; exact hZn)]
        go_wp2
        go_ret2
        refine ⟨HT3.out.1, Gp, by rw [HO.out]; exact HT3.out.2, fun k hk => .inl hk, .inr ⟨by rw [HO.out], w1.heap.size, _, rfl, ?_, fun k hk => (HF.out k hk).1, fun k hk => (HF.out k hk).2⟩⟩
        rw [← HS.out, ← HZ.out.1]; exact HJ3.out

end Go.Proofs.YtojpbemfbjkjjaaGreat

/- What a Store of the program is in memory: its journal, its map of objects, its row of ids; which blocks it owns; and that it stays what it is while others are written. -/
namespace Go.Proofs.YtojpbemfbjkjjaaGreat
open Go.RowKit Go.Maps

/-- an object's id -/
def oid (o : Ob) : Int := idOf (obB o)
def oids (os : List Ob) : List Int := os.map oid
def findO (os : List Ob) (i : Int) : Option Ob := os.find? fun o => oid o == i
theorem findO_snoc (os : List Ob) (o : Ob) (i : Int) (h : findO os (oid o) = none) : findO (os ++ [o]) i = if i = oid o then some o else findO os i := by
  unfold findO at *
  rw [List.find?_append]
  by_cases e : i = oid o
  · subst e
    rw [h, if_pos rfl]
    simp
  · rw [if_neg e]
    have : (oid o == i) = false := by simp; exact fun h => e h.symm
    simp [List.find?, this]
theorem findO_mem {os : List Ob} {i : Int} {o : Ob} (h : findO os i = some o) : o ∈ os ∧ oid o = i := by
  unfold findO at h
  exact ⟨List.mem_of_find?_eq_some h, by have := List.find?_some h; simpa using this⟩
theorem findO_none {os : List Ob} {i : Int} (h : findO os i = none) : i ∉ oids os := by
  unfold findO at h
  rw [List.find?_eq_none] at h
  unfold oids
  intro hm
  obtain ⟨o, ho, e⟩ := List.mem_map.1 hm
  have := h o ho
  simp [e] at this
theorem idOf_bounds (l : List UInt8) : 0 ≤ idOf l ∧ idOf l ≤ 18446744073709551615 := by
  unfold idOf
  have h1 := hashTo_lo l l.length
  have h2 := hashTo_hi l l.length
  split <;> omega
theorem id_wf {i : Int} (h0 : 0 ≤ i) (h1 : i ≤ 18446744073709551615) : (Lit.int .u64 i).wf = true := by
  simp [Lit.wf, IntKind.min, IntKind.max, IntKind.signed, IntKind.bits]
  omega

/-- an element of the map read as the value that it is -/
def rvO (v : Value) : Option (DataW Value × List MemPlace) := some (.held v, [])
abbrev nilO : DataW Value := .held .nilIface
theorem keyedI : Keyed Tryz.prog 31 := int_keyed Tryz.underlying31
theorem zeroObj (w : World) : (zeroValue 69).run Tryz.prog w = .ok .nilIface w := by kernel_rfl
theorem keyOfI (i : Int) (h0 : 0 ≤ i) (h1 : i ≤ 18446744073709551615) : keyOf Tryz.prog 31 (.int .u64 i) = some (.int .u64 i) := keyOf_int_mk Tryz.underlying31 (id_wf h0 h1)
theorem keyLitI (i : Int) : WideAt.IsKeyLit (.int .u64 i) := trivial
theorem key_neI {i i' : Int} (h : i' ≠ i) : (Lit.int .u64 i' : Lit) ≠ .int .u64 i := fun e => h (by cases e; rfl)
/-- "objects" -/
def objNm : ByteArray := ⟨#[111, 98, 106, 101, 99, 116, 115]⟩

/-- block s of w is a Store over the disk in block d: its journal's records, the objects in the order in which they came -/
structure StAt (w : World) (s d j b : Nat) (M : DataW Value) (v : Value) (rs : List (List UInt8)) (os : List Ob) (sz : Nat) (cut : Bool) (FJ O F : Nat → Prop) : Prop where
  c0 : w.cell? ⟨s, 0, none⟩ = some (.pointer (some ⟨j, 0, none⟩))
  c1 : w.cell? ⟨s, 1, none⟩ = some (.map (some b))
  c2 : w.cell? ⟨s, 2, none⟩ = some v
  f2 : w.frozen? ⟨s, 2, none⟩ = false
  jr : JAt w j d objNm rs sz cut FJ
  own : w.ownsMap Tryz.prog 31 rvO b (size M) M
  msz : size M = os.length
  has : ∀ i, has M (.int .u64 i) = (findO os i).isSome
  ob : ∀ i o, findO os i = some o → ∃ u, M.atKey (.int .u64 i) nilO = .held u ∧ Held O o u w
  row : w.ownsRow 0 31 1 v os.length ((oids os).map (Value.int .u64))
  sb : s ≠ b
  vo : ∀ g, v.ownBlock = some g → g ≠ s ∧ g ≠ b ∧ ¬ FJ g ∧ ¬ O g ∧ F g
  ns : ¬ FJ s ∧ ¬ FJ b ∧ ¬ O s ∧ ¬ O b
  oj : ∀ k, O k → ¬ FJ k
  fs : F s ∧ F b
  fj : ∀ k, FJ k → F k
  fo : ∀ k, O k → F k
  lt : ∀ k, F k → k < w.heap.size
  good : ∀ o ∈ os, obErr o = 0

theorem ownsMap_kept {w w' : World} {b n : Nat} {M : DataW Value} (h : w.ownsMap Tryz.prog 31 rvO b n M) (hk : w'.heap[b]? = w.heap[b]?) : w'.ownsMap Tryz.prog 31 rvO b n M := by
  obtain ⟨es, clock, hb, r⟩ := h
  exact ⟨es, clock, hk.trans hb, r⟩
theorem ownsMap_tightI {w : World} {b n : Nat} {M : DataW Value} (h : w.ownsMap Tryz.prog 31 rvO b n M) : w.ownsMap Tryz.prog 31 rvO b (size M) M := by
  obtain ⟨es, clock, h1, h2, h3, rfl⟩ := h
  exact ⟨es, clock, h1, h2, by simp [size, length_sorted], rfl⟩

theorem StAt.kept {w w' : World} {s d j b : Nat} {M : DataW Value} {v : Value} {rs : List (List UInt8)} {os : List Ob} {sz : Nat} {cut : Bool} {FJ O F : Nat → Prop} (h : StAt w s d j b M v rs os sz cut FJ O F) (hs : w.heap.size ≤ w'.heap.size) (hk : ∀ k, F k → w'.heap[k]? = w.heap[k]?) : StAt w' s d j b M v rs os sz cut FJ O F :=
  { h with
    c0 := by rw [World.cell?_of_block (hk s h.fs.1)]; exact h.c0
    c1 := by rw [World.cell?_of_block (hk s h.fs.1)]; exact h.c1
    c2 := by rw [World.cell?_of_block (hk s h.fs.1)]; exact h.c2
    f2 := by rw [World.frozen?_of_block (hk s h.fs.1)]; exact h.f2
    jr := h.jr.kept hs fun k hf => hk k (h.fj k hf)
    own := ownsMap_kept h.own (hk b h.fs.2)
    ob := fun i o hi => by
      obtain ⟨u, h1, h2⟩ := h.ob i o hi
      exact ⟨u, h1, h2.kept fun k ho => hk k (h.fo k ho)⟩
    row := row_moved h.row fun g hg => hk g (h.vo g hg).2.2.2.2
    lt := fun k hf => Nat.lt_of_lt_of_le (h.lt k hf) hs }
theorem StAt.turn {w w' : World} {s d j b : Nat} {M : DataW Value} {v : Value} {rs : List (List UInt8)} {os : List Ob} {sz : Nat} {cut : Bool} {FJ O F Gp : Nat → Prop} (h : StAt w s d j b M v rs os sz cut FJ O F) (ht : Turn Gp w w') (hd : ∀ k, F k → ¬ Gp k) : StAt w' s d j b M v rs os sz cut FJ O F :=
  h.kept ht.size (fun k hk => ht.block k (h.lt k hk) (hd k hk))
theorem StAt.below {w w' : World} {s d j b : Nat} {M : DataW Value} {v : Value} {rs : List (List UInt8)} {os : List Ob} {sz : Nat} {cut : Bool} {FJ O F : Nat → Prop} (h : StAt w s d j b M v rs os sz cut FJ O F) (hB : Below w.heap.size w w') : StAt w' s d j b M v rs os sz cut FJ O F :=
  h.turn (Turn.of_below (fun _ => False) hB) (fun _ _ => id)
theorem StAt.wide {w : World} {s d j b : Nat} {M : DataW Value} {v : Value} {rs : List (List UInt8)} {os : List Ob} {sz : Nat} {cut : Bool} {FJ O F F' : Nat → Prop} (h : StAt w s d j b M v rs os sz cut FJ O F) (hs : ∀ k, F k → F' k) (hlt : ∀ k, F' k → k < w.heap.size) : StAt w s d j b M v rs os sz cut FJ O F' :=
  { h with
    vo := fun g hg => ⟨(h.vo g hg).1, (h.vo g hg).2.1, (h.vo g hg).2.2.1, (h.vo g hg).2.2.2.1, hs g (h.vo g hg).2.2.2.2⟩
    fs := ⟨hs _ h.fs.1, hs _ h.fs.2⟩
    fj := fun k hk => hs k (h.fj k hk)
    fo := fun k hk => hs k (h.fo k hk)
    lt := hlt }

/-- block s of w is a Store over the disk in block d, whose records are its objects -/
def IsSt (w : World) (s d : Nat) (os : List Ob) (sz : Nat) (cut : Bool) (F : Nat → Prop) : Prop := ∃ j b M v FJ O, StAt w s d j b M v (os.map obB) os sz cut FJ O F
theorem IsSt.turn {w w' : World} {s d : Nat} {os : List Ob} {sz : Nat} {cut : Bool} {F Gp : Nat → Prop} (h : IsSt w s d os sz cut F) (ht : Turn Gp w w') (hd : ∀ k, F k → ¬ Gp k) : IsSt w' s d os sz cut F := by
  obtain ⟨j, b, M, v, FJ, O, h⟩ := h
  exact ⟨j, b, M, v, FJ, O, h.turn ht hd⟩
theorem IsSt.below {w w' : World} {s d : Nat} {os : List Ob} {sz : Nat} {cut : Bool} {F : Nat → Prop} (h : IsSt w s d os sz cut F) (hB : Below w.heap.size w w') : IsSt w' s d os sz cut F :=
  h.turn (Turn.of_below (fun _ => False) hB) (fun _ _ => id)
theorem IsSt.lt {w : World} {s d : Nat} {os : List Ob} {sz : Nat} {cut : Bool} {F : Nat → Prop} (h : IsSt w s d os sz cut F) (k : Nat) (hk : F k) : k < w.heap.size := by
  obtain ⟨j, b, M, v, FJ, O, h⟩ := h
  exact h.lt k hk

/-- the map's answer -/
theorem StAt.look {w : World} {s d j b : Nat} {M : DataW Value} {v : Value} {rs : List (List UInt8)} {os : List Ob} {sz : Nat} {cut : Bool} {FJ O F : Nat → Prop} (h : StAt w s d j b M v rs os sz cut FJ O F) (i : Int) (h0 : 0 ≤ i) (h1 : i ≤ 18446744073709551615) (u : Value) (hu : M.atKey (.int .u64 i) nilO = .held u) (W : World) (hW : W.heap[b]? = w.heap[b]?) :
    (Instr.lookup 95 (.map (some b)) (.int .u64 i) true).run Tryz.prog W = .ok (.tuple #[u, .bool (findO os i).isSome]) W := by
  obtain ⟨u', ps, hrun, hu'⟩ := (ownsMap_kept h.own hW).look_ok keyedI Tryz.underlying95 (zeroObj W) (show rvO .nilIface = some (nilO, []) from rfl) (keyOfI i h0 h1)
  rw [hu] at hu'
  simp only [rvO, Option.some.injEq, Prod.mk.injEq] at hu'
  obtain ⟨e, _⟩ := hu'
  cases e
  rw [h.has] at hrun
  exact hrun
theorem StAt.there {w : World} {s d j b : Nat} {M : DataW Value} {v : Value} {rs : List (List UInt8)} {os : List Ob} {sz : Nat} {cut : Bool} {FJ O F : Nat → Prop} (h : StAt w s d j b M v rs os sz cut FJ O F) (i : Int) (h0 : 0 ≤ i) (h1 : i ≤ 18446744073709551615) (o : Ob) (hf : findO os i = some o) :
    ∃ u, Held O o u w ∧ ∀ W : World, W.heap[b]? = w.heap[b]? → (Instr.lookup 95 (.map (some b)) (.int .u64 i) true).run Tryz.prog W = .ok (.tuple #[u, .bool true]) W := by
  obtain ⟨u, hu, hh⟩ := h.ob i o hf
  refine ⟨u, hh, fun W hW => ?_⟩
  have := h.look i h0 h1 u hu W hW
  rw [hf] at this
  exact this
theorem StAt.not {w : World} {s d j b : Nat} {M : DataW Value} {v : Value} {rs : List (List UInt8)} {os : List Ob} {sz : Nat} {cut : Bool} {FJ O F : Nat → Prop} (h : StAt w s d j b M v rs os sz cut FJ O F) (i : Int) (h0 : 0 ≤ i) (h1 : i ≤ 18446744073709551615) (hf : findO os i = none) (W : World) (hW : W.heap[b]? = w.heap[b]?) :
    (Instr.lookup 95 (.map (some b)) (.int .u64 i) true).run Tryz.prog W = .ok (.tuple #[.nilIface, .bool false]) W := by
  have hn := h.has i
  rw [hf] at hn
  have := h.look i h0 h1 .nilIface (atKey_of_not_has (by simpa using hn) _) W hW
  rw [hf] at this
  exact this

/-- behind a call of the journal's: it, and its disk, have turned -/
theorem StAt.moved {w w' : World} {s d j b : Nat} {M : DataW Value} {v : Value} {rs rs' : List (List UInt8)} {os : List Ob} {sz sz' : Nat} {cut cut' : Bool} {FJ FJ' O F G : Nat → Prop} (h : StAt w s d j b M v rs os sz cut FJ O F) (ht : Turn (fun k => FJ k ∨ G k) w w') (hG : ∀ k, F k → ¬ G k)
    (hJ : JAt w' j d objNm rs' sz' cut' FJ') (hF : ∀ k, FJ' k → FJ k ∨ w.heap.size ≤ k) : StAt w' s d j b M v rs' os sz' cut' FJ' O (fun k => F k ∨ FJ' k) := by
  have hk : ∀ k, F k → ¬ FJ k → w'.heap[k]? = w.heap[k]? := fun k hf hn => ht.block k (h.lt k hf) (fun e => e.elim hn (hG k hf))
  have hn : ∀ k, F k → ¬ FJ k → ¬ FJ' k := fun k hf hn hj => (hF k hj).elim hn (fun e => by have := h.lt k hf; omega)
  have ks := hk s h.fs.1 h.ns.1
  have kb := hk b h.fs.2 h.ns.2.1
  exact
  { c0 := by rw [World.cell?_of_block ks]; exact h.c0
    c1 := by rw [World.cell?_of_block ks]; exact h.c1
    c2 := by rw [World.cell?_of_block ks]; exact h.c2
    f2 := by rw [World.frozen?_of_block ks]; exact h.f2
    jr := hJ
    own := ownsMap_kept h.own kb
    msz := h.msz
    has := h.has
    ob := fun i o hi => by
      obtain ⟨u, h1, h2⟩ := h.ob i o hi
      exact ⟨u, h1, h2.kept fun k ho => hk k (h.fo k ho) (h.oj k ho)⟩
    row := row_moved h.row fun g hg => hk g (h.vo g hg).2.2.2.2 (h.vo g hg).2.2.1
    sb := h.sb
    vo := fun g hg => by
      have := h.vo g hg
      exact ⟨this.1, this.2.1, hn g this.2.2.2.2 this.2.2.1, this.2.2.2.1, .inl this.2.2.2.2⟩
    ns := ⟨hn s h.fs.1 h.ns.1, hn b h.fs.2 h.ns.2.1, h.ns.2.2⟩
    oj := fun k hk => hn k (h.fo k hk) (h.oj k hk)
    fs := ⟨.inl h.fs.1, .inl h.fs.2⟩
    fj := fun k hk => .inr hk
    fo := fun k hk => .inl (h.fo k hk)
    lt := fun k hk => hk.elim (fun e => Nat.lt_of_lt_of_le (h.lt k e) ht.size) (hJ.lt k)
    good := h.good }

/-- an object more -/
theorem StAt.more {w w2 w3 : World} {s d j b : Nat} {M : DataW Value} {v v' : Value} {rs : List (List UInt8)} {os : List Ob} {sz : Nat} {cut : Bool} {FJ O O' F : Nat → Prop} (h : StAt w s d j b M v rs os sz cut FJ O F) (o : Ob) (u : Value) (hf : findO os (oid o) = none) (hgood : obErr o = 0)
    (hO : Held O' o u w) (hO' : ∀ k, O' k → k < w.heap.size ∧ ¬ F k)
    (h2 : w2.ownsMap Tryz.prog 31 rvO b (size M + 1) (M.put (.int .u64 (oid o)) (.held u))) (hg2 : w.grownBy w2 (some b))
    (hown : w3.ownsRow 0 31 1 v' (os.length + 1) ((oids os).map (Value.int .u64) ++ [.int .u64 (oid o)])) (hg3 : ∀ k, k < w2.heap.size → v.ownBlock ≠ some k → w3.heap[k]? = w2.heap[k]?) (hs3 : w2.heap.size ≤ w3.heap.size) (hv' : ∀ g, v'.ownBlock = some g → v.ownBlock = some g ∨ w2.heap.size ≤ g) :
    StAt (w3.setCell ⟨s, 2, none⟩ v') s d j b (M.put (.int .u64 (oid o)) (.held u)) v' rs (os ++ [o]) sz cut FJ (fun k => O k ∨ O' k) (fun k => (F k ∧ v.ownBlock ≠ some k) ∨ O' k ∨ v'.ownBlock = some k) := by
  have hm := h.own.isMap
  have htidy := h.own.tidy keyedI
  have hlt2 : ∀ k, k < w.heap.size → k ≠ b → w2.heap[k]? = w.heap[k]? := fun k hk hb => hg2.block k hk (by simpa using hb)
  have hlt3 : ∀ k, k < w.heap.size → v.ownBlock ≠ some k → w3.heap[k]? = w2.heap[k]? := fun k hk hn => hg3 k (Nat.lt_of_lt_of_le hk hg2.size) hn
  have hvs : v.ownBlock ≠ some s := fun e => (h.vo s e).1 rfl
  have hvb : v.ownBlock ≠ some b := fun e => (h.vo b e).2.1 rfl
  have hslt := h.lt s h.fs.1
  have hblt := h.lt b h.fs.2
  have ks : w3.heap[s]? = w.heap[s]? := (hlt3 s hslt hvs).trans (hlt2 s hslt h.sb)
  have kk : ∀ k, k < w.heap.size → k ≠ s → k ≠ b → v.ownBlock ≠ some k → (w3.setCell ⟨s, 2, none⟩ v').heap[k]? = w.heap[k]? := fun k hk n1 n2 n3 => by
    rw [Below.heap_setCell _ _ _ _ (by exact n1), hlt3 k hk n3, hlt2 k hk n2]
  have cs : ∀ i, w3.cell? ⟨s, i, none⟩ = w.cell? ⟨s, i, none⟩ := fun i => World.cell?_of_block ks
  have hgv : ∀ g, v'.ownBlock = some g → g ≠ s ∧ g ≠ b := fun g hg => (hv' g hg).elim (fun e => ⟨(h.vo g e).1, (h.vo g e).2.1⟩) (fun e => ⟨by have := hg2.size; omega, by have := hg2.size; omega⟩)
  have hvlt : ∀ g, v'.ownBlock = some g → g < w3.heap.size := fun g hg => (row_block hown g hg).2.1
  exact
  { c0 := by rw [World.cell?_setCell_other _ _ _ _ (by simp), cs]; exact h.c0
    c1 := by rw [World.cell?_setCell_other _ _ _ _ (by simp), cs]; exact h.c1
    c2 := World.cell?_setCell_same _ _ _ ((cs 2).trans h.c2)
    f2 := by rw [World.frozen?_setCell, World.frozen?_of_block ks]; exact h.f2
    jr := h.jr.kept (by rw [World.size_setCell]; exact Nat.le_trans hg2.size hs3) fun k hk => kk k (h.jr.lt k hk) (fun e => h.ns.1 (e ▸ hk)) (fun e => h.ns.2.1 (e ▸ hk)) (fun e => (h.vo k e).2.2.1 hk)
    own := by
      have : w3.ownsMap Tryz.prog 31 rvO b (size M + 1) (M.put (.int .u64 (oid o)) (.held u)) := ownsMap_kept h2 (hlt3 b hblt hvb)
      exact ownsMap_tightI (this.setCell (a := ⟨s, 2, none⟩) (fun e => h.sb e.symm) _)
    msz := by rw [size_put htidy, h.has, hf, h.msz]; simp
    has := fun i => by
      rw [findO_snoc os o i hf]
      by_cases e : i = oid o
      · subst e; rw [has_put_same hm (keyLitI _), if_pos rfl]; rfl
      · rw [has_put_other (key_neI e), h.has, if_neg e]
    ob := fun i p hi => by
      rw [findO_snoc os o i hf] at hi
      by_cases e : i = oid o
      · subst e
        rw [if_pos rfl] at hi
        cases hi
        refine ⟨u, atKey_put_same hm (keyLitI _) _ _, (hO.kept fun k hk => ?_).wide fun k hk => .inr hk⟩
        have := hO' k hk
        exact kk k this.1 (fun e => this.2 (e ▸ h.fs.1)) (fun e => this.2 (e ▸ h.fs.2)) (fun e => this.2 (h.vo k e).2.2.2.2)
      · rw [if_neg e] at hi
        obtain ⟨u', h1, h2'⟩ := h.ob i p hi
        refine ⟨u', by rw [atKey_put_other (key_neI e)]; exact h1, (h2'.kept fun k hk => ?_).wide fun k hk => .inl hk⟩
        exact kk k (h.lt k (h.fo k hk)) (fun e => h.ns.2.2.1 (e ▸ hk)) (fun e => h.ns.2.2.2 (e ▸ hk)) (fun e => (h.vo k e).2.2.2.1 hk)
    row := by
      have e1 : (os ++ [o]).length = os.length + 1 := by simp
      have e2 : (oids (os ++ [o])).map (Value.int .u64) = (oids os).map (Value.int .u64) ++ [.int .u64 (oid o)] := by simp [oids]
      rw [e1, e2]
      exact row_moved hown fun g hg => Below.heap_setCell _ _ _ _ (hgv g hg).1
    sb := h.sb
    vo := fun g hg => by
      refine ⟨(hgv g hg).1, (hgv g hg).2, ?_⟩
      rcases hv' g hg with e | e
      · have hh := h.vo g e
        exact ⟨hh.2.2.1, fun e' => e'.elim hh.2.2.2.1 (fun e' => (hO' g e').2 hh.2.2.2.2), .inr (.inr hg)⟩
      · have h2s := hg2.size
        exact ⟨fun hj => by have := h.jr.lt g hj; omega, fun e' => e'.elim (fun e' => by have := h.lt g (h.fo g e'); omega) (fun e' => by have := (hO' g e').1; omega), .inr (.inr hg)⟩
    ns := ⟨h.ns.1, h.ns.2.1, fun e => e.elim h.ns.2.2.1 (fun e => (hO' s e).2 h.fs.1), fun e => e.elim h.ns.2.2.2 (fun e => (hO' b e).2 h.fs.2)⟩
    oj := fun k hk => hk.elim (h.oj k) (fun e hj => (hO' k e).2 (h.fj k hj))
    fs := ⟨.inl ⟨h.fs.1, hvs⟩, .inl ⟨h.fs.2, hvb⟩⟩
    fj := fun k hk => .inl ⟨h.fj k hk, fun e => (h.vo k e).2.2.1 hk⟩
    fo := fun k hk => hk.elim (fun e => .inl ⟨h.fo k e, fun e' => (h.vo k e').2.2.2.1 e⟩) (fun e => .inr (.inl e))
    lt := fun k hk => by
      rw [World.size_setCell]
      have h1 := hg2.size
      rcases hk with ⟨hk, _⟩ | hk | hk
      · have := h.lt k hk; omega
      · have := (hO' k hk).1; omega
      · exact hvlt k hk
    good := fun p hp => by
      rcases List.mem_append.1 hp with hp | hp
      · exact h.good p hp
      · simp at hp; subst hp; exact hgood }
end Go.Proofs.YtojpbemfbjkjjaaGreat
