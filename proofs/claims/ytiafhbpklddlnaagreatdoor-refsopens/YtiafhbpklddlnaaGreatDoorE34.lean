import Derived.Test.YtiafhbpklddlnaaGreatDoorE20
import Derived.Test.YtiafhbpklddlnaaGreatDoorE33
/- The walks of what stands on Path: isPath, count, rest, Rest, In, firstErr, join, Move. -/
namespace Go.Proofs.YtiafhbpklddlnaaGreatDoor
open Go.RowKit Go.Shelf

attribute [local go_sem] Oper.semAt_some

theorem field0 (a b : Value) (w : World) : (Instr.field 75 (.agg #[a, b]) 0).run Tryz.prog w = .ok a w := by kernel_rfl
theorem isPath_any (s : ByteArray) (w : World) (hs : s.size ≤ maxLen) :
    Calls Tryz.prog 103 #[.string s] w fun e w' => e = .returned (.bool (isP (bs s))) ∧ Below w.heap.size w w' := by
  have hp := path_any s w hs
  obtain ⟨e1, h1⟩ : ∃ e1, e1 = (pathSpot (bs s)).1 := ⟨_, rfl⟩
  obtain ⟨e2, h2⟩ : ∃ e2, e2 = (pathSpot (bs s)).2 := ⟨_, rfl⟩
  simp only [spotV] at hp
  rw [← h1, ← h2] at hp
  have H : Hid (((e1 : Int) == 0) = isP (bs s)) := by
    show _ = _
    unfold isP
    rw [← h1, Bool.eq_iff_iff, beq_iff_eq, beq_iff_eq]; omega
  clear h1 h2
  have hfd := fun w => field0 (.int .i64 (e1 : Int)) (.int .i64 (e2 : Int)) w
  go_enter Tryz.func103, Tryz.ntmps103
  go_wp2_with (go_at_call 84; refine hp.mono ?_; rintro e w' ⟨rfl, hB⟩)
  go_ret
  exact ⟨by rw [← H.out]; rfl, hB⟩

/-- how many rounds have been -/
structure CountI {s : ByteArray} (w : World) (pre : List (Pc s)) (W : World) : Prop where
  n : Boxed W w.heap.size 3 (.int .i64 (pre.length : Int))
  p : Boxed W (w.heap.size + 1) 9 (.string s)
  b : Below w.heap.size w W
theorem countI_own {s : ByteArray} (w : World) (b0 : Nat) (h0 : w.heap.size ≤ b0) : OwnFrom b0 (CountI (s := s) w) := fun _ _ _ _ hs hg hr =>
  ⟨boxed_keep hs.n hg hr, boxed_keep hs.p hg hr, below_keep hs.b (Nat.le_refl _) h0 hg hr⟩

theorem parts_count (l : List UInt8) : (parts l).length ≤ l.length + 1 := by
  have h : ∀ (l cur : List UInt8), (cutS cur l).length ≤ l.length + 1 := by
    intro l
    induction l with
    | nil => intro cur; simp [cutS]
    | cons c t ih =>
      intro cur
      unfold cutS
      split
      · have := ih []; simp only [List.length_cons]; omega
      · have := ih (cur ++ [c]); simp only [List.length_cons]; omega
  unfold parts
  split
  · simp
  · exact h l []

theorem lite_cut (s p : ByteArray) (w : World) (hs : s.size ≤ 1000000) (hp : p.size ≤ 1000000) :
    Calls Tryz.prog 133 #[.string s, .string p] w fun e w' => e = .returned (.tuple #[.string (if pre (bs p) (bs s) then s.extract p.size s.size else s), .bool (pre (bs p) (bs s))]) ∧ w' = w := by
  have hx := lite_prefix s p w (by unfold maxLen; omega) (by unfold maxLen; omega)
  cases hpr : pre (bs p) (bs s) with
  | false =>
    rw [hpr] at hx
    go_enter Tryz.func133, Tryz.ntmps133
    go_wp2_with (go_at_call 99; refine hx.mono ?_; rintro e w' ⟨rfl, rfl⟩)
    go_ret2
    exact ⟨rfl, rfl⟩
  | true =>
    have hle : p.size ≤ s.size := by have := ((pre_iff _ _).1 hpr).length_le; rw [bs_len, bs_len] at this; exact this
    have i1 : (p.size : Int) ≤ s.size := by omega
    rw [hpr] at hx
    go_enter Tryz.func133, Tryz.ntmps133
    go_wp2_with (go_at_call 99; refine hx.mono ?_; rintro e w' ⟨rfl, rfl⟩)
    go_ret2
    exact ⟨rfl, rfl⟩
theorem cut_prefix (s p : ByteArray) (w : World) (hs : s.size ≤ 1000000) (hp : p.size ≤ 1000000) :
    Calls Tryz.prog 122 #[.string s, .string p] w fun e w' => e = .returned (.tuple #[.string (if pre (bs p) (bs s) then s.extract p.size s.size else s), .bool (pre (bs p) (bs s))]) ∧ w' = w := by
  have hx := lite_cut s p w hs hp
  generalize (if pre (bs p) (bs s) then s.extract p.size s.size else s) = S at hx ⊢
  generalize pre (bs p) (bs s) = b at hx ⊢
  go_enter Tryz.func122, Tryz.ntmps122
  go_wp2_with (go_at_call 133; refine hx.mono ?_; rintro e w' ⟨rfl, rfl⟩)
  go_ret2
  exact ⟨rfl, rfl⟩

def restS (p q : ByteArray) : ByteArray := mk ((restP (bs p) (bs q)).getD [])
def restB (p q : ByteArray) : Bool := (restP (bs p) (bs q)).isSome
theorem restP_len (p q r : List UInt8) (h : restP p q = some r) : r.length ≤ p.length := by
  unfold restP at h
  split at h
  · cases h; exact Nat.le_refl _
  · split at h
    · cases h; simp
    · split at h
      · cases h; rw [List.length_drop]; omega
      · cases h
theorem restS_size (p q : ByteArray) : (restS p q).size ≤ p.size := by
  unfold restS
  rw [← bs_len, bs_mk, ← bs_len p]
  cases h : restP (bs p) (bs q) with
  | none => simp
  | some r => exact restP_len _ _ _ h

theorem nrest_any (p q : ByteArray) (w : World) (hp : p.size ≤ 500000) (hq : q.size ≤ 500000) :
    Calls Tryz.prog 104 #[.string p, .string q] w fun e w' => e = .returned (.tuple #[.string (restS p q), .bool (restB p q)]) ∧ w' = w := by
  by_cases h1 : q.toList = []
  · have e1 : restP (bs p) (bs q) = some (bs p) := by unfold restP; rw [if_pos ((toList_bs q).symm.trans h1)]
    have e2 : restS p q = p := by unfold restS; rw [e1]; exact mk_bs p
    have e3 : restB p q = true := by unfold restB; rw [e1]; rfl
    go_enter Tryz.func104, Tryz.ntmps104
    go_wp2
    go_ret2
    rw [e2, e3]
    exact ⟨rfl, rfl⟩
  · have b1 : q.toList.isEmpty = false := by simpa using h1
    have n1 : bs q ≠ [] := by rw [← toList_bs]; exact h1
    by_cases h2 : q = p
    · subst h2
      have e1 : restP (bs q) (bs q) = some [] := by unfold restP; rw [if_neg n1, if_pos rfl]
      have e2 : restS q q = ⟨#[]⟩ := by unfold restS; rw [e1]; rfl
      have e3 : restB q q = true := by unfold restB; rw [e1]; rfl
      go_enter Tryz.func104, Tryz.ntmps104
      go_wp2
      go_ret2
      rw [e2, e3]
      exact ⟨rfl, rfl⟩
    · have b2 : (q.toList == p.toList) = false := by rw [str_beq]; exact decide_eq_false (fun e => h2 (bs_inj e))
      have b3 : ¬ q.toList = p.toList := by rw [toList_bs, toList_bs]; exact fun e => h2 (bs_inj e)
      have hx := cut_prefix p (q ++ ⟨#[47]⟩) w (by omega) (by have e : (⟨#[47]⟩ : ByteArray).size = 1 := rfl; rw [ByteArray.size_append, e]; omega)
      have hb : bs (q ++ ⟨#[47]⟩) = bs q ++ [47] := by rw [bs_append]; rfl
      have hrp : restP (bs p) (bs q) = if pre (bs q ++ [47]) (bs p) then some ((bs p).drop ((bs q).length + 1)) else none := by
        unfold restP
        rw [if_neg n1, if_neg (fun e => h2 (bs_inj e))]; rfl
      rw [hb] at hx
      cases hpr : pre (bs q ++ [47]) (bs p) with
      | false =>
        rw [hpr] at hx hrp
        have e2 : restS p q = ⟨#[]⟩ := by unfold restS; rw [hrp]; rfl
        have e3 : restB p q = false := by unfold restB; rw [hrp]; rfl
        clear hrp
        go_enter Tryz.func104, Tryz.ntmps104
        go_wp2_with (go_at_call 122; refine hx.mono ?_; rintro e w' ⟨rfl, rfl⟩)
        go_ret2
        rw [e2, e3]
        exact ⟨rfl, rfl⟩
      | true =>
        rw [hpr] at hx hrp
        have e2 : restS p q = p.extract (q.size + 1) p.size := by
          unfold restS; rw [hrp]
          apply bs_inj
          rw [bs_mk, bs_extract, ← bs_len p, List.take_length, bs_len]
          simp
        have e3 : restB p q = true := by unfold restB; rw [hrp]; rfl
        clear hrp
        go_enter Tryz.func104, Tryz.ntmps104
        go_wp2_with (go_at_call 122; refine hx.mono ?_; rintro e w' ⟨rfl, rfl⟩)
        go_ret2
        rw [e2, e3]
        exact ⟨rfl, rfl⟩

theorem Rest_any (p q : ByteArray) (w : World) (hp : p.size ≤ 500000) (hq : q.size ≤ 500000) :
    Calls Tryz.prog 94 #[.string p, .string q] w fun e w' => e = .returned (.tuple #[.string (if isP (bs p) && isP (bs q) then restS p q else ⟨#[]⟩), .bool (inP (bs p) (bs q))]) ∧ Below w.heap.size w w' := by
  have hx := isPath_any p w (by unfold maxLen; omega)
  have hr := fun w => nrest_any p q w hp hq
  have hy := fun w => isPath_any q w (by unfold maxLen; omega)
  have hin : inP (bs p) (bs q) = (isP (bs p) && isP (bs q) && restB p q) := rfl
  rw [hin]
  clear hin
  cases h1 : isP (bs p) with
  | false =>
    rw [h1] at hx
    go_enter Tryz.func94, Tryz.ntmps94
    go_wp2_with (go_at_call 103; refine hx.mono ?_; rintro e w1 ⟨rfl, hB1⟩)
    go_ret2
    exact ⟨rfl, hB1⟩
  | true =>
    rw [h1] at hx
    cases h2 : isP (bs q) with
    | false =>
      rw [h2] at hy
      go_enter Tryz.func94, Tryz.ntmps94
      go_wp2_with first
        | (go_at_call 103; refine hx.mono ?_; clear hx; rintro e w1 ⟨rfl, hB1⟩; replace hy := hy w1)
        | (go_at_call 103; refine hy.mono ?_; clear hy; rintro e w2 ⟨rfl, hB2⟩)
      go_ret2
      exact ⟨rfl, hB1.trans (hB2.mono hB1.size)⟩
    | true =>
      rw [h2] at hy
      generalize restS p q = S at hr ⊢
      generalize restB p q = b at hr ⊢
      go_enter Tryz.func94, Tryz.ntmps94
      go_wp2_with first
        | (go_at_call 103; refine hx.mono ?_; clear hx; rintro e w1 ⟨rfl, hB1⟩; replace hy := hy w1)
        | (go_at_call 103; refine hy.mono ?_; clear hy; rintro e w2 ⟨rfl, hB2⟩)
        | (go_at_call 104; refine (hr _).mono ?_; clear hr; rintro e w3 ⟨rfl, rfl⟩)
      go_ret2
      exact ⟨rfl, hB1.trans (hB2.mono hB1.size)⟩

theorem In_any (p q : ByteArray) (w : World) (hp : p.size ≤ 500000) (hq : q.size ≤ 500000) :
    Calls Tryz.prog 67 #[.string p, .string q] w fun e w' => e = .returned (.bool (inP (bs p) (bs q))) ∧ Below w.heap.size w w' := by
  have hr := Rest_any p q w hp hq
  generalize (if isP (bs p) && isP (bs q) then restS p q else ⟨#[]⟩) = S at hr
  generalize inP (bs p) (bs q) = b at hr ⊢
  go_enter Tryz.func67, Tryz.ntmps67
  go_wp2_with (go_at_call 94; refine hr.mono ?_; clear hr; rintro e w3 ⟨rfl, hB⟩)
  go_ret
  exact ⟨rfl, hB⟩
end Go.Proofs.YtiafhbpklddlnaaGreatDoor

/- The program's Under, on refs that are there. -/
namespace Go.Proofs.YtiafhbpklddlnaaGreatDoor
open Go.RowKit Go.Shelf Go.Maps

attribute [local go_sem] Oper.semAt_some

/-- the refs that lie within a path -/
def underR (p : ByteArray) (L : List Ch) : List Ch := L.filter fun x => inP (bs x.1) (bs p)
/-- the list that is under way, in box c + 1, and the path, in box c -/
def UI (c : Nat) (p : ByteArray) (pre : List Ch) (f : Nat → Prop) (W : World) : Prop := Boxed W c 9 (.string p) ∧ ∃ f1, LstI (c + 1) (underR p pre) f1 W ∧ ∀ k, f k ↔ (k = c ∨ f1 k)
theorem ui_apart (c : Nat) (p : ByteArray) : Apart (UI c p) := by
  refine ⟨fun s f X Y ⟨h0, f1, h1, h2⟩ ht => ⟨(ht.block c h0.lt (fun h => h ((h2 c).2 (.inl rfl)))).trans h0, f1, (lstI_apart (c + 1)).1 _ f1 X Y h1 ⟨ht.os, ht.tape, ht.output, ht.size, fun k hk hn => ht.block k hk (fun h => hn (fun h' => h ((h2 k).2 (.inr h'))))⟩, h2⟩, fun s f X ⟨h0, f1, h1, h2⟩ k hk => ?_⟩
  rcases (h2 k).1 hk with rfl | e
  · exact h0.lt
  · exact (lstI_apart (c + 1)).2 _ f1 X h1 k e

set_option maxRecDepth 100000 in
set_option maxHeartbeats 4000000 in
theorem under_any (w : World) (r d j b : Nat) (M : DataW Value) (rs : List (List UInt8)) (g : List UInt8 → Int) (n sz : Nat) (cut : Bool) (FJ F : Nat → Prop) (h : RfAt w r d j b M rs g n sz cut FJ F) (hn : n ≤ 1000000) (L : List Ch) (hL : AllR g n L) (hs : ∀ x ∈ L, x.1.size ≤ 1000) (p : ByteArray) (hp : p.size ≤ 1000) :
    Calls Tryz.prog 68 #[.pointer (some ⟨r, 0, none⟩), .string p] w fun e w' => ∃ ad cp, e = .returned (.slice ad (underR p L).length cp) ∧ w'.ownsRow w.heap.size 38 2 (.slice ad (underR p L).length cp) (underR p L).length (chCells (underR p L)) ∧ Below w.heap.size w w' := by
  refine (callsIn_wide (n := 5)).1 ?_
  refine callsIn_of_wp_marks Tryz.func68 rfl trivial ?_ rfl
  simp only [Tryz.ntmps68, List.size_toArray, List.length_cons, List.length_nil, Nat.reduceAdd, Nat.reduceSub, Array.replicate_succ, Array.replicate_zero, List.push_toArray, List.append_toArray, List.nil_append, List.cons_append]
  have hmx : Tryz.prog.follows .mixedOrders = true := by kernel_rfl
  refine wpIn_wide.2 ?_
  go_wp2_with (go_at_call 39; refine (all_any _ _).mono ?_; rintro e w8 ⟨rfl, h8⟩; subst h8)
  obtain ⟨wz, hwz⟩ : ∃ wz, wz = ((w.alloc (.cells #[.string p] 9)).alloc (.cells #[.slice none 0 0] 30)).alloc (.cells #[.pointer (some ⟨r, 0, none⟩)] 26) := ⟨_, rfl⟩
  have hzs : wz.heap.size = w.heap.size + 3 := by rw [hwz]; simp
  have bP : Boxed wz w.heap.size 9 (.string p) := by
    have := ((Boxed.new w 9 (.string p)).alloc (.cells #[.slice none 0 0] 30)).alloc (.cells #[.pointer (some ⟨r, 0, none⟩)] 26)
    rw [hwz]; exact this
  have bU : Boxed wz (w.heap.size + 1) 30 (.slice none 0 0) := by
    have := (Boxed.new (w.alloc (.cells #[.string p] 9)) 30 (.slice none 0 0)).alloc (.cells #[.pointer (some ⟨r, 0, none⟩)] 26)
    rw [World.size_alloc] at this
    rw [hwz]; exact this
  have bB : Boxed wz (w.heap.size + 2) 26 (.pointer (some ⟨r, 0, none⟩)) := by
    have := Boxed.new ((w.alloc (.cells #[.string p] 9)).alloc (.cells #[.slice none 0 0] 30)) 26 (.pointer (some ⟨r, 0, none⟩))
    rw [World.size_alloc, World.size_alloc] at this
    rw [hwz]; exact this
  have Bz : Below w.heap.size w wz := by rw [hwz]; exact (((Below.refl _ w).alloc (Nat.le_refl _) _).alloc (by simp) _).alloc (by simp only [World.size_alloc]; omega) _
  rw [← hwz]
  clear hwz
  have hll := hL.len
  obtain ⟨i0, hi, hz0, hz1, hz2⟩ := info_parts infoRef
  refine (wpIn_wide (n := 5)).1 ?_
  refine range_owns (α := Ch) (w := wz) rfl (by omega) (gf := 63) (lb := #[.pointer (some ⟨w.heap.size + 2, 0, none⟩)]) rfl trivial (enters_of Tryz.func63 (by kernel_rfl) rfl)
    (all_tells wz r d j b M rs g n sz cut FJ F (h.below Bz) (w.heap.size + 2) bB.cell hn L hL 4 (by omega)) (fun _ => rfl) (fun k hk => hk.elim)
    (UI w.heap.size p) (fun _ _ _ _ => False) (ui_apart _ _) (fun _ => ⟨fun _ _ _ _ h _ => h, fun _ _ _ h => h.elim⟩) (fun _ _ _ _ _ h _ => h) (fun k => k = w.heap.size ∨ k = w.heap.size + 1) (fun _ _ h => h) ⟨bP, fun k => k = w.heap.size + 1, ⟨_, bU, World.ownsRow_nil _ _ _ _, fun k => by simp [Value.ownBlock]⟩, fun k => Iff.rfl⟩ ?act ?assign ?body ?done ?stop
  case assign =>
    intro l x W K hK
    gi_wp2
    exact hK
  case body =>
    rintro l pre x f W hW ⟨hbp, f1, ⟨v, hbx, hrow, hf1⟩, hf⟩ hpx
    have hpl : pre.length < L.length := (List.getElem?_eq_some_iff.1 hpx).1
    have hul : (underR p pre).length ≤ pre.length := List.length_filter_le _ _
    have hxs := hs x (List.mem_of_getElem? hpx)
    have cP := hbp.cell
    have H : Hid (Boxed W w.heap.size 9 (.string p) ∧ Boxed W (w.heap.size + 1) 30 v ∧ W.ownsRow (w.heap.size + 2) 38 2 v (underR p pre).length (chCells (underR p pre)) ∧ (∀ k, f1 k ↔ (k = w.heap.size + 1 ∨ v.ownBlock = some k)) ∧ ∀ k, f k ↔ (k = w.heap.size ∨ f1 k)) := ⟨hbp, hbx, hrow, hf1, hf⟩
    clear hf hf1 bU bB bP Bz hpx hL hbp hbx hrow hs
    have hin := fun W => In_any x.1 p W (by omega) (by omega)
    have HU : Hid (underR p (pre ++ [x]) = underR p pre ++ (if inP (bs x.1) (bs p) = true then [x] else [])) := by
      show _ = _
      unfold underR
      rw [List.filter_append]
      congr 1
      by_cases e : inP (bs x.1) (bs p) = true <;> simp [e]
    obtain ⟨nm, iv⟩ := x
    simp only at hin hxs HU
    have hcs : w.heap.size + 2 ≤ W.heap.size := by omega
    cases hb : inP (bs nm) (bs p) with
    | false =>
      rw [hb] at hin HU
      simp only [Bool.false_eq_true, if_false, List.append_nil] at HU
      gi_wp2_with (refine ⟨trivial, ?_⟩; gi_at_call 67; refine (callsIn_wide.2 (hin W)).mono ?_; clear hin; rintro e W1 ⟨rfl, hB1⟩; have HB1 : Hid (Below W.heap.size W W1) := hB1; clear hB1)
      obtain ⟨h1, h2, h3, h4, h5⟩ := H.out
      refine ⟨f, fun k hk => .inl hk, Turn.of_below f HB1.out, (HB1.out.block _ h1.lt).trans h1, f1, ⟨v, (HB1.out.block _ h2.lt).trans h2, ?_, h4⟩, h5⟩
      rw [HU.out]
      exact row_movedC h3 (fun g hg => HB1.out.block g (row_blockC h3 g hg).2)
    | true =>
      rw [hb] at hin HU
      simp only [if_true] at HU
      gi_wp2_with first
        | (refine ⟨trivial, ?_⟩; gi_at_call 67; refine (callsIn_wide.2 (hin W)).mono ?_; clear hin; rintro e W1 ⟨rfl, hB1⟩; have bx1 : Boxed W1 (w.heap.size + 1) 30 v := (hB1.block _ H.out.2.1.lt).trans H.out.2.1; have cC1 := bx1.cell; have hrow1 : W1.ownsRow (w.heap.size + 2) 38 2 v (underR p pre).length (chCells (underR p pre)) := row_movedC H.out.2.2.1 (fun g hg => hB1.block g (row_blockC H.out.2.2.1 g hg).2); have hcs1 : w.heap.size + 2 ≤ W1.heap.size := Nat.le_trans hcs hB1.size; have HB1 : Hid (Below W.heap.size W W1 ∧ Boxed W1 (w.heap.size + 1) 30 v ∧ W1.ownsRow (w.heap.size + 2) 38 2 v (underR p pre).length (chCells (underR p pre))) := ⟨hB1, bx1, hrow1⟩; clear hB1 bx1)
        | (gi_at_builtin; refine wpListIn_append_own_at _ rfl _ _ 30 rfl (w.heap.size + 2) 38 i0 _ 2 24 Tryz.underlying30 hi hz0 hz1 hz2 rfl (by decide) _ _ _ rfl (hrow1.alloc _) ⟨W1.heap.size, 0, none⟩ 1 1 (chCells [(nm, iv)]) rfl rfl (cells_two_new W1 (nm, iv)) (chCells_one _) (by unfold maxLen; omega) (by omega) (by simp; omega) ?_; intro v' w1 hown' hgrow _ hat; obtain ⟨ad', cp', rfl, _⟩ := row_shapeC hown'; have hst := lst_push (c := w.heap.size + 1) (x := (nm, iv)) HB1.out.2.1 HB1.out.2.2 H.out.2.2.2.1 hown' hgrow hat; have bx := lst_box (c := w.heap.size + 1) HB1.out.2.1 HB1.out.2.2 hgrow; have cx := bx.cell; have fx := bx.frozen; have HST : Hid _ := hst; clear hst hown' hgrow hat)
      obtain ⟨f', hf', hT', hL'⟩ := HST.out
      obtain ⟨h1, h2, h3, h4, h5⟩ := H.out
      have hs1 := HB1.out.1.size
      refine ⟨fun k => k = w.heap.size ∨ f' k, fun k hk => ?_, (Turn.of_below f HB1.out.1).trans hT' (fun k _ e => (h5 k).2 (.inr e)), ?_, f', by rw [HU.out]; exact hL', fun _ => Iff.rfl⟩
      · rcases hk with e | e
        · exact .inl ((h5 k).2 (.inl e))
        · rcases hf' k e with e | e
          · exact .inl ((h5 k).2 (.inr e))
          · exact .inr (by omega)
      · have h6 : Boxed W1 w.heap.size 9 (.string p) := (HB1.out.1.block _ h1.lt).trans h1
        refine (hT'.block _ h6.lt (fun e => ?_)).trans h6
        rcases (h4 _).1 e with e | e
        · omega
        · have := (row_blockC h3 _ e).1
          omega
  case done =>
    rintro D xs f W hD rfl ⟨hbp, f1, ⟨v, hbx, hrow, hf1⟩, hf⟩ hff hnD hT hK
    have cC := hbx.cell
    obtain ⟨ad, cp, rfl, _⟩ := row_shapeC hrow
    have H : Hid (W.heap[D]? = some (.deferred (some [])) ∧ wz.heap.size ≤ D ∧ W.ownsRow (w.heap.size + 2) 38 2 (.slice ad (underR p xs).length cp) (underR p xs).length (chCells (underR p xs)) ∧ Below w.heap.size w W) := ⟨hK, hD, hrow, Bz.trans (hT.below (by omega) (fun k hk => by omega))⟩
    clear hbx hrow hf hff hnD hT hK hD bU bB Bz hll hL hbp hf1 bP hs
    gi_wp2
    go_wp2_with fail
    obtain ⟨hK, hD, hrow, hb⟩ := H.out
    have hE := rturn_put (.deferred none) (Turn.of_below (fun _ => False) hb) (D := D) (by omega)
    refine rfin_m (v := .slice ad (underR p xs).length cp) hK (by simp [results, Tryz.results68, go_sem]) ⟨ad, cp, rfl, ?_, hE.below (Nat.le_refl _) (fun _ h => h.elim)⟩
    refine row_movedC (row_baseC hrow (by omega)) (fun g e => World.putObj_heap_other (fun e' => ?_))
    subst e'
    rcases hrow.2 with ⟨e1, _⟩ | ⟨g', cap, cur, e1, _, hg', _⟩
    · obtain rfl : ad = none := (Value.slice.inj e1).1
      cases e
    · cases e1; cases e; rw [hK] at hg'; cases hg'
  case stop =>
    rintro D c pre f W hD hX
    exact hX.elim
end Go.Proofs.YtiafhbpklddlnaaGreatDoor
