/- A commit's copy, its type, the law's comparison of two commits. -/
import Derived.Test.YtdibdcbihleflaaORefCom
namespace Go.Proofs.Ytdibdcbihleflaa
open Go.RowKit

attribute [local go_sem] Oper.semAt_some

set_option maxHeartbeats 1000000 in
theorem clone_ids (a : Option Addr) (n c : Nat) (l : List Int) (w : World) (hb : Ids w a n l) (hnil : a = none → n = 0 ∧ c = 0) (hbig : n ≤ 1099511627776) :
    Calls Try.prog 63 #[.slice a n c] w fun e w' => ∃ v, e = .returned v ∧ w'.ownsRow w.heap.size 39 1 v n (l.map (Value.int .u64)) ∧ Below w.heap.size w w' := by
  have q22 : ∀ (w : World) (a : Option Addr) (n c n' c' : Nat), (binOp .eql 40 (.slice a n c) (.slice none n' c')).run Try.prog w = .ok (.bool a.isNone) w := fun w a n c n' c' => Lib.run_eql_slice_nil w _ _ a n c n' c' Try.underlying40
  cases a with
  | none =>
    obtain ⟨rfl, rfl⟩ := hnil rfl
    have hl : l = [] := List.eq_nil_of_length_eq_zero hb.1
    subst hl
    go_enter Try.func63, Try.ntmps63
    go_wp2
    go_ret
    exact ⟨_, rfl, World.ownsRow_nil _ _ _ _, Below.refl _ _⟩
  | some a =>
    have hB0 : Below w.heap.size w (w.alloc (.cells #[] 39)) := (Below.refl _ _).alloc (Nat.le_refl _) _
    have hb0 : Ids (w.alloc (.cells #[] 39)) (some a) n l := hb.below hB0
    have hr0 : (w.alloc (.cells #[] 39)).ownsRow w.heap.size 39 1 (.slice (some ⟨w.heap.size, 0, none⟩) 0 0) 0 (([] : List Int).map (Value.int .u64)) := World.ownsRow_made w #[] 0 (Nat.le_refl _) (by unfold maxLen; omega) rfl
    go_enter Try.func63, Try.ntmps63
    go_wp2_with (at_builtin; refine wpList_appI _ w.heap.size (by simp) rfl _ _ rfl (.slice (some ⟨w.heap.size, 0, none⟩) 0 0) 0 [] rfl hr0 (some a) n c l rfl hb0 hnil (by omega) ?_; intro v' w1 hown hgrow; obtain ⟨a', c', rfl, hnc, hnn⟩ := row_shape hown)
    go_ret
    simp only [Nat.zero_add, List.nil_append] at *
    refine ⟨_, rfl, hown, hB0.grown hgrow (by simp) (by intro k hk; cases hk; exact Nat.le_refl _)⟩
theorem asCommit_any (t : Int) (pa : Option Addr) (pn pc : Nat) (au : ByteArray) (d : Int) (tx : ByteArray) (w : World) : Calls Try.prog 40 #[coV t pa pn pc au d tx] w fun e w' => e = .returned (.tuple #[cmt t pa pn pc au d tx, .bool true]) ∧ Below w.heap.size w w' := by
  have h1 := as_commit (cmt t pa pn pc au d tx)
  go_enter Try.func40, Try.ntmps40
  go_wp2
  refine bodyPost_ret (v := .tuple #[cmt t pa pn pc au d tx, .bool true]) (by simp [results, Try.results40, go_sem]) rfl ⟨rfl, ((Below.refl _ w).alloc (Nat.le_refl _) _).alloc (by simp) _⟩
theorem Commit_any (t : Int) (pa : Option Addr) (pn pc : Nat) (au : ByteArray) (d : Int) (tx : ByteArray) (w : World) : Calls Try.prog 15 #[coV t pa pn pc au d tx] w fun e w' => e = .returned (.tuple #[cmt t pa pn pc au d tx, .bool true]) ∧ Below w.heap.size w w' := by
  have hB0 : Below w.heap.size w (w.alloc (.cells #[.int .u64 0, .slice none 0 0, .string ⟨#[]⟩, .int .i64 0, .string ⟨#[]⟩] 42)) := (Below.refl _ w).alloc (Nat.le_refl _) _
  go_enter Try.func15, Try.ntmps15
  go_wp2_with (go_at_call 40; refine (asCommit_any t pa pn pc au d tx _).mono ?_; rintro e w1 ⟨rfl, hB⟩; have hb : Box5 w1 w.heap.size (.int .u64 0) (.slice none 0 0) (.string ⟨#[]⟩) (.int .i64 0) (.string ⟨#[]⟩) := ((hB.block w.heap.size (by simp)).trans (World.alloc_heap_new _ _)); obtain ⟨cb0, cb1, cb2, cb3, cb4⟩ := hb.cell; obtain ⟨fb0, fb1, fb2, fb3, fb4⟩ := hb.frozen)
  obtain ⟨d0, d1, d2, d3, d4⟩ := (hb.all (.int .u64 t) (.slice pa pn pc) (.string au) (.int .i64 d) (.string tx)).cell
  refine bodyPost_ret (v := .tuple #[cmt t pa pn pc au d tx, .bool true]) (by simp [results, Try.results15, go_sem, d0, d1, d2, d3, d4]) rfl ⟨rfl, below5 (hB0.trans (hB.mono (by simp))) (Nat.le_refl _) _ _ _ _ _⟩
set_option maxRecDepth 20000 in
set_option maxHeartbeats 2000000 in
theorem commits_like (t : Int) (pa pa' : Option Addr) (pn pc pc' : Nat) (au : ByteArray) (d : Int) (tx : ByteArray) (w : World) (l : List Int) (h : Ids w pa pn l) (h' : Ids w pa' pn l) (hn : pn ≤ 9223372036854775807) :
    Calls Try.prog 21 #[cmt t pa pn pc au d tx, cmt t pa' pn pc' au d tx] w fun e w' => e = .returned (.bool true) ∧ Below w.heap.size w w' := by
  have hB0 : Below w.heap.size w ((w.alloc (.cells #[.int .u64 t, .slice pa pn pc, .string au, .int .i64 d, .string tx] 42)).alloc (.cells #[.int .u64 t, .slice pa' pn pc', .string au, .int .i64 d, .string tx] 42)) := ((Below.refl _ w).alloc (Nat.le_refl _) _).alloc (by simp) _
  have b1 := (Box5.new w (.int .u64 t) (.slice pa pn pc) (.string au) (.int .i64 d) (.string tx)).kept ((Below.refl _ _).alloc (Nat.le_refl _) (.cells #[.int .u64 t, .slice pa' pn pc', .string au, .int .i64 d, .string tx] 42))
  have b2 := Box5.new (w.alloc (.cells #[.int .u64 t, .slice pa pn pc, .string au, .int .i64 d, .string tx] 42)) (.int .u64 t) (.slice pa' pn pc') (.string au) (.int .i64 d) (.string tx)
  rw [World.size_alloc] at b2
  have cs := ids_like _ pa pa' pn pc pc' l (h.kept hB0) (h'.kept hB0) hn
  have e1 : (au.toList == au.toList) = true := by simp
  have e2 : (tx.toList == tx.toList) = true := by simp
  go_enter Try.func21, Try.ntmps21
  go_wp2_with (go_at_call 37; refine cs.mono ?_; clear cs; rintro e w1 ⟨rfl, hB⟩; obtain ⟨p0, p1, p2, p3, p4⟩ := (b1.kept hB).cell; obtain ⟨q0, q1, q2, q3, q4⟩ := (b2.kept hB).cell)
  go_ret
  exact ⟨rfl, hB0.trans (hB.mono hB0.size)⟩
theorem Box5.set1 {W : World} {B : Nat} {a b c d e : Value} (h : Box5 W B a b c d e) (b' : Value) : Box5 (W.setCell ⟨B, 1, none⟩ b') B a b' c d e := by
  have h' : W.heap[B]? = _ := h
  have hl := h.lt
  unfold Box5
  simp [World.setCell, Array.getElem?_modify, h']
set_option maxRecDepth 20000 in
set_option maxHeartbeats 2000000 in
theorem fresh_com (t : Int) (pa : Option Addr) (pn pc : Nat) (ps : List Int) (au : ByteArray) (d : Int) (tx : ByteArray) (w : World) (hb : Ids w pa pn ps) (hnil : pa = none → pn = 0 ∧ pc = 0) (hn : pn ≤ 1099511627776) :
    Calls Try.prog 41 #[coV t pa pn pc au d tx] w fun e w' => ∃ ad cp, e = .returned (coV t ad pn cp au d tx) ∧ w'.ownsRow w.heap.size 39 1 (.slice ad pn cp) pn (ps.map (Value.int .u64)) ∧ Below w.heap.size w w' := by
  have h1 := no_blob_com (cmt t pa pn pc au d tx)
  have h2 := no_tree_com (cmt t pa pn pc au d tx)
  have h3 := as_commit (cmt t pa pn pc au d tx)
  have hB0 : Below w.heap.size w (w.alloc (.cells #[.int .u64 t, .slice pa pn pc, .string au, .int .i64 d, .string tx] 42)) := (Below.refl _ w).alloc (Nat.le_refl _) _
  have b0 := Box5.new w (.int .u64 t) (.slice pa pn pc) (.string au) (.int .i64 d) (.string tx)
  have hcl : Calls Try.prog 63 #[.slice pa pn pc] (w.alloc (.cells #[.int .u64 t, .slice pa pn pc, .string au, .int .i64 d, .string tx] 42)) fun e w' => ∃ ad cp, e = .returned (.slice ad pn cp) ∧ Hid (w'.ownsRow (w.heap.size + 1) 39 1 (.slice ad pn cp) pn (ps.map (Value.int .u64)) ∧ Below (w.heap.size + 1) (w.alloc (.cells #[.int .u64 t, .slice pa pn pc, .string au, .int .i64 d, .string tx] 42)) w') ∧ Box5 w' w.heap.size (.int .u64 t) (.slice pa pn pc) (.string au) (.int .i64 d) (.string tx) := by
    refine (clone_ids pa pn pc ps _ (hb.below hB0) hnil (by omega)).mono fun e w' ⟨v, he, ho, hB⟩ => ?_
    have hbx := b0.kept hB
    rw [World.size_alloc] at ho hB
    obtain ⟨ad, cp, rfl, _⟩ := row_shape ho
    exact ⟨ad, cp, he, ⟨ho, hB⟩, hbx⟩
  go_enter Try.func41, Try.ntmps41
  go_wp2_with (go_at_call 63; refine hcl.mono ?_; clear hcl; rintro e w1 ⟨ad, cp, rfl, HO, hbx⟩; obtain ⟨c0, c1, c2, c3, c4⟩ := hbx.cell; obtain ⟨f0, f1, f2, f3, f4⟩ := hbx.frozen; obtain ⟨d0, d1, d2, d3, d4⟩ := (hbx.set1 (.slice ad pn cp)).cell)
  go_ret
  obtain ⟨ho, hB⟩ := HO.out
  refine ⟨ad, cp, rfl, ?_, (hB0.trans (hB.mono (by omega))).setCell (p := ⟨w.heap.size, 1, none⟩) (Nat.le_refl _) _⟩
  have hg : w1.grownBy (w1.setCell ⟨w.heap.size, 1, none⟩ (.slice ad pn cp)) (some w.heap.size) :=
    ⟨rfl, rfl, rfl, by simp, fun k hk hne => Below.heap_setCell _ _ _ _ (fun e => hne (by rw [e]))⟩
  refine row_lower (ho.kept (row := some w.heap.size) hg ?_) (by omega)
  exact .inr fun e => by have := (row_block ho w.heap.size e).1; omega
theorem Copy_com (t : Int) (pa : Option Addr) (pn pc : Nat) (ps : List Int) (au : ByteArray) (d : Int) (tx : ByteArray) (w : World) (hb : Ids w pa pn ps) (hnil : pa = none → pn = 0 ∧ pc = 0) (hn : pn ≤ 1099511627776) :
    Calls Try.prog 16 #[coV t pa pn pc au d tx] w fun e w' => ∃ ad cp, e = .returned (coV t ad pn cp au d tx) ∧ w'.ownsRow w.heap.size 39 1 (.slice ad pn cp) pn (ps.map (Value.int .u64)) ∧ Below w.heap.size w w' := by
  go_enter Try.func16, Try.ntmps16
  go_wp2_with (go_at_call 41; refine (fresh_com t pa pn pc ps au d tx _ hb hnil hn).mono ?_; rintro e w1 ⟨ad, cp, rfl, hO, hB⟩)
  go_ret
  exact ⟨ad, cp, rfl, hO, hB⟩
end Go.Proofs.Ytdibdcbihleflaa
