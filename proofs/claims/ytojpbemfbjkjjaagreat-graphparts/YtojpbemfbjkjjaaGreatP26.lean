import Derived.Test.YtojpbemfbjkjjaaGreatP25
import Derived.Test.YtojpbemfbjkjjaaGreatP22
import Derived.Maps.AppendAt
/- The walks of the store's calls that read. -/
namespace Go.Proofs.YtojpbemfbjkjjaaGreat
open Go.RowKit Go.Maps

attribute [local go_sem] Oper.semAt_some

theorem find_nil (w : World) (i : Int) : Calls Tryz.prog 46 #[.pointer none, .int .u64 i] w fun e w' => e = .returned (.tuple #[.nilIface, .int .i64 1]) ∧ w' = w := by
  go_enter Tryz.func46, Tryz.ntmps46
  go_wp2
  go_ret2
  exact ⟨rfl, rfl⟩
theorem find_not (w : World) (s d j b : Nat) (M : DataW Value) (v : Value) (rs : List (List UInt8)) (os : List Ob) (sz : Nat) (cut : Bool) (FJ O F : Nat → Prop) (h : StAt w s d j b M v rs os sz cut FJ O F) (i : Int) (h0 : 0 ≤ i) (h1 : i ≤ 18446744073709551615) (hf : findO os i = none) :
    Calls Tryz.prog 46 #[.pointer (some ⟨s, 0, none⟩), .int .u64 i] w fun e w' => e = .returned (.tuple #[.nilIface, .int .i64 4]) ∧ w' = w := by
  have c1 := h.c1
  have hl := h.not i h0 h1 hf w rfl
  clear h
  go_enter Tryz.func46, Tryz.ntmps46
  go_wp2
  go_ret2
  exact ⟨rfl, rfl⟩
theorem find_there (w : World) (s d j b : Nat) (M : DataW Value) (v : Value) (rs : List (List UInt8)) (os : List Ob) (sz : Nat) (cut : Bool) (FJ O F : Nat → Prop) (h : StAt w s d j b M v rs os sz cut FJ O F) (i : Int) (h0 : 0 ≤ i) (h1 : i ≤ 18446744073709551615) (o : Ob) (hf : findO os i = some o) :
    Calls Tryz.prog 46 #[.pointer (some ⟨s, 0, none⟩), .int .u64 i] w fun e w' => ∃ u, e = .returned (.tuple #[u, .int .i64 0]) ∧ Held O o u w ∧ w' = w := by
  have c1 := h.c1
  obtain ⟨u, hu, hl'⟩ := h.there i h0 h1 o hf
  have hl := hl' w rfl
  have HU : Hid (Held O o u w) := hu
  clear h hu hl'
  go_enter Tryz.func46, Tryz.ntmps46
  go_wp2
  go_ret2
  exact ⟨u, rfl, HU.out, rfl⟩

theorem get_nil (w : World) (i : Int) : Calls Tryz.prog 34 #[.pointer none, .int .u64 i] w fun e w' => e = .returned (.tuple #[.nilIface, .int .i64 1]) ∧ w' = w := by
  go_enter Tryz.func34, Tryz.ntmps34
  go_wp2_with (go_at_call 46; refine (find_nil w i).mono ?_; rintro e w1 ⟨rfl, h1⟩; subst h1)
  go_ret2
  exact ⟨rfl, rfl⟩
theorem get_not (w : World) (s d : Nat) (os : List Ob) (sz : Nat) (cut : Bool) (F : Nat → Prop) (h : IsSt w s d os sz cut F) (i : Int) (h0 : 0 ≤ i) (h1 : i ≤ 18446744073709551615) (hf : findO os i = none) :
    Calls Tryz.prog 34 #[.pointer (some ⟨s, 0, none⟩), .int .u64 i] w fun e w' => e = .returned (.tuple #[.nilIface, .int .i64 4]) ∧ w' = w := by
  obtain ⟨j, b, M, v, FJ, O, h⟩ := h
  have hx := find_not w s d j b M v _ os sz cut FJ O F h i h0 h1 hf
  clear h
  go_enter Tryz.func34, Tryz.ntmps34
  go_wp2_with (go_at_call 46; refine hx.mono ?_; rintro e w1 ⟨rfl, h1⟩; subst h1)
  go_ret2
  exact ⟨rfl, rfl⟩
theorem get_there (w : World) (s d : Nat) (os : List Ob) (sz : Nat) (cut : Bool) (F : Nat → Prop) (h : IsSt w s d os sz cut F) (i : Int) (h0 : 0 ≤ i) (h1 : i ≤ 18446744073709551615) (o : Ob) (hf : findO os i = some o) :
    Calls Tryz.prog 34 #[.pointer (some ⟨s, 0, none⟩), .int .u64 i] w fun e w' => ∃ u, e = .returned (.tuple #[u, .int .i64 0]) ∧ Held (Fresh w.heap.size w') o u w' ∧ Below w.heap.size w w' := by
  obtain ⟨j, b, M, v, FJ, O, h⟩ := h
  have hx := find_there w s d j b M v _ os sz cut FJ O F h i h0 h1 o hf
  have hg : Hid (obErr o = 0) := h.good o (findO_mem hf).1
  clear h
  go_enter Tryz.func34, Tryz.ntmps34
  go_wp2_with first
    | (go_at_call 46; refine hx.mono ?_; clear hx; rintro e w1 ⟨u, rfl, hu, h1⟩; subst h1; have HU : Hid (Held O o u w1) := hu; clear hu)
    | (go_at_call 44; refine (Copy_ob _ HU.out.get hg.out).mono ?_; rintro e w2 ⟨u2, rfl, hu2, hB2⟩; have H2 : Hid (Held (Fresh w1.heap.size w2) o u2 w2) := hu2; clear hu2)
  go_ret2
  exact ⟨u2, rfl, H2.out, hB2⟩

theorem has_nil (w : World) (i : Int) : Calls Tryz.prog 53 #[.pointer none, .int .u64 i] w fun e w' => e = .returned (.bool false) ∧ w' = w := by
  go_enter Tryz.func53, Tryz.ntmps53
  go_wp2
  go_ret
  exact ⟨rfl, rfl⟩
theorem has_at (w : World) (s d j b : Nat) (M : DataW Value) (v : Value) (rs : List (List UInt8)) (os : List Ob) (sz : Nat) (cut : Bool) (FJ O F : Nat → Prop) (h : StAt w s d j b M v rs os sz cut FJ O F) (i : Int) (h0 : 0 ≤ i) (h1 : i ≤ 18446744073709551615) :
    Calls Tryz.prog 53 #[.pointer (some ⟨s, 0, none⟩), .int .u64 i] w fun e w' => e = .returned (.bool (findO os i).isSome) ∧ w' = w := by
  have c1 := h.c1
  obtain ⟨u, hl⟩ : ∃ u, (Instr.lookup 95 (.map (some b)) (.int .u64 i) true).run Tryz.prog w = .ok (.tuple #[u, .bool (findO os i).isSome]) w := by
    cases hf : findO os i with
    | none => exact ⟨_, h.not i h0 h1 hf w rfl⟩
    | some o =>
      obtain ⟨u, _, hl'⟩ := h.there i h0 h1 o hf
      exact ⟨u, hl' w rfl⟩
  generalize (findO os i).isSome = B at *
  clear h
  go_enter Tryz.func53, Tryz.ntmps53
  go_wp2
  go_ret
  exact ⟨rfl, rfl⟩
theorem has_any (w : World) (s d : Nat) (os : List Ob) (sz : Nat) (cut : Bool) (F : Nat → Prop) (h : IsSt w s d os sz cut F) (i : Int) (h0 : 0 ≤ i) (h1 : i ≤ 18446744073709551615) :
    Calls Tryz.prog 53 #[.pointer (some ⟨s, 0, none⟩), .int .u64 i] w fun e w' => e = .returned (.bool (findO os i).isSome) ∧ w' = w := by
  obtain ⟨j, b, M, v, FJ, O, h⟩ := h
  exact has_at w s d j b M v _ os sz cut FJ O F h i h0 h1

theorem kindError_any (ok : Bool) (e0 : Int) (w : World) : Calls Tryz.prog 45 #[.bool ok, .int .i64 e0] w fun e w' => e = .returned (.int .i64 (if e0 = 0 ∧ ok = false then 170 else e0)) ∧ w' = w := by
  by_cases h0 : e0 = 0
  · subst h0
    cases ok
    · go_enter Tryz.func45, Tryz.ntmps45
      go_wp2
      go_ret
      exact ⟨rfl, rfl⟩
    · go_enter Tryz.func45, Tryz.ntmps45
      go_wp2
      go_ret
      exact ⟨rfl, rfl⟩
  · have e1 : (e0 == 0) = false := by simp [h0]
    rw [if_neg (fun h => h0 h.1)]
    go_enter Tryz.func45, Tryz.ntmps45
    go_wp2
    go_ret
    exact ⟨rfl, rfl⟩
end Go.Proofs.YtojpbemfbjkjjaaGreat

/- Plain: a disk that is not cut, with a file that is just a row of records: what Append and Open make of it. -/
namespace Go.Proofs.YtojpbemfbjkjjaaGreat
open Go.RowKit

/-- the disk's file of that name has just these records; no cut is said -/
structure JGd (S : DG) (nm : List UInt8) (rs : List (List UInt8)) : Prop where
  bs : S.f nm = if rs = [] then none else some (fileB rs)
  cut : S.cut = false
  n : S.n ≤ 1
  n0 : rs = [] → S.n = 0
  wr : S.wr ≤ (fileB rs).length
  all : ∀ r ∈ rs, r.length ≤ 262144

theorem JGd.get {S : DG} {nm : List UInt8} {rs : List (List UInt8)} (h : JGd S nm rs) : S.bs nm = fileB rs := by
  unfold DG.bs; rw [h.bs]
  split
  · rename_i e; subst e; rfl
  · rfl

theorem JGd.new (nm : List UInt8) : JGd ⟨fun _ => none, 0, 0, false, 0⟩ nm [] := ⟨rfl, rfl, by simp, by simp, by simp, by simp⟩

theorem JGd.opened {S : DG} {nm : List UInt8} {rs : List (List UInt8)} (h : JGd S nm rs) : S.opened nm = (S, 0) ∧ parseL (S.bs nm) = (rs, (fileB rs).length, false) := by
  have hp : parseL (S.bs nm) = (rs, (fileB rs).length, false) := by rw [h.get]; exact parseL_whole rs h.all
  refine ⟨?_, hp⟩
  unfold DG.opened
  rw [hp, if_neg (by simp), if_neg (by rw [h.get]; simp)]

theorem fileB_ne {rs : List (List UInt8)} (h : rs ≠ []) : fileB rs ≠ [] := by
  cases rs with
  | nil => exact absurd rfl h
  | cons r rs => intro e; simp [fileB, recB_ne] at e

theorem JGd.app {S : DG} {nm : List UInt8} {rs : List (List UInt8)} (h : JGd S nm rs) (hnm : nameB nm = true) (l : List UInt8) (hl : l.length ≤ 262144) (hfit : (recB l).length + (fileB rs).length ≤ 4194304) :
    ∃ S', S.app nm (recB l) = (S', 0) ∧ JGd S' nm (rs ++ [l]) := by
  have hne := recB_ne l
  have hpos := (recB_pos l).1
  have hp := pieces_free ((recB l).length + 1) S nm (recB l) h.cut (Nat.le_refl _)
  rw [if_neg hne] at hp
  refine ⟨{ S with wr := S.wr + ((recB l).length + 31) / 32 }.add nm (recB l), ?_, ?_⟩
  · unfold DG.app
    rw [if_neg (by rw [hnm]; decide), if_neg ?_, if_neg (by simp [hne]), hp]
    rw [h.get]
    have hn := h.n
    intro e
    rcases e with e | e
    · omega
    · omega
  · have hbs := h.get
    unfold DG.bs at hbs
    refine ⟨?_, h.cut, ?_, by simp, ?_, ?_⟩
    · show (if nm = nm then _ else _) = _
      rw [if_pos rfl, if_neg (by simp), fileB_snoc, ← hbs]
    · show (if (S.f nm).isSome then S.n else S.n + 1) ≤ 1
      by_cases e : rs = []
      · rw [h.n0 e]; split <;> omega
      · rw [h.bs, if_neg e]; simp; exact h.n
    · show S.wr + ((recB l).length + 31) / 32 ≤ _
      have := h.wr
      rw [fileB_snoc, List.length_append]
      omega
    · intro r hr
      rcases List.mem_append.1 hr with hr | hr
      · exact h.all r hr
      · simp at hr; subst hr; exact hl

/-- a Journal and its disk, with blocks among those of Q -/
def JL (Q : Nat → Prop) (w : World) (j d : Nat) (nm : ByteArray) (rs : List (List UInt8)) (S : DG) : Prop :=
  ∃ F G, JAt w j d nm rs (fileB rs).length false F ∧ IsDisk w d S G ∧ (∀ k, F k → ¬ G k) ∧ (∀ k, F k → Q k) ∧ (∀ k, G k → Q k) ∧ (∀ k, Q k → k < w.heap.size)

theorem JL.below {Q : Nat → Prop} {w w' : World} {j d : Nat} {nm : ByteArray} {rs : List (List UInt8)} {S : DG} (h : JL Q w j d nm rs S) (hB : Below w.heap.size w w') : JL Q w' j d nm rs S := by
  obtain ⟨F, G, h1, h2, h3, h4, h5, h6⟩ := h
  exact ⟨F, G, h1.below hB, h2.below hB, h3, h4, h5, fun k hk => Nat.lt_of_lt_of_le (h6 k hk) hB.size⟩

/-- Open of a disk whose file has just these records -/
theorem jl_open (w : World) (d : Nat) (S : DG) (G : Nat → Prop) (s : ByteArray) (rs : List (List UInt8)) (hd : IsDisk w d S G) (hs : s.size ≤ maxLen) (hg : JGd S s.data.toList rs) (hbig : (fileB rs).length ≤ 4194304) :
    Calls Tryz.prog 35 #[.pointer (some ⟨d, 0, none⟩), .string s] w fun e w' => ∃ j, e = .returned (.tuple #[.pointer (some ⟨j, 0, none⟩), .int .i64 0]) ∧ JL (grow G w w') w' j d s rs S ∧ Turn G w w' := by
  have hn := hg.n
  have hwr := hg.wr
  refine (jopen_any w d S G s hd hs (by rw [hg.get]; exact hbig) (by omega) (by unfold maxLen; omega)).mono ?_
  rintro e w' ⟨hT, G', hd', hG', hcase⟩
  obtain ⟨ho, hp⟩ := hg.opened
  rw [ho] at hd' hcase
  rw [hp] at hcase
  rcases hcase with ⟨h0, _⟩ | ⟨_, j, F, he, hJ, hF, hFG⟩
  · exact absurd rfl h0
  · refine ⟨j, he, ⟨F, G', hJ, hd', hFG, fun k hk => .inr ⟨hF k hk, hJ.lt k hk⟩, fun k hk => (hG' k hk).imp id (fun h => ⟨h, hd'.lt k hk⟩), fun k hk => hk.elim (fun h => Nat.lt_of_lt_of_le (hd.lt k h) hT.size) (fun h => h.2)⟩, hT⟩

/-- Append to such a Journal, where it fits -/
theorem jl_append (Q : Nat → Prop) (w : World) (j d : Nat) (S : DG) (s : ByteArray) (rs : List (List UInt8)) (h : JL Q w j d s rs S) (hs : s.size ≤ maxLen) (hnm : nameB s.data.toList = true) (hg : JGd S s.data.toList rs)
    (a : Option Addr) (m c : Nat) (l : List UInt8) (hb : Bytes w a m l) (hm : m ≤ 262144) (ha : 0 < m → ∀ x, a = some x → ¬ Q x.block) (hfit : (recB l).length + (fileB rs).length ≤ 4194304) :
    Calls Tryz.prog 58 #[.pointer (some ⟨j, 0, none⟩), .slice a m c] w fun e w' => e = .returned (.int .i64 0) ∧ (∃ S', JL (grow Q w w') w' j d s (rs ++ [l]) S' ∧ JGd S' s.data.toList (rs ++ [l])) ∧ Turn Q w w' := by
  obtain ⟨F, G, h1, h2, h3, h4, h5, h6⟩ := h
  have hn := hg.n
  have hwr := hg.wr
  obtain ⟨S', happ, hg'⟩ := hg.app hnm l (by rw [hb.1]; exact hm) hfit
  refine (jappend_any w j d s rs _ F S G h1 h2 h3 a m c l hb hm (fun h0 x hx => ⟨fun hf => ha h0 x hx (h4 _ hf), fun hf => ha h0 x hx (h5 _ hf)⟩) hs (by rw [hg.get]; omega) (by rw [hg.get]; exact Nat.le_refl _) (by omega) (by omega)).mono ?_
  rintro e w' ⟨he, hT, F', G', hd', hF', hG', hFG', hcase⟩
  rw [happ] at he hd' hcase
  have hTQ : Turn Q w w' := hT.wide (fun k hk => hk.elim (h4 k) (h5 k))
  rcases hcase with ⟨_, hJ⟩ | ⟨h0, _⟩
  · refine ⟨he, ⟨S', ⟨F', G', ?_, hd', hFG', fun k hk => (hF' k hk).elim (fun h => .inl (h4 k h)) (fun h => .inr ⟨h, hJ.lt k hk⟩), fun k hk => (hG' k hk).elim (fun h => .inl (h5 k h)) (fun h => .inr ⟨h, hd'.lt k hk⟩), fun k hk => hk.elim (fun h => Nat.lt_of_lt_of_le (h6 k h) hTQ.size) (fun h => h.2)⟩, hg'⟩, hTQ⟩
    rw [fileB_snoc, List.length_append]; exact hJ
  · exact absurd rfl h0

theorem JGd.full {S : DG} {nm : List UInt8} {rs : List (List UInt8)} (h : JGd S nm rs) (hnm : nameB nm = true) (l : List UInt8) (hfit : 4194304 < (recB l).length + (fileB rs).length) : S.app nm (recB l) = (S, 3) := by
  unfold DG.app
  rw [if_neg (by rw [hnm]; decide), if_pos (by rw [h.get]; exact .inl hfit)]

end Go.Proofs.YtojpbemfbjkjjaaGreat

/- The walks of keep, write, again and Put. -/
namespace Go.Proofs.YtojpbemfbjkjjaaGreat
open Go.RowKit Go.Maps

attribute [local go_sem] Oper.semAt_some

/-- what lies behind an object more -/
def KeptO (w w' : World) (s d j b : Nat) (v : Value) (rs : List (List UInt8)) (os : List Ob) (o : Ob) (sz : Nat) (cut : Bool) (FJ O O' F : Nat → Prop) : Prop :=
  Turn (fun k => k = s ∨ k = b ∨ v.ownBlock = some k) w w' ∧ ∃ M' v', StAt w' s d j b M' v' rs (os ++ [o]) sz cut FJ (fun k => O k ∨ O' k) (fun k => (F k ∧ v.ownBlock ≠ some k) ∨ O' k ∨ v'.ownBlock = some k) ∧ ∀ g, v'.ownBlock = some g → v.ownBlock = some g ∨ (w.heap.size ≤ g ∧ ∃ o : Obj, w'.heap[g]? = some o ∧ o.isCells = true)

set_option maxRecDepth 20000 in
set_option maxHeartbeats 2000000 in
theorem keep_any (w : World) (s d j b : Nat) (M : DataW Value) (v : Value) (rs : List (List UInt8)) (os : List Ob) (sz : Nat) (cut : Bool) (FJ O F : Nat → Prop) (h : StAt w s d j b M v rs os sz cut FJ O F) (o : Ob) (u : Value) (i : Int) (hi : i = oid o) (hf : findO os (oid o) = none) (hgood : obErr o = 0) (O' : Nat → Prop)
    (hO : Held O' o u w) (hO' : ∀ k, O' k → k < w.heap.size ∧ ¬ F k) (hn : os.length ≤ 1000000000) :
    Calls Tryz.prog 43 #[.pointer (some ⟨s, 0, none⟩), .int .u64 i, u] w fun e w' => e = .returned (.tuple #[]) ∧ KeptO w w' s d j b v rs os o sz cut FJ O O' F := by
  have c1 := h.c1
  have hb0 := (idOf_bounds (obB o)).1
  have hb1 := (idOf_bounds (obB o)).2
  obtain ⟨w2, hrun, own2, hg2⟩ := h.own.update keyedI Tryz.underlying95 (by rw [h.msz]; unfold maxLen; omega) (keyOfI (oid o) hb0 hb1) (show rvO u = some (.held u, []) from rfl)
  rw [← hi] at hrun
  have hslt := h.lt s h.fs.1
  have ks : w2.heap[s]? = w.heap[s]? := hg2.block s hslt (by simpa using h.sb)
  have c2 : w2.cell? ⟨s, 2, none⟩ = some v := (World.cell?_of_block ks).trans h.c2
  have f2 : w2.frozen? ⟨s, 2, none⟩ = false := (World.frozen?_of_block ks).trans h.f2
  have hr2 : w2.ownsRow 0 31 1 v os.length ((oids os).map (Value.int .u64)) := row_moved h.row fun g hg => hg2.block g (row_block h.row g hg).2.1 (by simpa using (h.vo g hg).2.1)
  have hr3 := hr2.alloc (.cells #[.int .u64 i] 31)
  obtain ⟨i0, hi0, hzz0, hzz1, hzz2⟩ := info_parts infoId
  have HH : Hid (StAt w s d j b M v rs os sz cut FJ O F) := h
  have HO : Hid (Held O' o u w) := hO
  have H2 : Hid (w2.ownsMap Tryz.prog 31 rvO b (size M + 1) (M.put (.int .u64 (oid o)) (.held u)) ∧ w.grownBy w2 (some b)) := ⟨own2, hg2⟩
  have hvs : Hid (v.ownBlock ≠ some s) := fun e => (h.vo s e).1 rfl
  have HI : Hid (i = oid o) := hi
  have hs2 := hg2.size
  obtain ⟨ad, cp, rfl, _⟩ := row_shape hr2
  have hs4 : s < w2.heap.size := by omega
  have hs3 : s < (w2.alloc (.cells #[.int .u64 i] 31)).heap.size := by simp; omega
  clear h hO own2 hg2 hr2 hi ks hb0 hb1
  generalize hN : os.length = N at *
  have HN : Hid (os.length = N) := hN
  clear hN
  go_enter Tryz.func43, Tryz.ntmps43
  go_wp2_with (at_builtin; refine wpList_append_own_at _ rfl _ _ 27 rfl 0 31 i0 (.int .u64 0) 1 8 Tryz.underlying27 hi0 hzz0 hzz1 hzz2 rfl (by decide) _ N _ rfl hr3 ⟨_, 0, none⟩ 1 1 [.int .u64 i] rfl rfl (cell_one_new _ _ _) (by simp [Value.oneCell']) (by unfold maxLen; omega) (by omega) (by omega) ?_; intro v' w5 hown5 hgr5 _ hat5; have ks5 : w5.heap[s]? = w2.heap[s]? := (hgr5.block s hs3 (fun e => hvs.out e.symm)).trans (Below.heap_alloc _ _ _ hs4); have c25 : w5.cell? ⟨s, 2, none⟩ = some (.slice ad N cp) := (World.cell?_of_block ks5).trans c2; have f25 : w5.frozen? ⟨s, 2, none⟩ = false := (World.frozen?_of_block ks5).trans f2; have H5 : Hid (w5.ownsRow 0 31 1 v' (N + 1) (List.map (Value.int IntKind.u64) (oids os) ++ [Value.int IntKind.u64 i]) ∧ (w2.alloc (.cells #[.int .u64 i] 31)).grownBy w5 (Value.slice ad N cp).ownBlock ∧ (v'.ownBlock = (Value.slice ad N cp).ownBlock ∨ v'.ownBlock = some (w2.alloc (.cells #[.int .u64 i] 31)).heap.size)) := ⟨hown5, hgr5, hat5⟩; clear hgr5 hat5 ks5 c2 f2; obtain ⟨ad5, cp5, hv5, _⟩ := row_shape hown5; clear hown5; subst hv5)
  go_end0
  obtain ⟨ho5, hg5, hat5⟩ := H5.out
  obtain ⟨own2, hg2⟩ := H2.out
  have hh := HH.out
  have hsz5 : w2.heap.size + 1 ≤ w5.heap.size := by have := hg5.size; simpa using this
  have hv5 : ∀ g, (Value.slice ad5 (N + 1) cp5).ownBlock = some g → (Value.slice ad N cp).ownBlock = some g ∨ w2.heap.size ≤ g := fun g hg => hat5.elim (fun e => .inl (by rw [← e]; exact hg)) (fun e => .inr (by rw [e] at hg; simp at hg; omega))
  have hk5 : ∀ k, k < w2.heap.size → (Value.slice ad N cp).ownBlock ≠ some k → w5.heap[k]? = w2.heap[k]? := fun k hk hne => (hg5.block k (by simp; omega) (fun e => hne e.symm)).trans (Below.heap_alloc _ _ _ hk)
  have hi := HI.out
  have hm := hh.more o u hf hgood HO.out hO' own2 hg2 (v' := .slice ad5 (N + 1) cp5) (w3 := w5) (by rw [HN.out, ← hi]; exact ho5) hk5 (by omega) hv5
  refine ⟨rfl, ⟨hg5.os.trans hg2.os, hg5.tape.trans hg2.tape, hg5.output.trans hg2.output, by rw [World.size_setCell]; omega, fun k hk hn => ?_⟩, _, _, hm, fun g hg => ?_⟩
  · have n1 : k ≠ s := fun e => hn (.inl e)
    have n2 : k ≠ b := fun e => hn (.inr (.inl e))
    have n3 : (Value.slice ad N cp).ownBlock ≠ some k := fun e => hn (.inr (.inr e))
    rw [Below.heap_setCell _ _ _ _ (by exact n1), hk5 k (by omega) n3]
    exact hg2.block k hk (by simpa using n2)
  · rcases hv5 g hg with e | e
    · exact .inl e
    · refine .inr ⟨by omega, ?_⟩
      obtain ⟨_, _, cur, hc⟩ := row_block hm.row g hg
      exact ⟨_, hc, rfl⟩

theorem again_any (i : Int) (same : Bool) (w : World) : Calls Tryz.prog 40 #[.int .u64 i, .bool same] w fun e w' => e = .returned (.tuple #[.int .u64 (if same = true then i else 0), .int .i64 (if same = true then 0 else 7)]) ∧ w' = w := by
  cases same
  · go_enter Tryz.func40, Tryz.ntmps40
    go_wp2
    go_ret2
    exact ⟨rfl, rfl⟩
  · go_enter Tryz.func40, Tryz.ntmps40
    go_wp2
    go_ret2
    exact ⟨rfl, rfl⟩

theorem write_full (w : World) (s d j b : Nat) (M : DataW Value) (v : Value) (rs : List (List UInt8)) (os : List Ob) (sz : Nat) (cut : Bool) (FJ O F : Nat → Prop) (h : StAt w s d j b M v rs os sz cut FJ O F) (x : Value) (hn : 65536 ≤ os.length) :
    Calls Tryz.prog 42 #[.pointer (some ⟨s, 0, none⟩), x] w fun e w' => e = .returned (.int .i64 3) ∧ w' = w := by
  have c2 := h.c2
  obtain ⟨ad, c, rfl, _⟩ := row_shape h.row
  have i1 : (65536 : Int) ≤ (os.length : Int) := by omega
  clear h hn
  generalize os.length = N at *
  go_enter Tryz.func42, Tryz.ntmps42
  go_wp2
  go_ret
  exact ⟨rfl, rfl⟩
theorem write_cut (w : World) (s d j b : Nat) (M : DataW Value) (v : Value) (rs : List (List UInt8)) (os : List Ob) (sz : Nat) (FJ O F : Nat → Prop) (h : StAt w s d j b M v rs os sz true FJ O F) (x : Value) (hn : os.length < 65536) :
    Calls Tryz.prog 42 #[.pointer (some ⟨s, 0, none⟩), x] w fun e w' => e = .returned (.int .i64 6) ∧ w' = w := by
  have c2 := h.c2
  have c0 := h.c0
  have hx := jappend_cut w j d objNm rs sz FJ h.jr x
  obtain ⟨ad, c, rfl, _⟩ := row_shape h.row
  have i1 : ¬ (65536 : Int) ≤ (os.length : Int) := by omega
  clear h hn
  generalize os.length = N at *
  go_enter Tryz.func42, Tryz.ntmps42
  go_wp2_with (go_at_call 58; refine hx.mono ?_; clear hx; rintro e w1 ⟨rfl, h1⟩; subst h1)
  go_ret
  exact ⟨rfl, rfl⟩
/-- what lies behind an Append of the store's journal -/
def Wrote (w w' : World) (s d j b : Nat) (M : DataW Value) (v : Value) (rs : List (List UInt8)) (os : List Ob) (sz : Nat) (FJ O F : Nat → Prop) (S : DG) (G : Nat → Prop) (l : List UInt8) (er : Int) : Prop :=
  Turn (fun k => FJ k ∨ G k) w w' ∧ ∃ FJ' G', IsDisk w' d (S.app objNm.data.toList (recB l)).1 G' ∧ (∀ k, FJ' k → FJ k ∨ w.heap.size ≤ k) ∧ (∀ k, G' k → G k ∨ w.heap.size ≤ k) ∧ (∀ k, (F k ∨ FJ' k) → ¬ G' k) ∧
    ((er = 0 ∧ StAt w' s d j b M v (rs ++ [l]) os (sz + (recB l).length) false FJ' O (fun k => F k ∨ FJ' k)) ∨ (er ≠ 0 ∧ StAt w' s d j b M v rs os sz (decide (er = 6)) FJ' O (fun k => F k ∨ FJ' k)))
theorem write_any (w : World) (s d j b : Nat) (M : DataW Value) (v : Value) (rs : List (List UInt8)) (os : List Ob) (sz : Nat) (FJ O F : Nat → Prop) (h : StAt w s d j b M v rs os sz false FJ O F) (S : DG) (G : Nat → Prop) (hd : IsDisk w d S G) (hFG : ∀ k, F k → ¬ G k)
    (a : Option Addr) (m c : Nat) (l : List UInt8) (hb : Bytes w a m l) (hm : m ≤ 262144) (ha : 0 < m → ∀ x, a = some x → ¬ F x.block ∧ ¬ G x.block) (hn : os.length < 65536) (hbs : (S.bs objNm.data.toList).length ≤ 4194304) (hsz : sz ≤ (S.bs objNm.data.toList).length) (hSn : S.n ≤ 256) (hw : S.wr < 4000000000000000000) :
    Calls Tryz.prog 42 #[.pointer (some ⟨s, 0, none⟩), .slice a m c] w fun e w' => e = .returned (.int .i64 (S.app objNm.data.toList (recB l)).2) ∧ Wrote w w' s d j b M v rs os sz FJ O F S G l (S.app objNm.data.toList (recB l)).2 := by
  have c2 := h.c2
  have c0 := h.c0
  have hx : Calls Tryz.prog 58 #[.pointer (some ⟨j, 0, none⟩), .slice a m c] w fun e w' => e = .returned (.int .i64 (S.app objNm.data.toList (recB l)).2) ∧ Wrote w w' s d j b M v rs os sz FJ O F S G l (S.app objNm.data.toList (recB l)).2 := by
    refine (jappend_any w j d objNm rs sz FJ S G h.jr hd (fun k hk => hFG k (h.fj k hk)) a m c l hb hm (fun h0 x hx => ⟨fun hf => (ha h0 x hx).1 (h.fj _ hf), (ha h0 x hx).2⟩) (by simp [objNm, ByteArray.size, maxLen]) hbs hsz hSn hw).mono ?_
    rintro e w' ⟨he, hT, FJ', G', hd', hF', hG', hFG', hc⟩
    refine ⟨he, hT, FJ', G', hd', hF', hG', fun k hk hg => hk.elim (fun hf => (hG' k hg).elim (hFG k hf) (fun e => by have := h.lt k hf; omega)) (fun hf => hFG' k hf hg), ?_⟩
    rcases hc with ⟨h0, hJ⟩ | ⟨h0, hJ⟩
    · exact .inl ⟨h0, h.moved hT hFG hJ hF'⟩
    · exact .inr ⟨h0, h.moved hT hFG hJ hF'⟩
  obtain ⟨ad, c', rfl, _⟩ := row_shape h.row
  have i1 : ¬ (65536 : Int) ≤ (os.length : Int) := by omega
  clear h hn hd hbs hsz
  generalize (S.app objNm.data.toList (recB l)).2 = er at *
  generalize hN : os.length = N at c2 i1 hx ⊢
  clear hN
  go_enter Tryz.func42, Tryz.ntmps42
  go_wp2_with (go_at_call 58; refine hx.mono ?_; clear hx; rintro e w1 ⟨rfl, h1⟩)
  go_ret
  exact ⟨rfl, h1⟩
end Go.Proofs.YtojpbemfbjkjjaaGreat
