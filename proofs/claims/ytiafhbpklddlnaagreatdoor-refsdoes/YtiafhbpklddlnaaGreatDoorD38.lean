import Derived.Test.YtiafhbpklddlnaaGreatDoorD37
import Derived.Maps.OwnIn
import Derived.Maps.AppendAt
import Derived.Test.YtiafhbpklddlnaaGreatDoorD23
/- What All tells: all refs, their names rising, whatever the body does to the refs meanwhile. -/
namespace Go.Proofs.YtiafhbpklddlnaaGreatDoor
open Go.RowKit Go.Shelf Go.Maps

attribute [local go_sem] Oper.semAt_some

set_option maxRecDepth 100000 in
set_option maxHeartbeats 4000000 in
theorem all_tells (w : World) (r d j b : Nat) (M : DataW Value) (rs : List (List UInt8)) (g : List UInt8 → Int) (n sz : Nat) (cut : Bool) (FJ F : Nat → Prop) (h : RfAt w r d j b M rs g n sz cut FJ F) (B : Nat) (hB : w.cell? ⟨B, 0, none⟩ = some (.pointer (some ⟨r, 0, none⟩))) (hn : n ≤ 1000000) (L : List Ch) (hL : AllR g n L) (nn : Nat) (hnn : 1 ≤ nn) :
    TellsO Fence.wide nn (nn - 1) Tryz.prog 63 #[.pointer (some ⟨B, 0, none⟩)] chE (fun pre x _ => L[pre.length]? = some x) (fun _ => False) (fun xs => xs = L) w := by
  intro l J Jx f0 W hW hlW _ hJ hJx _ hY h0
  have hRW := h.below hW
  have hcB : W.cell? ⟨B, 0, none⟩ = some (.pointer (some ⟨r, 0, none⟩)) := (hW.cell (p := ⟨B, 0, none⟩) (World.block_lt_of_cell? w _ hB)).trans hB
  have c1 := hRW.c1
  have hcl := fun W' (hB' : Below W.heap.size W W') => mclone_any b M W' (hRW.below hB').own
  have hatv := hRW.atv
  have hhas := hRW.has
  have hmsz := hRW.msz
  have hf0 := hJ.2 _ _ _ h0
  rw [← hmsz] at hL hn
  have HS : Hid (∀ W', W'.ownsMap Tryz.prog 9 rvR W.heap.size (size M) M → Calls Tryz.prog 65 #[.func (.func 93) #[] #[.pointer (some ⟨W'.heap.size, 0, none⟩)]] (W'.alloc (.cells #[.map (some W.heap.size)] 63)) fun e w' => ∃ a c, e = .returned (.slice a L.length c) ∧ L.length ≤ c ∧ (a = none → L.length = 0) ∧ Below W'.heap.size W' w' ∧ (∀ i x, L[i]? = some x → ∃ gb, a = some ⟨gb, 0, none⟩ ∧ W'.heap.size < gb ∧ gb < w'.heap.size ∧ w'.cell? ⟨gb, i, none⟩ = some (.string x.1)) ∧ ∀ x ∈ L, x.1.size ≤ maxLen) := fun W' ho => sorted_keys _ M W' ho hn g hhas L hL
  have HY : Hid (∀ pre x f W1, J pre f W1 → W.heap.size ≤ W1.heap.size → L[pre.length]? = some x → YieldAt Fence.wide (nn - 1) Tryz.prog l (chE x) W1 fun e W' => ∃ f', (∀ k, f' k → f k ∨ W1.heap.size ≤ k) ∧ Turn (fun k => f k ∨ k = l) W1 W' ∧ ((e = .returned (.bool true) ∧ J (pre ++ [x]) f' W') ∨ (e = .returned (.bool false) ∧ Jx (pre ++ [x]) f' W'))) := hY
  have HJ : Hid (Apart J ∧ J [] f0 W ∧ ∀ k, f0 k → k < W.heap.size) := ⟨hJ, h0, hf0⟩
  have HA : Hid (∀ l, M.atKey (.string l) zeroR = .held (.int .u64 (g l))) := hatv
  have HL : Hid (AllR g (size M) L) := hL
  clear hY h0 hJ hJx hatv hL hhas h hB hRW hmsz hf0
  refine callsIn_of_wp Tryz.func63 rfl trivial ?_ rfl
  simp only [Tryz.ntmps63, List.size_toArray, List.length_cons, List.length_nil, Nat.reduceAdd, Nat.reduceSub, Array.replicate_succ, Array.replicate_zero, List.push_toArray, List.append_toArray, List.nil_append, List.cons_append]
  refine wpIn_wide.2 ?_
  have hK := fun mb W => callsIn_wide.1 (Tryz.maps_Keys_66 mb W)
  go_wp2_with first
    | (go_at_call 64; refine (hcl _ (Below.refl _ _)).mono ?_; clear hcl; rintro e W1 ⟨rfl, hown1, hB1⟩; have HS1 := HS.out W1 hown1; have HO1 : Hid (W1.ownsMap Tryz.prog 9 rvR W.heap.size (size M) M ∧ Below W.heap.size W W1) := ⟨hown1, hB1⟩; clear HS hown1 hB1)
    | (go_at_call 66; refine (hK _ _).mono ?_; clear hK; rintro e W1' ⟨rfl, rfl⟩)
    | (go_at_call 65; refine HS1.mono ?_; clear HS1; rintro e W2 ⟨a, c, rfl, hc, hnil, hB2, hcell, hshort⟩; have H2 : Hid (Below W.heap.size W W2 ∧ W2.ownsMap Tryz.prog 9 rvR W.heap.size (size M) M ∧ (∀ i x, L[i]? = some x → ∃ gb, a = some ⟨gb, 0, none⟩ ∧ W.heap.size < gb ∧ gb < W2.heap.size ∧ W2.cell? ⟨gb, i, none⟩ = some (.string x.1)) ∧ ∀ x ∈ L, x.1.size ≤ maxLen) := ⟨HO1.out.2.trans (hB2.mono HO1.out.2.size), ownsMap_keptR HO1.out.1 (hB2.block _ HO1.out.1.lt), (fun i x hx => by obtain ⟨gb, h1, h2, h3, h4⟩ := hcell i x hx; exact ⟨gb, h1, Nat.lt_of_le_of_lt HO1.out.2.size h2, h3, h4⟩), hshort⟩; clear hB2 hcell hshort HO1)
  obtain ⟨N, hN⟩ : ∃ N, N = L.length := ⟨_, rfl⟩
  have HN : Hid (N = L.length) := hN
  rw [← hN] at hnil hc ⊢
  have hN9 : N ≤ 1000000 := by rw [hN, HL.out.len]; exact hn
  clear hN
  refine (wpIn_wide (n := nn)).1 ?_
  gi_loopw [17] (fun i wr => ∃ (k : Nat) (f : Nat → Prop), k ≤ N ∧ i = .int .i64 (k : Int) ∧ Hid (J (L.take k) f wr ∧ (∀ z, f z → f0 z ∨ W2.heap.size ≤ z) ∧ Turn (fun z => f0 z ∨ z = l) W2 wr)) (fun i _ => N - (intOf i).toNat)
  case atStart => exact ⟨0, f0, Nat.zero_le _, rfl, HJ.out.1.1 _ _ _ _ HJ.out.2.1 (Turn.of_below _ H2.out.1), fun z hz => .inl hz, Turn.refl _ _⟩
  case round =>
    obtain ⟨k, f, hk, rfl, H⟩ := hrel
    by_cases hlt : k < N
    · obtain ⟨x, hx⟩ : ∃ x, L[k]? = some x := ⟨_, List.getElem?_eq_getElem (by rw [← HN.out]; exact hlt)⟩
      obtain ⟨gb, rfl, hg1, hg2, hcx⟩ := H2.out.2.2.1 k x hx
      have hxs := H2.out.2.2.2 x (List.mem_of_getElem? hx)
      have hng : ∀ z, W.heap.size ≤ z → z < W2.heap.size → ¬ (f0 z ∨ z = l) := fun z h1 h2 h3 => h3.elim (fun h => by have := HJ.out.2.2 z h; omega) (fun h => by omega)
      have q1 := H.out.2.2.cell hcx (hng gb (by omega) hg2)
      have hmb : W.heap.size < W2.heap.size := H2.out.2.1.lt
      have hgx : g (bs x.1) = x.2 := (HL.out.mem (List.mem_of_getElem? hx)).1
      have hlook0 := own_get H2.out.2.1 HA.out x.1 hxs wr (H.out.2.2.block _ hmb (hng _ (Nat.le_refl _) hmb))
      simp only [hgx] at hlook0
      have i2 : (k : Int) < (N : Int) := by omega
      obtain ⟨fn, tmps, assign, body, hy, hR⟩ := HY.out (L.take k) x f wr H.out.1 (by have h1 := H.out.2.2.size; have h2 := H2.out.1.size; omega) (by rw [List.length_take, Nat.min_eq_left (by rw [← HN.out]; exact hk)]; exact hx)
      have HX : Hid (L.take k ++ [x] = L.take (k + 1)) := (by rw [List.take_add_one, hx]; simp : L.take k ++ [x] = L.take (k + 1))
      obtain ⟨nm, iv⟩ := x
      simp only at q1 hlook0
      clear hx hcx hgx hxs hng
      simp only [chE] at hy
      gi_wp2_with fail
      refine hR.mono ?_
      clear hR
      have hs2 := H2.out.1.size
      have hs3 := H.out.2.2.size
      rintro e W3 ⟨f', hf', hT3, (⟨rfl, hJ3⟩ | ⟨rfl, hJ3⟩)⟩
      · rw [HX.out] at hJ3
        have HE : Hid (J (L.take (k + 1)) f' W3 ∧ (∀ z, f' z → f0 z ∨ W2.heap.size ≤ z) ∧ Turn (fun z => f0 z ∨ z = l) W2 W3) := ⟨hJ3, fun z hz => (hf' z hz).elim (H.out.2.1 z) (fun e => .inr (by omega)), H.out.2.2.trans hT3 (fun z hz e => e.elim (fun e => (H.out.2.1 z e).imp id (fun e => by omega)) .inr)⟩
        clear hJ3 hT3 hf'
        gi_wp2
        go_roundw
        case rel => exact ⟨k + 1, f', by omega, by simp, HE⟩
        case measure => simp [intOf]; omega
      · have HE : Hid (Jx (L.take k ++ [(nm, iv)]) f' W3 ∧ (∀ z, f' z → f0 z ∨ W.heap.size ≤ z) ∧ Turn (fun z => f0 z ∨ z = l) W W3) := ⟨hJ3, fun z hz => (hf' z hz).elim (fun e => (H.out.2.1 z e).imp id (fun e => by omega)) (fun e => .inr (by omega)), (Turn.of_below _ H2.out.1).trans (H.out.2.2.trans hT3 (fun z hz e => e.elim (fun e => (H.out.2.1 z e).imp id (fun e => by omega)) .inr)) (fun _ _ e => e)⟩
        clear hJ3 hT3 hf'
        gi_wp2
        refine bodyPost_ret (results_none rfl _ _ _) rfl ?_
        exact ⟨⟨_, rfl⟩, f', HE.out.2.1, HE.out.2.2, .inr ⟨_, HE.out.1⟩⟩
    · obtain rfl : k = N := by omega
      have HT : Hid (L.take k = L) := (List.take_of_length_le (by rw [← HN.out]; exact Nat.le_refl _) : L.take k = L)
      gi_wp2
      go_end0
      obtain ⟨h1, h2, h3⟩ := H.out
      rw [HT.out] at h1
      have hs2 := H2.out.1.size
      exact ⟨⟨_, rfl⟩, f, fun z hz => (h2 z hz).imp id (fun e => by omega), (Turn.of_below _ H2.out.1).trans h3 (fun _ _ e => e), .inl ⟨_, rfl, h1⟩⟩
end Go.Proofs.YtiafhbpklddlnaaGreatDoor

/- The law's own functions: all refs as a list, changes cut short, two lists held against each other. -/
namespace Go.Proofs.YtiafhbpklddlnaaGreatDoor
open Go.RowKit Go.Shelf Go.Maps

attribute [local go_sem] Oper.semAt_some

theorem row_baseC {W : World} {base base' n : Nat} {v : Value} {xs : List Value} (h : W.ownsRow base 38 2 v n xs) (hb : base' ≤ base) : W.ownsRow base' 38 2 v n xs := by
  refine ⟨h.1, ?_⟩
  rcases h.2 with h | ⟨g, cap, cur, rfl, hg, rest⟩
  · exact .inl h
  · exact .inr ⟨g, cap, cur, rfl, Nat.le_trans hb hg, rest⟩
/-- a change as the law cuts it -/
def cutOne (x : Ch) : Ch := (x.1.extract 0 (min (x.1.size : Int) 250).toNat, x.2)
def cutR (l : List Ch) : List Ch := (l.take 80).map cutOne
/-- a list of refs that is under way, in box c -/
def LstI (c : Nat) (pre : List Ch) (f : Nat → Prop) (W : World) : Prop := ∃ v, Boxed W c 30 v ∧ W.ownsRow (c + 1) 38 2 v pre.length (chCells pre) ∧ ∀ k, f k ↔ (k = c ∨ v.ownBlock = some k)
theorem lstI_apart (c : Nat) : Apart (LstI c) := by
  refine ⟨fun s f X Y ⟨v, h1, h2, h3⟩ ht => ⟨v, (ht.block c h1.lt (fun h => h ((h3 c).2 (.inl rfl)))).trans h1, row_movedC h2 (fun g hg => ht.block g (row_blockC h2 g hg).2 (fun h => h ((h3 g).2 (.inr hg)))), h3⟩, fun s f X ⟨v, h1, h2, h3⟩ k hk => ?_⟩
  rcases (h3 k).1 hk with rfl | e
  · exact h1.lt
  · exact (row_blockC h2 k e).2

theorem lst_box {c : Nat} {W w1 : World} {v : Value} {pre : List Ch} {o : Obj} (hbx : Boxed W c 30 v) (hrow : W.ownsRow (c + 1) 38 2 v pre.length (chCells pre)) (hg : (W.alloc o).grownBy w1 v.ownBlock) : Boxed w1 c 30 v :=
  (hbx.alloc o).kept hg (fun e => by have := (row_blockC hrow c e.symm).1; omega)
theorem lst_push {c : Nat} {W w1 : World} {v v' : Value} {pre : List Ch} {x : Ch} {f : Nat → Prop} {o : Obj} (hbx : Boxed W c 30 v) (hrow : W.ownsRow (c + 1) 38 2 v pre.length (chCells pre)) (hf : ∀ k, f k ↔ (k = c ∨ v.ownBlock = some k))
    (hown : w1.ownsRow (c + 1) 38 2 v' (pre.length + 1) (chCells pre ++ chCells [x])) (hg : (W.alloc o).grownBy w1 v.ownBlock) (hat : v'.ownBlock = v.ownBlock ∨ v'.ownBlock = some (W.alloc o).heap.size) :
    ∃ f', (∀ k, f' k → f k ∨ W.heap.size ≤ k) ∧ Turn f W (w1.setCell ⟨c, 0, none⟩ v') ∧ LstI c (pre ++ [x]) f' (w1.setCell ⟨c, 0, none⟩ v') := by
  refine ⟨fun k => k = c ∨ v'.ownBlock = some k, fun k hk => ?_, ?_, v', (lst_box hbx hrow hg).set v', ?_, fun _ => Iff.rfl⟩
  · rcases hk with rfl | e
    · exact .inl ((hf _).2 (.inl rfl))
    · rcases hat with e' | e'
      · rw [e'] at e; exact .inl ((hf k).2 (.inr e))
      · rw [e'] at e
        have : (W.alloc o).heap.size = k := by simpa using e
        rw [World.size_alloc] at this
        exact .inr (by omega)
  · exact ((Turn.of_below f ((Below.refl _ W).alloc (Nat.le_refl _) o)).trans (Turn.of_grownBy (Fp := fun k => v.ownBlock = some k) hg (fun k e => .inl e)) (fun k _ e => (hf k).2 (.inr e))).trans (turn_setCell w1 c 0 _) (fun k _ e => (hf k).2 (.inl e))
  · rw [List.length_append, List.length_singleton, chCells_append]
    exact row_movedC hown (fun g e => Below.heap_setCell _ _ _ _ (fun e' => by have := (row_blockC hown g e).1; simp only at e'; omega))

end Go.Proofs.YtiafhbpklddlnaaGreatDoor

/- The walks of what stands on Path: isPath, count, rest, Rest, In, firstErr, join, Move. -/
namespace Go.Proofs.YtiafhbpklddlnaaGreatDoor
open Go.RowKit Go.Shelf

attribute [local go_sem] Oper.semAt_some

theorem field0 (a b : Value) (w : World) : (Instr.field 75 (.agg #[a, b]) 0).run Tryz.prog w = .ok a w := by kernel_rfl
theorem isPath_any (s : ByteArray) (w : World) (hs : s.size ≤ maxLen) :
    Calls Tryz.prog 103 #[.string s] w fun e w' => e = .returned (.bool (isP (bs s))) ∧ Below w.heap.size w w' := by
  have hp := path_any s w hs
  obtain ⟨e1, h1⟩ : ∃ e1, e1 = (pathSpot (bs s)).1 := ⟨_, rfl⟩
  obtain ⟨e2, h2⟩ : ∃ e2, e2 = (pathSpot (bs s)).2 := ⟨_, rfl⟩
  simp only [spotV] at hp
  rw [← h1, ← h2] at hp
  have H : Hid (((e1 : Int) == 0) = isP (bs s)) := by
    show _ = _
    unfold isP
    rw [← h1, Bool.eq_iff_iff, beq_iff_eq, beq_iff_eq]; omega
  clear h1 h2
  have hfd := fun w => field0 (.int .i64 (e1 : Int)) (.int .i64 (e2 : Int)) w
  go_enter Tryz.func103, Tryz.ntmps103
  go_wp2_with (go_at_call 84; refine hp.mono ?_; rintro e w' ⟨rfl, hB⟩)
  go_ret
  exact ⟨by rw [← H.out]; rfl, hB⟩

/-- how many rounds have been -/
structure CountI {s : ByteArray} (w : World) (pre : List (Pc s)) (W : World) : Prop where
  n : Boxed W w.heap.size 3 (.int .i64 (pre.length : Int))
  p : Boxed W (w.heap.size + 1) 9 (.string s)
  b : Below w.heap.size w W
theorem countI_own {s : ByteArray} (w : World) (b0 : Nat) (h0 : w.heap.size ≤ b0) : OwnFrom b0 (CountI (s := s) w) := fun _ _ _ _ hs hg hr =>
  ⟨boxed_keep hs.n hg hr, boxed_keep hs.p hg hr, below_keep hs.b (Nat.le_refl _) h0 hg hr⟩

theorem parts_count (l : List UInt8) : (parts l).length ≤ l.length + 1 := by
  have h : ∀ (l cur : List UInt8), (cutS cur l).length ≤ l.length + 1 := by
    intro l
    induction l with
    | nil => intro cur; simp [cutS]
    | cons c t ih =>
      intro cur
      unfold cutS
      split
      · have := ih []; simp only [List.length_cons]; omega
      · have := ih (cur ++ [c]); simp only [List.length_cons]; omega
  unfold parts
  split
  · simp
  · exact h l []

theorem lite_cut (s p : ByteArray) (w : World) (hs : s.size ≤ 1000000) (hp : p.size ≤ 1000000) :
    Calls Tryz.prog 133 #[.string s, .string p] w fun e w' => e = .returned (.tuple #[.string (if pre (bs p) (bs s) then s.extract p.size s.size else s), .bool (pre (bs p) (bs s))]) ∧ w' = w := by
  have hx := lite_prefix s p w (by unfold maxLen; omega) (by unfold maxLen; omega)
  cases hpr : pre (bs p) (bs s) with
  | false =>
    rw [hpr] at hx
    go_enter Tryz.func133, Tryz.ntmps133
    go_wp2_with (go_at_call 99; refine hx.mono ?_; rintro e w' ⟨rfl, rfl⟩)
    go_ret2
    exact ⟨rfl, rfl⟩
  | true =>
    have hle : p.size ≤ s.size := by have := ((pre_iff _ _).1 hpr).length_le; rw [bs_len, bs_len] at this; exact this
    have i1 : (p.size : Int) ≤ s.size := by omega
    rw [hpr] at hx
    go_enter Tryz.func133, Tryz.ntmps133
    go_wp2_with (go_at_call 99; refine hx.mono ?_; rintro e w' ⟨rfl, rfl⟩)
    go_ret2
    exact ⟨rfl, rfl⟩
theorem cut_prefix (s p : ByteArray) (w : World) (hs : s.size ≤ 1000000) (hp : p.size ≤ 1000000) :
    Calls Tryz.prog 122 #[.string s, .string p] w fun e w' => e = .returned (.tuple #[.string (if pre (bs p) (bs s) then s.extract p.size s.size else s), .bool (pre (bs p) (bs s))]) ∧ w' = w := by
  have hx := lite_cut s p w hs hp
  generalize (if pre (bs p) (bs s) then s.extract p.size s.size else s) = S at hx ⊢
  generalize pre (bs p) (bs s) = b at hx ⊢
  go_enter Tryz.func122, Tryz.ntmps122
  go_wp2_with (go_at_call 133; refine hx.mono ?_; rintro e w' ⟨rfl, rfl⟩)
  go_ret2
  exact ⟨rfl, rfl⟩

def restS (p q : ByteArray) : ByteArray := mk ((restP (bs p) (bs q)).getD [])
def restB (p q : ByteArray) : Bool := (restP (bs p) (bs q)).isSome
theorem restP_len (p q r : List UInt8) (h : restP p q = some r) : r.length ≤ p.length := by
  unfold restP at h
  split at h
  · cases h; exact Nat.le_refl _
  · split at h
    · cases h; simp
    · split at h
      · cases h; rw [List.length_drop]; omega
      · cases h
theorem restS_size (p q : ByteArray) : (restS p q).size ≤ p.size := by
  unfold restS
  rw [← bs_len, bs_mk, ← bs_len p]
  cases h : restP (bs p) (bs q) with
  | none => simp
  | some r => exact restP_len _ _ _ h

theorem nrest_any (p q : ByteArray) (w : World) (hp : p.size ≤ 500000) (hq : q.size ≤ 500000) :
    Calls Tryz.prog 104 #[.string p, .string q] w fun e w' => e = .returned (.tuple #[.string (restS p q), .bool (restB p q)]) ∧ w' = w := by
  by_cases h1 : q.toList = []
  · have e1 : restP (bs p) (bs q) = some (bs p) := by unfold restP; rw [if_pos ((toList_bs q).symm.trans h1)]
    have e2 : restS p q = p := by unfold restS; rw [e1]; exact mk_bs p
    have e3 : restB p q = true := by unfold restB; rw [e1]; rfl
    go_enter Tryz.func104, Tryz.ntmps104
    go_wp2
    go_ret2
    rw [e2, e3]
    exact ⟨rfl, rfl⟩
  · have b1 : q.toList.isEmpty = false := by simpa using h1
    have n1 : bs q ≠ [] := by rw [← toList_bs]; exact h1
    by_cases h2 : q = p
    · subst h2
      have e1 : restP (bs q) (bs q) = some [] := by unfold restP; rw [if_neg n1, if_pos rfl]
      have e2 : restS q q = ⟨#[]⟩ := by unfold restS; rw [e1]; rfl
      have e3 : restB q q = true := by unfold restB; rw [e1]; rfl
      go_enter Tryz.func104, Tryz.ntmps104
      go_wp2
      go_ret2
      rw [e2, e3]
      exact ⟨rfl, rfl⟩
    · have b2 : (q.toList == p.toList) = false := by rw [str_beq]; exact decide_eq_false (fun e => h2 (bs_inj e))
      have b3 : ¬ q.toList = p.toList := by rw [toList_bs, toList_bs]; exact fun e => h2 (bs_inj e)
      have hx := cut_prefix p (q ++ ⟨#[47]⟩) w (by omega) (by have e : (⟨#[47]⟩ : ByteArray).size = 1 := rfl; rw [ByteArray.size_append, e]; omega)
      have hb : bs (q ++ ⟨#[47]⟩) = bs q ++ [47] := by rw [bs_append]; rfl
      have hrp : restP (bs p) (bs q) = if pre (bs q ++ [47]) (bs p) then some ((bs p).drop ((bs q).length + 1)) else none := by
        unfold restP
        rw [if_neg n1, if_neg (fun e => h2 (bs_inj e))]; rfl
      rw [hb] at hx
      cases hpr : pre (bs q ++ [47]) (bs p) with
      | false =>
        rw [hpr] at hx hrp
        have e2 : restS p q = ⟨#[]⟩ := by unfold restS; rw [hrp]; rfl
        have e3 : restB p q = false := by unfold restB; rw [hrp]; rfl
        clear hrp
        go_enter Tryz.func104, Tryz.ntmps104
        go_wp2_with (go_at_call 122; refine hx.mono ?_; rintro e w' ⟨rfl, rfl⟩)
        go_ret2
        rw [e2, e3]
        exact ⟨rfl, rfl⟩
      | true =>
        rw [hpr] at hx hrp
        have e2 : restS p q = p.extract (q.size + 1) p.size := by
          unfold restS; rw [hrp]
          apply bs_inj
          rw [bs_mk, bs_extract, ← bs_len p, List.take_length, bs_len]
          simp
        have e3 : restB p q = true := by unfold restB; rw [hrp]; rfl
        clear hrp
        go_enter Tryz.func104, Tryz.ntmps104
        go_wp2_with (go_at_call 122; refine hx.mono ?_; rintro e w' ⟨rfl, rfl⟩)
        go_ret2
        rw [e2, e3]
        exact ⟨rfl, rfl⟩

theorem Rest_any (p q : ByteArray) (w : World) (hp : p.size ≤ 500000) (hq : q.size ≤ 500000) :
    Calls Tryz.prog 94 #[.string p, .string q] w fun e w' => e = .returned (.tuple #[.string (if isP (bs p) && isP (bs q) then restS p q else ⟨#[]⟩), .bool (inP (bs p) (bs q))]) ∧ Below w.heap.size w w' := by
  have hx := isPath_any p w (by unfold maxLen; omega)
  have hr := fun w => nrest_any p q w hp hq
  have hy := fun w => isPath_any q w (by unfold maxLen; omega)
  have hin : inP (bs p) (bs q) = (isP (bs p) && isP (bs q) && restB p q) := rfl
  rw [hin]
  clear hin
  cases h1 : isP (bs p) with
  | false =>
    rw [h1] at hx
    go_enter Tryz.func94, Tryz.ntmps94
    go_wp2_with (go_at_call 103; refine hx.mono ?_; rintro e w1 ⟨rfl, hB1⟩)
    go_ret2
    exact ⟨rfl, hB1⟩
  | true =>
    rw [h1] at hx
    cases h2 : isP (bs q) with
    | false =>
      rw [h2] at hy
      go_enter Tryz.func94, Tryz.ntmps94
      go_wp2_with first
        | (go_at_call 103; refine hx.mono ?_; clear hx; rintro e w1 ⟨rfl, hB1⟩; replace hy := hy w1)
        | (go_at_call 103; refine hy.mono ?_; clear hy; rintro e w2 ⟨rfl, hB2⟩)
      go_ret2
      exact ⟨rfl, hB1.trans (hB2.mono hB1.size)⟩
    | true =>
      rw [h2] at hy
      generalize restS p q = S at hr ⊢
      generalize restB p q = b at hr ⊢
      go_enter Tryz.func94, Tryz.ntmps94
      go_wp2_with first
        | (go_at_call 103; refine hx.mono ?_; clear hx; rintro e w1 ⟨rfl, hB1⟩; replace hy := hy w1)
        | (go_at_call 103; refine hy.mono ?_; clear hy; rintro e w2 ⟨rfl, hB2⟩)
        | (go_at_call 104; refine (hr _).mono ?_; clear hr; rintro e w3 ⟨rfl, rfl⟩)
      go_ret2
      exact ⟨rfl, hB1.trans (hB2.mono hB1.size)⟩

theorem In_any (p q : ByteArray) (w : World) (hp : p.size ≤ 500000) (hq : q.size ≤ 500000) :
    Calls Tryz.prog 67 #[.string p, .string q] w fun e w' => e = .returned (.bool (inP (bs p) (bs q))) ∧ Below w.heap.size w w' := by
  have hr := Rest_any p q w hp hq
  generalize (if isP (bs p) && isP (bs q) then restS p q else ⟨#[]⟩) = S at hr
  generalize inP (bs p) (bs q) = b at hr ⊢
  go_enter Tryz.func67, Tryz.ntmps67
  go_wp2_with (go_at_call 94; refine hr.mono ?_; clear hr; rintro e w3 ⟨rfl, hB⟩)
  go_ret
  exact ⟨rfl, hB⟩
end Go.Proofs.YtiafhbpklddlnaaGreatDoor
