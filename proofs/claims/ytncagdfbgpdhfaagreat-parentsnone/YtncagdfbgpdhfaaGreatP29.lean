import Derived.Test.YtncagdfbgpdhfaaGreatP27
import Derived.Test.YtncagdfbgpdhfaaGreatP28
import Derived.Test.YtncagdfbgpdhfaaGreatP22
/- The walks of read and Open. -/
namespace Go.Proofs.YtncagdfbgpdhfaaGreat
open Go.RowKit Go.Shelf Go.Maps

attribute [local go_sem] Oper.semAt_some

theorem read_no (w : World) (s : Nat) (a : Option Addr) (m c : Nat) (l : List UInt8) (hb : Bytes w a m l) (hm : m ≤ 549755813888) (hd : decG l = none) :
    Calls Tryz.prog 51 #[.pointer (some ⟨s, 0, none⟩), .slice a m c] w fun e w' => e = .returned (.bool false) ∧ Below w.heap.size w w' := by
  have hx := Decode_any a m c l w hb hm
  rw [hd] at hx
  have hx' : Calls Tryz.prog 72 #[.slice a m c] w fun e w' => e = .returned (.tuple #[.nilIface, .int .i64 8]) ∧ Below w.heap.size w w' := hx
  clear hx hd
  go_enter Tryz.func51, Tryz.ntmps51
  go_wp2_with (go_at_call 72; refine hx'.mono ?_; clear hx'; rintro e w1 ⟨rfl, hB1⟩)
  go_ret
  exact ⟨rfl, hB1⟩
theorem read_twice (w : World) (s d j b : Nat) (M : DataW Value) (v : Value) (rs : List (List UInt8)) (os : List Ob) (sz : Nat) (cut : Bool) (FJ O F : Nat → Prop) (h : StAt w s d j b M v rs os sz cut FJ O F) (a : Option Addr) (m c : Nat) (l : List UInt8) (hb : Bytes w a m l) (hm : m ≤ 549755813888) (o : Ob) (hd : decG l = some o) (hf : (findO os (oid o)).isSome = true) :
    Calls Tryz.prog 51 #[.pointer (some ⟨s, 0, none⟩), .slice a m c] w fun e w' => e = .returned (.bool false) ∧ Below w.heap.size w w' := by
  have hx := Decode_F a m c l w hb hm o hd
  have hll := hb.1
  obtain ⟨h1, h2, h3, h4⟩ := decG_some hd (by omega)
  have hi0 := (idOf_bounds (obB o)).1
  have hi1 := (idOf_bounds (obB o)).2
  have HID : Hid (∀ W, Bytes W a m l → Calls Tryz.prog 53 #[.slice a m c] W fun e w' => e = .returned (.int .u64 (oid o)) ∧ w' = W) := fun W hb => by
    unfold oid; rw [h3]; exact Id_any a m c l W hb (by unfold maxLen; omega)
  have HH : Hid (∀ W, Below w.heap.size w W → Calls Tryz.prog 73 #[.pointer (some ⟨s, 0, none⟩), .int .u64 (oid o)] W fun e w' => e = .returned (.bool true) ∧ w' = W) := fun W hB => by
    have := has_at W s d j b M v rs os sz cut FJ O F (h.below hB) (oid o) hi0 hi1
    rw [hf] at this
    exact this
  have hx' : Calls Tryz.prog 72 #[.slice a m c] w fun e w' => ∃ u, e = .returned (.tuple #[u, .int .i64 0]) ∧ Below w.heap.size w w' := hx.mono fun e w' ⟨⟨u, h1, _⟩, h2⟩ => ⟨u, h1, h2⟩
  generalize oid o = I at *
  clear h hd hf h1 h2 h3 h4 hx hi0 hi1
  go_enter Tryz.func51, Tryz.ntmps51
  go_wp2_with first
    | (go_at_call 72; refine hx'.mono ?_; clear hx'; rintro e w1 ⟨u, rfl, hB1⟩)
    | (go_at_call 53; refine (HID.out _ (bytes_below hb hB1)).mono ?_; rintro e w2 ⟨rfl, h2⟩; subst h2)
    | (go_at_call 73; refine (HH.out _ hB1).mono ?_; rintro e w3 ⟨rfl, h3⟩; subst h3)
  go_ret
  exact ⟨rfl, hB1⟩
set_option maxHeartbeats 1000000 in
theorem read_yes (w : World) (s d j b : Nat) (M : DataW Value) (v : Value) (rs : List (List UInt8)) (os : List Ob) (sz : Nat) (cut : Bool) (FJ O F : Nat → Prop) (h : StAt w s d j b M v rs os sz cut FJ O F) (a : Option Addr) (m c : Nat) (l : List UInt8) (hb : Bytes w a m l) (hm : m ≤ 549755813888) (o : Ob) (hd : decG l = some o) (hf : findO os (oid o) = none) (hn : os.length ≤ 1000000000) :
    Calls Tryz.prog 51 #[.pointer (some ⟨s, 0, none⟩), .slice a m c] w fun e w' => e = .returned (.bool true) ∧ ∃ w1, Below w.heap.size w w1 ∧ KeptO w1 w' s d j b v rs os o sz cut FJ O (Fresh w.heap.size w1) F := by
  have hll := hb.1
  obtain ⟨h1, h2, h3, h4⟩ := decG_some hd (by omega)
  have hx : Calls Tryz.prog 72 #[.slice a m c] w fun e w' => ∃ u, e = .returned (.tuple #[u, .int .i64 0]) ∧ Below w.heap.size w w' ∧ Hid (Held (Fresh w.heap.size w') o u w') := (Decode_F a m c l w hb hm o hd).mono fun e w' ⟨⟨u, k1, k2⟩, k3⟩ => ⟨u, k1, k3, k2.held h4 (by rw [h3]; omega)⟩
  have hi0 := (idOf_bounds (obB o)).1
  have hi1 := (idOf_bounds (obB o)).2
  have HID : Hid (∀ W, Bytes W a m l → Calls Tryz.prog 53 #[.slice a m c] W fun e w' => e = .returned (.int .u64 (oid o)) ∧ w' = W) := fun W hb => by
    unfold oid; rw [h3]; exact Id_any a m c l W hb (by unfold maxLen; omega)
  have HH : Hid (∀ W, Below w.heap.size w W → Calls Tryz.prog 73 #[.pointer (some ⟨s, 0, none⟩), .int .u64 (oid o)] W fun e w' => e = .returned (.bool false) ∧ w' = W) := fun W hB => by
    have := has_at W s d j b M v rs os sz cut FJ O F (h.below hB) (oid o) hi0 hi1
    rw [hf] at this
    exact this
  have HK : Hid (∀ W u, Below w.heap.size w W → Held (Fresh w.heap.size W) o u W → Calls Tryz.prog 57 #[.pointer (some ⟨s, 0, none⟩), .int .u64 (oid o), u] W fun e w' => e = .returned (.tuple #[]) ∧ KeptO W w' s d j b v rs os o sz cut FJ O (Fresh w.heap.size W) F) := fun W u hB hu =>
    keep_any W s d j b M v rs os sz cut FJ O F (h.below hB) o u (oid o) rfl hf h2 (Fresh w.heap.size W) hu (fun k hk => ⟨hk.lt, fun hF => by have := h.lt k hF; have := hk.1; omega⟩) hn
  generalize oid o = I at *
  clear h hd hf h1 h2 h3 h4 hi0 hi1
  go_enter Tryz.func51, Tryz.ntmps51
  go_wp2_with first
    | (go_at_call 72; refine hx.mono ?_; clear hx; rintro e w1 ⟨u, rfl, hB1, hu⟩)
    | (go_at_call 53; refine (HID.out _ (bytes_below hb hB1)).mono ?_; rintro e w2 ⟨rfl, h2⟩; subst h2)
    | (go_at_call 73; refine (HH.out _ hB1).mono ?_; rintro e w3 ⟨rfl, h3⟩; subst h3)
    | (go_at_call 57; refine (HK.out _ u hB1 hu.out).mono ?_; rintro e w4 ⟨rfl, h4⟩)
  go_ret
  exact ⟨rfl, _, hB1, h4⟩

/-- the objects of records, one behind the other; none, if one is no object or there already -/
def loadG : List (List UInt8) → List Ob → Option (List Ob)
  | [], os => some os
  | r :: rs, os => match decG r with
    | none => none
    | some o => if (findO os (oid o)).isSome then none else loadG rs (os ++ [o])

theorem sfin_m {n D : Nat} {f : Func} {W : World} {v : Value} {tmps : Array Value} {P : Ending → World → Prop} (hK : W.heap[D]? = some (.deferred (some []))) (hr : (results f tmps).run Tryz.prog (W.putObj D (.deferred none)) = .ok v (W.putObj D (.deferred none))) (hP : P (.returned v) (W.putObj D (.deferred none))) :
    bodyPostM Fence.wide n Tryz.prog f P Exit.ret { tmps := tmps, defers := [{ target := .collected D, args := #[] }] } W := ⟨by simp, .inl ⟨_, _, rfl, run_takeDeferred hK, ⟨v, hr, hP⟩⟩⟩
theorem turn_put {X : Nat → Prop} {w W : World} {D : Nat} (o : Obj) (h : Turn X w W) (hD : w.heap.size ≤ D) : Turn X w (W.putObj D o) :=
  ⟨h.os, h.tape, h.output, by simpa using h.size, fun k hk hn => (World.putObj_heap_other (by omega)).trans (h.block k hk hn)⟩
theorem sret_m {n : Nat} {f : Func} {W : World} {v : Value} {tmps : Array Value} {P : Ending → World → Prop} (hr : (results f tmps).run Tryz.prog W = .ok v W) (hP : P (.returned v) W) :
    bodyPostM Fence.wide n Tryz.prog f P Exit.ret { tmps := tmps, defers := [] } W := ⟨v, hr, hP⟩
theorem loadG_append : ∀ (a b : List (List UInt8)) (os : List Ob), loadG (a ++ b) os = (loadG a os).bind (loadG b)
  | [], b, os => rfl
  | r :: a, b, os => by
    simp only [List.cons_append, loadG]
    cases decG r with
    | none => rfl
    | some o =>
      simp only
      split
      · rfl
      · exact loadG_append a b _
theorem loadG_next {rs : List (List UInt8)} {k : Nat} {os : List Ob} (h : loadG (rs.take k) [] = some os) (hk : k < rs.length) (o : Ob) (hd : decG (rc rs k) = some o) (hf : findO os (oid o) = none) : loadG (rs.take (k + 1)) [] = some (os ++ [o]) := by
  rw [List.take_add_one, rc_get rs k hk, loadG_append, h]
  simp [loadG, hd, hf]
theorem loadG_none {rs : List (List UInt8)} {k : Nat} {os : List Ob} (h : loadG (rs.take k) [] = some os) (hk : k < rs.length) (hd : decG (rc rs k) = none ∨ ∃ o, decG (rc rs k) = some o ∧ (findO os (oid o)).isSome = true) : loadG rs [] = none := by
  have e : rs = rs.take (k + 1) ++ rs.drop (k + 1) := (List.take_append_drop (k + 1) rs).symm
  have h2 : loadG (rs.take (k + 1)) [] = none := by
    rw [List.take_add_one, rc_get rs k hk, loadG_append, h]
    rcases hd with hd | ⟨o, hd, hf⟩
    · simp [loadG, hd]
    · simp [loadG, hd, hf]
  rw [e, loadG_append, h2]
  rfl
theorem loadG_len : ∀ (rs : List (List UInt8)) (os os' : List Ob), loadG rs os = some os' → os'.length = os.length + rs.length
  | [], os, os', h => by simp [loadG] at h; subst h; rfl
  | r :: rs, os, os', h => by
    simp only [loadG] at h
    cases hd : decG r with
    | none => rw [hd] at h; cases h
    | some o =>
      rw [hd] at h
      simp only at h
      split at h
      · cases h
      · have := loadG_len rs _ _ h
        simp at this ⊢
        omega
theorem loadG_map : ∀ (rs : List (List UInt8)) (os os' : List Ob), (∀ r ∈ rs, r.length ≤ 549755813888) → loadG rs os = some os' → os'.map obB = os.map obB ++ rs
  | [], os, os', _, h => by simp [loadG] at h; subst h; simp
  | r :: rs, os, os', hr, h => by
    simp only [loadG] at h
    cases hd : decG r with
    | none => rw [hd] at h; cases h
    | some o =>
      rw [hd] at h
      simp only at h
      split at h
      · cases h
      · have := loadG_map rs _ _ (fun x hx => hr x (by simp [hx])) h
        rw [this]
        have := (decG_some hd (hr r (by simp))).2.2.1
        simp [this]
theorem three_cells {W : World} {n : Nat} {a b c : Value} {t : TypeId} (h : W.heap[n]? = some (.cells #[a, b, c] t)) : W.cell? ⟨n, 0, none⟩ = some a ∧ W.cell? ⟨n, 1, none⟩ = some b ∧ W.cell? ⟨n, 2, none⟩ = some c := by
  simp [World.cell?, h]
/-- a store just made -/
theorem StAt.new {w : World} {d j : Nat} {rs : List (List UInt8)} {sz : Nat} {cut : Bool} {FJ : Nat → Prop} (h : JAt w j d objNm rs sz cut FJ) :
    StAt ((w.alloc (.map #[] 0)).alloc (.cells #[.pointer (some ⟨j, 0, none⟩), .map (some w.heap.size), .slice none 0 0] 115)) (w.heap.size + 1) d j w.heap.size (.map []) (.slice none 0 0) rs [] sz cut FJ (fun _ => False) (fun k => FJ k ∨ k = w.heap.size + 1 ∨ k = w.heap.size) := by
  have hm := (World.ownsMap_made w Tryz.prog 31 rvO).alloc (.cells #[.pointer (some ⟨j, 0, none⟩), .map (some w.heap.size), .slice none 0 0] 115)
  have hlt := h.lt
  have hbk := World.alloc_heap_new (w.alloc (.map #[] 0)) (.cells #[.pointer (some ⟨j, 0, none⟩), .map (some w.heap.size), .slice none 0 0] 115)
  rw [World.size_alloc] at hbk
  exact
  { c0 := (three_cells hbk).1
    c1 := (three_cells hbk).2.1
    c2 := (three_cells hbk).2.2
    f2 := by simp
    jr := h.below (((Below.refl _ w).alloc (Nat.le_refl _) _).alloc (by simp) _)
    own := hm
    msz := rfl
    has := fun i => rfl
    ob := fun i o hi => by simp [findO] at hi
    row := World.ownsRow_nil _ _ _ _
    sb := by omega
    vo := by simp [Value.ownBlock]
    ns := ⟨fun e => by have := hlt _ e; omega, fun e => by have := hlt _ e; omega, id, id⟩
    oj := fun k hk => hk.elim
    fs := ⟨.inr (.inl rfl), .inr (.inr rfl)⟩
    fj := fun k hk => .inl hk
    fo := fun k hk => hk.elim
    lt := fun k hk => by
      simp
      rcases hk with hk | hk | hk
      · have := hlt k hk; omega
      · omega
      · omega
    good := by simp }
theorem keepsFrom_turn {X : Nat → Prop} {W W' : World} {B : Nat} (h : Turn X W W') (hX : ∀ k o, X k → B ≤ k → W.heap[k]? = some o → o.isCells = true) : KeepsFrom B W W' :=
  ⟨h.size, fun k o hB hk ho => (h.block k (Array.getElem?_eq_some_iff.1 hk).1 (fun hx => by rw [hX k o hx hB hk] at ho; cases ho)).trans hk⟩
/-- what stands while the records are read -/
def OpI (rs : List (List UInt8)) (sz d j mb s : Nat) (FJ : Nat → Prop) (w3 : World) (pre : List Rec) (W : World) : Prop :=
  (∃ os M v O F, loadG (rs.take pre.length) [] = some os ∧ StAt W s d j mb M v rs os sz false FJ O F ∧ ∀ k, F k → FJ k ∨ k = s ∨ k = mb ∨ (w3.heap.size ≤ k ∧ ∃ o : Obj, W.heap[k]? = some o ∧ o.isCells = true)) ∧ Turn (fun k => k = s ∨ k = mb) w3 W
theorem opI_own (rs : List (List UInt8)) (sz d j mb s : Nat) (FJ : Nat → Prop) (w3 : World) (hlt : ∀ k, (FJ k ∨ k = s ∨ k = mb) → k < w3.heap.size) : OwnFrom w3.heap.size (OpI rs sz d j mb s FJ w3) := by
  rintro pre X Y row ⟨⟨os, M, v, O, F, h1, h2, h3⟩, hT⟩ hg hr
  have hk : ∀ k, F k → Y.heap[k]? = X.heap[k]? := fun k hf => hg.block k (h2.lt k hf) (fun e => by
    obtain ⟨hB, o, ho, hc⟩ := hr k e.symm
    rcases h3 k hf with h | h | h | ⟨_, o', ho', hc'⟩
    · have := hlt k (.inl h); omega
    · have := hlt k (.inr (.inl h)); omega
    · have := hlt k (.inr (.inr h)); omega
    · rw [ho] at ho'; cases ho'; rw [hc] at hc'; cases hc')
  refine ⟨⟨os, M, v, O, F, h1, h2.kept hg.size hk, fun k hf => ?_⟩, ⟨hg.os.trans hT.os, hg.tape.trans hT.tape, hg.output.trans hT.output, Nat.le_trans hT.size hg.size, fun k hk hn => (hg.block k (Nat.lt_of_lt_of_le hk hT.size) (fun e => by have := (hr k e.symm).1; omega)).trans (hT.block k hk hn)⟩⟩
  · rcases h3 k hf with h | h | h | ⟨hl, o', ho', hc'⟩
    · exact .inl h
    · exact .inr (.inl h)
    · exact .inr (.inr (.inl h))
    · exact .inr (.inr (.inr ⟨hl, o', (hk k hf).trans ho', hc'⟩))
/-- what lies behind Open -/
def SOpened (w w' : World) (d : Nat) (S : DG) (G : Nat → Prop) (e : Ending) : Prop :=
  Turn G w w' ∧ ∃ G', IsDisk w' d (S.opened objNm.data.toList).1 G' ∧ (∀ k, G' k → G k ∨ w.heap.size ≤ k) ∧
    (((S.opened objNm.data.toList).2 ≠ 0 ∧ e = .returned (.tuple #[.pointer none, .int .i64 (S.opened objNm.data.toList).2])) ∨
     ((S.opened objNm.data.toList).2 = 0 ∧ loadG (parseL (S.bs objNm.data.toList)).1 [] = none ∧ e = .returned (.tuple #[.pointer none, .int .i64 8])) ∨
     ((S.opened objNm.data.toList).2 = 0 ∧ ∃ os, loadG (parseL (S.bs objNm.data.toList)).1 [] = some os ∧ 65536 < os.length ∧ e = .returned (.tuple #[.pointer none, .int .i64 3])) ∨
     ((S.opened objNm.data.toList).2 = 0 ∧ ∃ os s F, loadG (parseL (S.bs objNm.data.toList)).1 [] = some os ∧ os.length ≤ 65536 ∧ e = .returned (.tuple #[.pointer (some ⟨s, 0, none⟩), .int .i64 0]) ∧ IsSt w' s d os (parseL (S.bs objNm.data.toList)).2.1 false F ∧ (∀ k, F k → w.heap.size ≤ k) ∧ (∀ k, F k → ¬ G' k)))

set_option maxRecDepth 100000 in
set_option maxHeartbeats 4000000 in
theorem sopen_any (w : World) (d : Nat) (S : DG) (G : Nat → Prop) (hd : IsDisk w d S G) (hbig : (S.bs objNm.data.toList).length ≤ 4194304) (hw : S.wr < 4611686018427387904) (hn : S.n < maxLen) :
    Calls Tryz.prog 33 #[.pointer (some ⟨d, 0, none⟩)] w fun e w' => SOpened w w' d S G e := by
  obtain ⟨w0, hw0⟩ : ∃ w0, w0 = (w.alloc (.cells #[.pointer none] 35)).alloc (.cells #[.int .i64 0] 32) := ⟨_, rfl⟩
  have hB0 : Below w.heap.size w w0 := by rw [hw0]; exact ((Below.refl _ w).alloc (Nat.le_refl _) _).alloc (by simp) _
  have hs0 : w0.heap.size = w.heap.size + 2 := by rw [hw0]; simp
  have bR0 : Boxed w0 w.heap.size 35 (.pointer none) := by rw [hw0]; exact (Boxed.new w _ _).alloc _
  have bE0 : Boxed w0 (w.heap.size + 1) 32 (.int .i64 0) := by
    have := Boxed.new (w.alloc (.cells #[.pointer none] 35)) 32 (.int .i64 0)
    rw [World.size_alloc] at this
    rw [hw0]; exact this
  have hx := jopen_any w0 d S G objNm (hd.below hB0) (by simp [objNm, ByteArray.size, maxLen]) hbig hw hn
  have hmx : Tryz.prog.follows .mixedOrders = true := by kernel_rfl
  refine (callsIn_wide (n := 5)).1 ?_
  refine callsIn_of_wp_marks Tryz.func33 rfl trivial ?_ rfl
  simp only [Tryz.ntmps33, List.size_toArray, List.length_cons, List.length_nil, Nat.reduceAdd, Nat.reduceSub, Array.replicate_succ, Array.replicate_zero, List.push_toArray, List.append_toArray, List.nil_append, List.cons_append]
  refine wpIn_wide.2 ?_
  have HD : Hid (IsDisk w d S G) := hd
  clear hd
  unfold objNm at hx
  go_wp2_with fail
  rw [← hw0]
  refine hx.mono ?_
  clear hx
  rintro e w1 ⟨hT1, G', hd1, hG', hcase⟩
  have hGlt : ∀ k, G k → k < w.heap.size := fun k hk => HD.out.lt k hk
  have bR1 : Boxed w1 w.heap.size 35 (.pointer none) := (hT1.block _ bR0.lt (fun hg => by have := hGlt _ hg; omega)).trans bR0
  have bE1 : Boxed w1 (w.heap.size + 1) 32 (.int .i64 0) := (hT1.block _ bE0.lt (fun hg => by have := hGlt _ hg; omega)).trans bE0
  have HT1 : Hid (Turn G w w1) := (Turn.of_below G hB0).trans hT1 (fun _ _ h => h)
  have hs1 := hT1.size
  have hcR := bR1.cell
  have hfR := bR1.frozen
  have hcE := bE1.cell
  have hfE := bE1.frozen
  rcases hcase with ⟨hne, rfl⟩ | ⟨h0, j, FJ, rfl, hJ, hFJ, hFG⟩
  · obtain ⟨er, her⟩ : ∃ er, er = (S.opened objNm.data.toList).2 := ⟨_, rfl⟩
    have HER : Hid (er = (S.opened objNm.data.toList).2 ∧ er ≠ 0) := ⟨her, by rw [her]; exact hne⟩
    have e1 : (er == 0) = false := by simp; rw [her]; exact hne
    have e2 : (er != 0) = true := by simp; rw [her]; exact hne
    have hEq : (S.opened [111, 98, 106, 101, 99, 116, 115]).2 = er := her.symm
    rw [show ({ data := #[111, 98, 106, 101, 99, 116, 115] } : ByteArray).data.toList = [111, 98, 106, 101, 99, 116, 115] from rfl, hEq]
    clear hEq her hne
    have HGn : Hid (∀ k, G' k → (k = w.heap.size ∨ k = w.heap.size + 1) → False) := fun k hk e => by
      rcases hG' k hk with h | h
      · have := hGlt k h; omega
      · omega
    have HG : Hid (IsDisk w1 d (S.opened objNm.data.toList).1 G' ∧ ∀ k, G' k → G k ∨ w.heap.size ≤ k) := ⟨hd1, fun k hk => (hG' k hk).imp id (fun e => by omega)⟩
    clear hd1 hG' hT1 hB0 bR0 bE0 hw0
    go_wp2
    have bR2 := (bR1.set (.pointer none)).other (B' := w.heap.size + 1) (by omega) (.int .i64 er)
    have bE2 := (bE1.other (B' := w.heap.size) (by omega) (.pointer none)).set (.int .i64 er)
    have k1 := bR2.cell
    have k2 := bE2.cell
    refine sret_m (v := .tuple #[.pointer none, .int .i64 er]) (by simp [results, Tryz.results33, go_sem, k1, k2]) ?_
    have hT2 : Turn (fun k => k = w.heap.size ∨ k = w.heap.size + 1) w1 ((w1.setCell ⟨w.heap.size, 0, none⟩ (.pointer none)).setCell ⟨w.heap.size + 1, 0, none⟩ (.int .i64 er)) :=
      ((turn_setCell w1 w.heap.size 0 (.pointer none)).wide (fun k e => .inl e)).trans (turn_setCell _ (w.heap.size + 1) 0 (.int .i64 er)) (fun i _ e => .inr e)
    refine ⟨HT1.out.trans hT2 (fun i hi e => by omega), G', HG.out.1.turn hT2 (fun k hk e => (HGn.out k hk e).elim), HG.out.2, .inl ⟨by rw [← HER.out.1]; exact HER.out.2, by rw [← HER.out.1]⟩⟩
  · have hmm := @run_makeMap Tryz.prog
    have HJ : Hid (JAt w1 j d objNm (parseL (S.bs objNm.data.toList)).1 (parseL (S.bs objNm.data.toList)).2.1 false FJ ∧ (∀ k, FJ k → w0.heap.size ≤ k) ∧ ∀ k, FJ k → ¬ G' k) := ⟨hJ, hFJ, hFG⟩
    clear hJ hFJ hFG
    go_wp2_with fail
    refine (each_any _ _).mono ?_
    rintro e w' ⟨rfl, rfl⟩
    go_wp2_with fail
    obtain ⟨w3, hw3⟩ : ∃ w3, w3 = (((w1.alloc (.map #[] 0)).alloc (.cells #[.pointer (some ⟨j, 0, none⟩), .map (some w1.heap.size), .slice none 0 0] 115)).alloc (.cells #[.pointer (some ⟨w1.heap.size + 1, 0, none⟩)] 35)).alloc (.cells #[.pointer (some ⟨j, 0, none⟩)] 110) := ⟨_, rfl⟩
    obtain ⟨rs, hrs⟩ : ∃ rs, rs = (parseL (S.bs objNm.data.toList)).1 := ⟨_, rfl⟩
    obtain ⟨sz, hsz⟩ : ∃ sz, sz = (parseL (S.bs objNm.data.toList)).2.1 := ⟨_, rfl⟩
    rw [← hrs, ← hsz] at HJ
    have hS2 := StAt.new HJ.out.1
    have hS3 : StAt w3 (w1.heap.size + 1) d j w1.heap.size (.map []) (.slice none 0 0) rs [] sz false FJ (fun _ => False) (fun k => FJ k ∨ k = w1.heap.size + 1 ∨ k = w1.heap.size) := by
      rw [hw3]; exact hS2.below (((Below.refl _ _).alloc (Nat.le_refl _) _).alloc (by simp) _)
    have hs3 : w3.heap.size = w1.heap.size + 4 := by rw [hw3]; simp
    have hB13 : Below w1.heap.size w1 w3 := by rw [hw3]; exact ((((Below.refl _ w1).alloc (Nat.le_refl _) _).alloc (by simp) _).alloc (by simp only [World.size_alloc]; omega) _).alloc (by simp only [World.size_alloc]; omega) _
    have bS3 : Boxed w3 (w1.heap.size + 2) 35 (.pointer (some ⟨w1.heap.size + 1, 0, none⟩)) := by
      have := (Boxed.new ((w1.alloc (.map #[] 0)).alloc (.cells #[.pointer (some ⟨j, 0, none⟩), .map (some w1.heap.size), .slice none 0 0] 115)) 35 (.pointer (some ⟨w1.heap.size + 1, 0, none⟩))).alloc (.cells #[.pointer (some ⟨j, 0, none⟩)] 110)
      rw [World.size_alloc, World.size_alloc] at this
      rw [hw3]; exact this
    have bB3 : Boxed w3 (w1.heap.size + 3) 110 (.pointer (some ⟨j, 0, none⟩)) := by
      have := Boxed.new (((w1.alloc (.map #[] 0)).alloc (.cells #[.pointer (some ⟨j, 0, none⟩), .map (some w1.heap.size), .slice none 0 0] 115)).alloc (.cells #[.pointer (some ⟨w1.heap.size + 1, 0, none⟩)] 35)) 110 (.pointer (some ⟨j, 0, none⟩))
      rw [World.size_alloc, World.size_alloc, World.size_alloc] at this
      rw [hw3]; exact this
    have bR3 : Boxed w3 w.heap.size 35 (.pointer none) := (hB13.block _ bR1.lt).trans bR1
    have bE3 : Boxed w3 (w.heap.size + 1) 32 (.int .i64 0) := (hB13.block _ bE1.lt).trans bE1
    have hrl : ∀ r ∈ rs, r.length ≤ 549755813888 := by
      intro r hr
      have h1 := HJ.out.1.cnt
      have h2 := HJ.out.1.small
      have h3 : r.length ≤ rs.flatten.length := by
        obtain ⟨a, b, e⟩ := List.append_of_mem hr
        rw [e]; simp; omega
      omega
    have hcount : rs.length ≤ 4194304 := by have h1 := HJ.out.1.cnt; have h2 := HJ.out.1.small; omega
    have hjlt : ∀ k, (FJ k ∨ k = w1.heap.size + 1 ∨ k = w1.heap.size) → k < w3.heap.size := fun k hk => by
      rcases hk with hk | hk | hk
      · have := HJ.out.1.lt k hk; omega
      · omega
      · omega
    have HREL : Hid (rs = (parseL (S.bs objNm.data.toList)).1 ∧ sz = (parseL (S.bs objNm.data.toList)).2.1) := ⟨hrs, hsz⟩
    have HG : Hid (IsDisk w1 d (S.opened objNm.data.toList).1 G' ∧ (∀ k, G' k → G k ∨ w.heap.size ≤ k) ∧ (S.opened objNm.data.toList).2 = 0 ∧ ∀ k, G' k → k ≠ w.heap.size ∧ k ≠ w.heap.size + 1) := ⟨hd1, fun k hk => (hG' k hk).imp id (fun e => by omega), h0, fun k hk => (hG' k hk).elim (fun e => by have := hGlt k e; omega) (fun e => by omega)⟩
    have HEND : Hid (∀ Z, Turn (fun k => k = w1.heap.size + 1 ∨ k = w1.heap.size ∨ k = w.heap.size ∨ k = w.heap.size + 1) w3 Z → Turn G w Z ∧ IsDisk Z d (S.opened objNm.data.toList).1 G') := fun Z hZ =>
      ⟨(HT1.out.trans (Turn.of_below G hB13) (fun _ _ h => h)).trans hZ (fun i hi e => by omega), (HG.out.1.below hB13).turn hZ (fun k hk e => by have := HG.out.1.lt k hk; have := HG.out.2.2.2 k hk; omega)⟩
    rw [← hw3]
    clear hw3 hrs hsz hd1 hG' h0 hcR hfR hcE hfE hw0 bR0 bE0 hmm
    refine (wpIn_wide (n := 5)).1 ?_
    refine range_both (w := w3) rfl (by omega) (gf := 70) (lb := #[.pointer (some ⟨w1.heap.size + 1 + 1 + 1, 0, none⟩)]) rfl trivial (enters_of Tryz.func70 (by kernel_rfl) rfl)
      (each_tellsB w3 j d objNm rs sz false FJ hS3.jr (w1.heap.size + 1 + 1 + 1) bB3.cell 4 (by omega)) (fun _ => rfl) (fun k hk => hk.elim (fun h => hjlt k (.inl h)) (fun e => by omega))
      (OpI rs sz d j w1.heap.size (w1.heap.size + 1) FJ w3)
      (fun c _ W => c = .ret ∧ loadG rs [] = none ∧ Boxed W w.heap.size 35 (.pointer none) ∧ Boxed W (w.heap.size + 1) 32 (.int .i64 8) ∧ Turn (fun k => k = w1.heap.size + 1 ∨ k = w1.heap.size ∨ k = w.heap.size ∨ k = w.heap.size + 1) w3 W)
      (opI_own rs sz d j w1.heap.size (w1.heap.size + 1) FJ w3 hjlt) ?ix ?px ⟨⟨[], _, _, _, _, rfl, hS3, fun k hk => by rcases hk with h | h | h; exact .inl h; exact .inr (.inl h); exact .inr (.inr (.inl h))⟩, Turn.refl _ _⟩
      (fun x => { tmps := #[.pointer (some ⟨d, 0, none⟩), undef, .pointer (some ⟨w.heap.size, 0, none⟩), .pointer (some ⟨w.heap.size + 1, 0, none⟩), .pointer (some ⟨j, 0, none⟩), .int .i64 0, .pointer (some ⟨w1.heap.size + 1 + 1, 0, none⟩), undef, .slice x.a x.l.length x.c, .tuple #[.pointer (some ⟨j, 0, none⟩), .int .i64 0], .pointer (some ⟨d, 0, none⟩), .tuple #[.pointer (some ⟨j, 0, none⟩), .int .i64 0], .pointer (some ⟨j, 0, none⟩), .int .i64 0, .int .i64 0, .bool false, undef, .pointer (some ⟨j, 0, none⟩), .map (some w1.heap.size), .agg #[.pointer (some ⟨j, 0, none⟩), .map (some w1.heap.size), .slice none 0 0], .pointer (some ⟨w1.heap.size + 1, 0, none⟩), .pointer (some ⟨j, 0, none⟩), .func (.func 70) #[] #[.pointer (some ⟨w1.heap.size + 1 + 1 + 1, 0, none⟩)], .int .i64 (x.k : Int), .slice x.a x.l.length x.c, undef, undef, undef, undef, undef, undef, undef, undef, undef, undef, undef], defers := [] }) ?assign ?body ?done ?stop
    case ix =>
      rintro c pre X Y row ⟨h1, h2, h3, h4, hT⟩ hg hr
      refine ⟨h1, h2, h3.kept hg (fun e => ?_), h4.kept hg (fun e => ?_), ⟨hg.os.trans hT.os, hg.tape.trans hT.tape, hg.output.trans hT.output, Nat.le_trans hT.size hg.size, fun k hk hn => (hg.block k (Nat.lt_of_lt_of_le hk hT.size) (fun e => by have := (hr k e.symm).1; omega)).trans (hT.block k hk hn)⟩⟩
      · have := (hr _ e.symm).1; omega
      · have := (hr _ e.symm).1; omega
    case px =>
      intro pre x s X Y row hs hg hr
      exact ⟨hs.1, hs.2.1, hs.2.2.1, hs.2.2.2.1, fun h0 => by
        obtain ⟨b, off, e, hc⟩ := hs.2.2.2.2 h0
        exact ⟨b, off, e, fun i hi => cell_kept (hc i hi) hg (fun r e => (hr r e).2)⟩⟩
    case assign =>
      intro l x W K hK
      gi_wp2
      exact hK
    case body =>
      rintro l pre ⟨k, lx, ax, cx⟩ W hl3 ⟨⟨os, M, v, O, F, hld, hSt, hF⟩, hTW⟩ ⟨hxk, hxlt, hxl, hxb⟩
      simp only at hxk hxlt hxl hxb ⊢
      have hlen := loadG_len _ _ _ hld
      rw [List.length_take] at hlen
      simp only [List.length_nil] at hlen
      have hlb := hxb.1
      have hlm : lx.length ≤ 549755813888 := by
        rw [hxl]; exact hrl _ (List.mem_of_getElem? (rc_get rs k hxlt))
      have hB3n : w1.heap.size + 2 ≠ w1.heap.size + 1 ∧ w1.heap.size + 2 ≠ w1.heap.size := by omega
      have cS := (Turn.cell hTW bS3.cell (by simp only; omega))
      have bRW : Boxed W w.heap.size 35 (.pointer none) := (hTW.block _ bR3.lt (by omega)).trans bR3
      have bEW : Boxed W (w.heap.size + 1) 32 (.int .i64 0) := (hTW.block _ bE3.lt (by omega)).trans bE3
      have HBX : Hid (∀ W', Below W.heap.size W W' → Boxed W' w.heap.size 35 (.pointer none) ∧ Boxed W' (w.heap.size + 1) 32 (.int .i64 0)) := fun W' hB => ⟨(hB.block _ bRW.lt).trans bRW, (hB.block _ bEW.lt).trans bEW⟩
      have hpl : pre.length ≤ rs.length := by omega
      rw [← hxk] at hld hlen
      cases hdec : decG lx with
      | none =>
        have HNo : Hid (loadG rs [] = none) := loadG_none hld hxlt (.inl (by rw [← hxl]; exact hdec))
        have hx := read_no W (w1.heap.size + 1) ax lx.length cx lx hxb hlm hdec
        have HTW : Hid (Turn (fun k => k = w1.heap.size + 1 ∨ k = w1.heap.size) w3 W) := hTW
        clear hSt hF hld hlen hTW hdec hxb hxl bRW bEW
        gi_wp2_with (refine ⟨trivial, ?_⟩; gi_at_call 51; refine (callsIn_wide.2 hx).mono ?_; clear hx; rintro e W1 ⟨rfl, hB1⟩; obtain ⟨bR, bE⟩ := HBX.out W1 hB1; have cR := bR.cell; have fR := bR.frozen; have cE := bE.cell; have fE := bE.frozen)
        have hT2 : Turn (fun k => k = w.heap.size ∨ k = w.heap.size + 1) W ((W1.setCell ⟨w.heap.size, 0, none⟩ (.pointer none)).setCell ⟨w.heap.size + 1, 0, none⟩ (.int .i64 8)) :=
          (Turn.of_below _ hB1).trans (((turn_setCell W1 w.heap.size 0 (.pointer none)).wide (fun k e => .inl e)).trans (turn_setCell _ (w.heap.size + 1) 0 (.int .i64 8)) (fun i _ e => .inr e)) (fun _ _ e => e)
        exact ⟨keepsFrom_turn hT2 (fun k o hk hB _ => by omega), rfl, HNo.out, (bR.set (.pointer none)).other (by omega) _, (bE.other (by omega) _).set _, (HTW.out.wide (fun k e => e.elim .inl (fun e => .inr (.inl e)))).trans hT2 (fun i _ e => e.elim (fun e => .inr (.inr (.inl e))) (fun e => .inr (.inr (.inr e))))⟩
      | some o =>
        have HTW : Hid (Turn (fun k => k = w1.heap.size + 1 ∨ k = w1.heap.size) w3 W) := hTW
        by_cases hfo : (findO os (oid o)).isSome = true
        · have HNo : Hid (loadG rs [] = none) := loadG_none hld hxlt (.inr ⟨o, by rw [← hxl]; exact hdec, hfo⟩)
          have hx := read_twice W (w1.heap.size + 1) d j w1.heap.size M v rs os sz false FJ O F hSt ax lx.length cx lx hxb hlm o hdec hfo
          clear hSt hF hld hlen hTW hdec hxb hxl bRW bEW hfo
          gi_wp2_with (refine ⟨trivial, ?_⟩; gi_at_call 51; refine (callsIn_wide.2 hx).mono ?_; clear hx; rintro e W1 ⟨rfl, hB1⟩; obtain ⟨bR, bE⟩ := HBX.out W1 hB1; have cR := bR.cell; have fR := bR.frozen; have cE := bE.cell; have fE := bE.frozen)
          have hT2 : Turn (fun k => k = w.heap.size ∨ k = w.heap.size + 1) W ((W1.setCell ⟨w.heap.size, 0, none⟩ (.pointer none)).setCell ⟨w.heap.size + 1, 0, none⟩ (.int .i64 8)) :=
            (Turn.of_below _ hB1).trans (((turn_setCell W1 w.heap.size 0 (.pointer none)).wide (fun k e => .inl e)).trans (turn_setCell _ (w.heap.size + 1) 0 (.int .i64 8)) (fun i _ e => .inr e)) (fun _ _ e => e)
          exact ⟨keepsFrom_turn hT2 (fun k o hk hB _ => by omega), rfl, HNo.out, (bR.set (.pointer none)).other (by omega) _, (bE.other (by omega) _).set _, (HTW.out.wide (fun k e => e.elim .inl (fun e => .inr (.inl e)))).trans hT2 (fun i _ e => e.elim (fun e => .inr (.inr (.inl e))) (fun e => .inr (.inr (.inr e))))⟩
        · have hfn : findO os (oid o) = none := by cases h : findO os (oid o) with | none => rfl | some _ => rw [h] at hfo; exact absurd rfl hfo
          have hx := read_yes W (w1.heap.size + 1) d j w1.heap.size M v rs os sz false FJ O F hSt ax lx.length cx lx hxb hlm o hdec hfn (by omega)
          have HL : Hid (loadG (rs.take (k + 1)) [] = some (os ++ [o])) := loadG_next hld hxlt o (by rw [← hxl]; exact hdec) hfn
          have HSt : Hid (StAt W (w1.heap.size + 1) d j w1.heap.size M v rs os sz false FJ O F ∧ (∀ k, F k → FJ k ∨ k = w1.heap.size + 1 ∨ k = w1.heap.size ∨ (w3.heap.size ≤ k ∧ ∃ o : Obj, W.heap[k]? = some o ∧ o.isCells = true))) := ⟨hSt, hF⟩
          have HK : Hid (k = pre.length) := hxk
          clear hSt hF hld hlen hTW hdec hxb hxl bRW bEW hfo hfn hxk
          gi_wp2_with (refine ⟨trivial, ?_⟩; gi_at_call 51; refine (callsIn_wide.2 hx).mono ?_; clear hx; rintro e W1 ⟨rfl, Wm, hBm, hKept⟩; have HKp : Hid (Below W.heap.size W Wm ∧ KeptO Wm W1 (w1.heap.size + 1) d j w1.heap.size v rs os o sz false FJ O (Fresh W.heap.size Wm) F) := ⟨hBm, hKept⟩; clear hBm hKept)
          obtain ⟨hBm, hT4, M', v', hS4, hv'⟩ := HKp.out
          obtain ⟨hSt, hF⟩ := HSt.out
          have hvc : ∀ g, v.ownBlock = some g → ∃ o : Obj, W.heap[g]? = some o ∧ o.isCells = true := fun g hg => by
            obtain ⟨_, _, cur, hc⟩ := row_block hSt.row g hg
            exact ⟨_, hc, rfl⟩
          have hTT : Turn (fun k => k = w1.heap.size + 1 ∨ k = w1.heap.size ∨ v.ownBlock = some k) W W1 := (Turn.of_below _ hBm).trans hT4 (fun _ _ e => e)
          have hvhi : ∀ g, v.ownBlock = some g → w3.heap.size ≤ g := fun g hg => by
            have h1 := hSt.vo g hg
            rcases hF g h1.2.2.2.2 with h | h | h | h
            · exact absurd h h1.2.2.1
            · exact absurd h h1.1
            · exact absurd h h1.2.1
            · exact h.1
          have hsW := HTW.out.size
          have hsm := hBm.size
          refine ⟨keepsFrom_turn hTT (fun q o' hq hB ho => ?_), ⟨hTT.size, fun q hq => hTT.block q ?_ ?_⟩, ⟨os ++ [o], M', v', _, _, by rw [List.length_append, ← HK.out]; exact HL.out, hS4, fun q hq => ?_⟩, HTW.out.trans hTT (fun q hq e => ?_)⟩
          · rcases hq with e | e | e
            · omega
            · omega
            · obtain ⟨o2, ho2, hc2⟩ := hvc q e
              rw [ho] at ho2; cases ho2; exact hc2
          · rcases hq with e | e
            · have := hjlt q (.inl e); omega
            · omega
          · rintro (e | e | e)
            · rcases hq with h | h
              · subst e; exact hSt.ns.1 h
              · omega
            · rcases hq with h | h
              · subst e; exact hSt.ns.2.1 h
              · omega
            · rcases hq with h | h
              · exact (hSt.vo q e).2.2.1 h
              · have := hvhi q e; omega
          · rcases hq with ⟨hq, hqv⟩ | hq | hq
            · rcases hF q hq with h | h | h | ⟨hl, o1, ho1, hc1⟩
              · exact .inl h
              · exact .inr (.inl h)
              · exact .inr (.inr (.inl h))
              · exact .inr (.inr (.inr ⟨hl, o1, (hTT.block q (Array.getElem?_eq_some_iff.1 ho1).1 (by rintro (h | h | h); omega; omega; exact hqv h)).trans ho1, hc1⟩))
            · obtain ⟨hq1, o1, ho1, hc1⟩ := hq
              refine .inr (.inr (.inr ⟨by omega, o1, (hT4.block q (Array.getElem?_eq_some_iff.1 ho1).1 ?_).trans ho1, hc1⟩))
              rintro (h | h | h)
              · omega
              · omega
              · have := hSt.lt q (hSt.vo q h).2.2.2.2; omega
            · rcases hv' q hq with h | h
              · exact .inr (.inr (.inr ⟨hvhi q h, by obtain ⟨_, _, cur, hc⟩ := row_block hS4.row q hq; exact ⟨_, hc, rfl⟩⟩))
              · exact .inr (.inr (.inr ⟨by omega, h.2⟩))
          · rcases e with e | e | e
            · exact .inl e
            · exact .inr e
            · have := hvhi q e; omega
    case done =>
      rintro D xs W hD hS ⟨⟨os, M, v, O, F, hld, hSt, hF⟩, hTW⟩ hK
      have hxl : xs.length = rs.length := hS.1
      rw [hxl, List.take_length] at hld
      have cS := (Turn.cell hTW bS3.cell (by simp only; omega))
      have bRW : Boxed W w.heap.size 35 (.pointer none) := (hTW.block _ bR3.lt (by omega)).trans bR3
      have bEW : Boxed W (w.heap.size + 1) 32 (.int .i64 0) := (hTW.block _ bE3.lt (by omega)).trans bE3
      have cR := bRW.cell
      have fR := bRW.frozen
      have cE := bEW.cell
      have fE := bEW.frozen
      have c2 := hSt.c2
      obtain ⟨ad, cp, rfl, _⟩ := row_shape hSt.row
      have H : Hid (loadG rs [] = some os ∧ StAt W (w1.heap.size + 1) d j w1.heap.size M (.slice ad os.length cp) rs os sz false FJ O F ∧ (∀ k, F k → FJ k ∨ k = w1.heap.size + 1 ∨ k = w1.heap.size ∨ (w3.heap.size ≤ k ∧ ∃ o : Obj, W.heap[k]? = some o ∧ o.isCells = true)) ∧ Turn (fun k => k = w1.heap.size + 1 ∨ k = w1.heap.size) w3 W ∧ W.heap[D]? = some (.deferred (some [])) ∧ w3.heap.size ≤ D) := ⟨hld, hSt, hF, hTW, hK, hD⟩
      have HB : Hid (Boxed W w.heap.size 35 (.pointer none) ∧ Boxed W (w.heap.size + 1) 32 (.int .i64 0)) := ⟨bRW, bEW⟩
      have hN0 : os.length = rs.length := by have := loadG_len _ _ _ hld; simpa using this
      generalize hN : os.length = N at *
      clear hld hSt hF hTW hK hD hS hxl bRW bEW
      by_cases hbig' : 65536 < N
      · have i1 : (65536 : Int) < (N : Int) := by omega
        go_wp2_with fail
        have bR2 := (HB.out.1.set (.pointer none)).other (B' := w.heap.size + 1) (by omega) (.int .i64 3)
        have bE2 := (HB.out.2.other (B' := w.heap.size) (by omega) (.pointer none)).set (.int .i64 3)
        obtain ⟨hld, hSt, hF, hTW, hK, hD⟩ := H.out
        have hK2 : ((W.setCell ⟨w.heap.size, 0, none⟩ (.pointer none)).setCell ⟨w.heap.size + 1, 0, none⟩ (.int .i64 3)).heap[D]? = some (.deferred (some [])) := by
          rw [Below.heap_setCell _ _ _ _ (by show D ≠ w.heap.size + 1; omega), Below.heap_setCell _ _ _ _ (by show D ≠ w.heap.size; omega)]; exact hK
        have k1 := (bR2.kept (grownBy_putObj' _ D (.deferred none)) (by simp; omega)).cell
        have k2 := (bE2.kept (grownBy_putObj' _ D (.deferred none)) (by simp; omega)).cell
        have hT2 : Turn (fun k => k = w1.heap.size + 1 ∨ k = w1.heap.size ∨ k = w.heap.size ∨ k = w.heap.size + 1) w3 ((W.setCell ⟨w.heap.size, 0, none⟩ (.pointer none)).setCell ⟨w.heap.size + 1, 0, none⟩ (.int .i64 3)) :=
          ((hTW.wide (fun k e => e.elim .inl (fun e => .inr (.inl e)))).trans (turn_setCell W w.heap.size 0 (.pointer none)) (fun i _ e => .inr (.inr (.inl e)))).trans (turn_setCell _ (w.heap.size + 1) 0 (.int .i64 3)) (fun i _ e => .inr (.inr (.inr e)))
        have hE := HEND.out _ (turn_put (.deferred none) hT2 hD)
        refine sfin_m (v := .tuple #[.pointer none, .int .i64 3]) hK2 (by simp [results, Tryz.results33, go_sem, k1, k2]) ⟨hE.1, G', hE.2, HG.out.2.1, .inr (.inr (.inl ⟨HG.out.2.2.1, os, by rw [← HREL.out.1]; exact hld, by omega, rfl⟩))⟩
      · have i1 : ¬ (65536 : Int) < (N : Int) := by omega
        go_wp2_with fail
        have bR2 := (HB.out.1.set (.pointer (some ⟨w1.heap.size + 1, 0, none⟩))).other (B' := w.heap.size + 1) (by omega) (.int .i64 0)
        have bE2 := (HB.out.2.other (B' := w.heap.size) (by omega) (.pointer (some ⟨w1.heap.size + 1, 0, none⟩))).set (.int .i64 0)
        obtain ⟨hld, hSt, hF, hTW, hK, hD⟩ := H.out
        have hK2 : ((W.setCell ⟨w.heap.size, 0, none⟩ (.pointer (some ⟨w1.heap.size + 1, 0, none⟩))).setCell ⟨w.heap.size + 1, 0, none⟩ (.int .i64 0)).heap[D]? = some (.deferred (some [])) := by
          rw [Below.heap_setCell _ _ _ _ (by show D ≠ w.heap.size + 1; omega), Below.heap_setCell _ _ _ _ (by show D ≠ w.heap.size; omega)]; exact hK
        have k1 := (bR2.kept (grownBy_putObj' _ D (.deferred none)) (by simp; omega)).cell
        have k2 := (bE2.kept (grownBy_putObj' _ D (.deferred none)) (by simp; omega)).cell
        have hT2 : Turn (fun k => k = w1.heap.size + 1 ∨ k = w1.heap.size ∨ k = w.heap.size ∨ k = w.heap.size + 1) w3 ((W.setCell ⟨w.heap.size, 0, none⟩ (.pointer (some ⟨w1.heap.size + 1, 0, none⟩))).setCell ⟨w.heap.size + 1, 0, none⟩ (.int .i64 0)) :=
          ((hTW.wide (fun k e => e.elim .inl (fun e => .inr (.inl e)))).trans (turn_setCell W w.heap.size 0 (.pointer (some ⟨w1.heap.size + 1, 0, none⟩))) (fun i _ e => .inr (.inr (.inl e)))).trans (turn_setCell _ (w.heap.size + 1) 0 (.int .i64 0)) (fun i _ e => .inr (.inr (.inr e)))
        have hE := HEND.out _ (turn_put (.deferred none) hT2 hD)
        refine sfin_m (v := .tuple #[.pointer (some ⟨w1.heap.size + 1, 0, none⟩), .int .i64 0]) hK2 (by simp [results, Tryz.results33, go_sem, k1, k2]) ⟨hE.1, G', hE.2, HG.out.2.1, .inr (.inr (.inr ⟨HG.out.2.2.1, os, w1.heap.size + 1, F, by rw [← HREL.out.1]; exact hld, by omega, rfl, ?_, ?_, ?_⟩))⟩
        · rw [← HREL.out.2]
          have hmap := loadG_map rs [] os hrl hld
          simp only [List.map_nil, List.nil_append] at hmap
          rw [← hmap] at hSt
          refine ⟨_, _, _, _, _, _, hSt.kept (by simp) fun k hk => ?_⟩
          have hkD : k ≠ D := fun e => by
            subst e
            rcases hF k hk with h | h | h | ⟨_, o1, ho1, hc1⟩
            · have := hjlt k (.inl h); omega
            · omega
            · omega
            · rw [hK] at ho1; cases ho1; cases hc1
          have hkR : k ≠ w.heap.size ∧ k ≠ w.heap.size + 1 := by
            rcases hF k hk with h | h | h | ⟨h, _⟩
            · have := HJ.out.2.1 k h; omega
            · omega
            · omega
            · omega
          rw [World.putObj_heap_other (by exact hkD), Below.heap_setCell _ _ _ _ (by exact hkR.2), Below.heap_setCell _ _ _ _ (by exact hkR.1)]
        · intro k hk
          rcases hF k hk with h | h | h | ⟨h, _⟩
          · have := HJ.out.2.1 k h; omega
          · omega
          · omega
          · omega
        · intro k hk hg
          have hgl := HG.out.1.lt k hg
          rcases hF k hk with h | h | h | ⟨h, _⟩
          · exact HJ.out.2.2 k h hg
          · omega
          · omega
          · omega
    case stop =>
      rintro D c pre W hD ⟨rfl, hno, bR, bE, hTW⟩ hK
      have H : Hid (loadG rs [] = none ∧ Boxed W w.heap.size 35 (.pointer none) ∧ Boxed W (w.heap.size + 1) 32 (.int .i64 8) ∧ Turn (fun k => k = w1.heap.size + 1 ∨ k = w1.heap.size ∨ k = w.heap.size ∨ k = w.heap.size + 1) w3 W ∧ W.heap[D]? = some (.deferred (some [])) ∧ w3.heap.size ≤ D) := ⟨hno, bR, bE, hTW, hK, hD⟩
      clear hno bR bE hTW hK hD
      gi_wp2
      go_wp2_with fail
      obtain ⟨hno, bR, bE, hTW, hK, hD⟩ := H.out
      have k1 := (bR.kept (grownBy_putObj' _ D (.deferred none)) (by simp; omega)).cell
      have k2 := (bE.kept (grownBy_putObj' _ D (.deferred none)) (by simp; omega)).cell
      have hE := HEND.out _ (turn_put (.deferred none) hTW hD)
      exact sfin_m (v := .tuple #[.pointer none, .int .i64 8]) hK (by simp [results, Tryz.results33, go_sem, k1, k2]) ⟨hE.1, G', hE.2, HG.out.2.1, .inr (.inl ⟨HG.out.2.2.1, by rw [← HREL.out.1]; exact hno, rfl⟩)⟩
end Go.Proofs.YtncagdfbgpdhfaaGreat
