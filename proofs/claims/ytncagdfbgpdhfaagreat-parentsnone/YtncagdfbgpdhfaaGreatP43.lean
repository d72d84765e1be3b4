import Derived.Test.YtncagdfbgpdhfaaGreatP42
import Derived.Test.YtncagdfbgpdhfaaGreatP40
/- The walk of spread where there is no order. -/
namespace Go.Proofs.YtncagdfbgpdhfaaGreat
open Go.RowKit Go.Shelf Go.Maps

attribute [local go_sem] Oper.semAt_some

theorem histE_ret {k j : Nat} {f : Func} {W : World} {p q : Nat} {u0 u1 v : Value} {a : Act} {P : Ending → World → Prop} (hf : f.results = #[ResultVar.cell k 90, ResultVar.cell j 32]) (hb : BoxH W p u0 u1) (hc : Boxed W q 32 v) (ha : a.tmps[k]?.getD undef = .pointer (some ⟨p, 0, none⟩)) (hj : a.tmps[j]?.getD undef = .pointer (some ⟨q, 0, none⟩)) (hd : a.defers = []) (hP : P (.returned (.tuple #[.agg #[u0, u1], v])) W) : bodyPost Tryz.prog f P Exit.ret a W := by
  obtain ⟨c0, c1⟩ := hb.cell
  have c2 := hc.cell
  exact bodyPost_ret (v := .tuple #[.agg #[u0, u1], v]) (by simp [results, hf, go_sem, ha, hj, c0, c1, c2]) hd hP
set_option maxRecDepth 100000 in
set_option maxHeartbeats 4000000 in
theorem spread_err (w : World) (sv : Option Addr) (mk0 : Option Nat) (z : Int) (a : Option Addr) (n c : Nat) (er : Int) (he : er ≠ 0)
    (hord : ∀ W, Below w.heap.size w W → Calls Tryz.prog 26 #[.pointer sv, .slice a n c] W fun e w' => e = .returned (.tuple #[.slice none 0 0, .int .i64 er]) ∧ Below W.heap.size W w') :
    Calls Tryz.prog 59 #[.pointer sv, .map mk0, .int .u64 z, .slice a n c] w fun e w' => e = .returned (.tuple #[.agg #[.slice none 0 0, .map none], .int .i64 er]) ∧ Below w.heap.size w w' := by
  have hB5 : Below w.heap.size w (((((w.alloc (.cells #[.pointer sv] 35)).alloc (.cells #[.map mk0] 88)).alloc (.cells #[.int .u64 z] 93)).alloc (.cells #[.slice none 0 0, .map none] 90)).alloc (.cells #[.int .i64 0] 32)) := (((((Below.refl _ w).alloc (Nat.le_refl _) _).alloc (by simp) _).alloc (by simp; omega) _).alloc (by simp; omega) _).alloc (by simp; omega) _
  have bH5 := BoxH.new (((w.alloc (.cells #[.pointer sv] 35)).alloc (.cells #[.map mk0] 88)).alloc (.cells #[.int .u64 z] 93)) (.slice none 0 0) (.map none)
  have bE5 := Boxed.new ((((w.alloc (.cells #[.pointer sv] 35)).alloc (.cells #[.map mk0] 88)).alloc (.cells #[.int .u64 z] 93)).alloc (.cells #[.slice none 0 0, .map none] 90)) 32 (.int .i64 0)
  have bH6 : BoxH (((((w.alloc (.cells #[.pointer sv] 35)).alloc (.cells #[.map mk0] 88)).alloc (.cells #[.int .u64 z] 93)).alloc (.cells #[.slice none 0 0, .map none] 90)).alloc (.cells #[.int .i64 0] 32)) _ _ _ := (Below.heap_alloc _ _ _ bH5.lt).trans bH5
  simp only [World.size_alloc] at bH5 bE5 bH6
  have ho := hord _ hB5
  have z1 : (er == 0) = false := beq_false_of_ne he
  have HB5 : Hid (Below w.heap.size w (((((w.alloc (.cells #[.pointer sv] 35)).alloc (.cells #[.map mk0] 88)).alloc (.cells #[.int .u64 z] 93)).alloc (.cells #[.slice none 0 0, .map none] 90)).alloc (.cells #[.int .i64 0] 32)) ∧ BoxH (((((w.alloc (.cells #[.pointer sv] 35)).alloc (.cells #[.map mk0] 88)).alloc (.cells #[.int .u64 z] 93)).alloc (.cells #[.slice none 0 0, .map none] 90)).alloc (.cells #[.int .i64 0] 32)) (w.heap.size + 1 + 1 + 1) (.slice none 0 0) (.map none) ∧ Boxed (((((w.alloc (.cells #[.pointer sv] 35)).alloc (.cells #[.map mk0] 88)).alloc (.cells #[.int .u64 z] 93)).alloc (.cells #[.slice none 0 0, .map none] 90)).alloc (.cells #[.int .i64 0] 32)) (w.heap.size + 1 + 1 + 1 + 1) 32 (.int .i64 0)) := ⟨hB5, bH6, bE5⟩
  clear hord hB5 bH5 bE5 bH6
  go_enter Tryz.func59, Tryz.ntmps59
  go_wp2_with fail
  refine ho.mono ?_
  clear ho
  generalize ((((w.alloc (.cells #[.pointer sv] 35)).alloc (.cells #[.map mk0] 88)).alloc (.cells #[.int .u64 z] 93)).alloc (.cells #[.slice none 0 0, .map none] 90)).alloc (.cells #[.int .i64 0] 32) = w5 at *
  rintro e w6 ⟨rfl, hB6⟩
  have bH := (hB6.block _ HB5.out.2.1.lt).trans HB5.out.2.1
  have bE := (hB6.block _ HB5.out.2.2.lt).trans HB5.out.2.2
  obtain ⟨q0, q1⟩ := BoxH.cell (show BoxH w6 (w.heap.size + 1 + 1 + 1) _ _ from bH)
  obtain ⟨p0, p1⟩ := BoxH.frozen (show BoxH w6 (w.heap.size + 1 + 1 + 1) _ _ from bH)
  have q2 := Boxed.cell (show Boxed w6 (w.heap.size + 1 + 1 + 1 + 1) _ _ from bE)
  have p2 := Boxed.frozen (show Boxed w6 (w.heap.size + 1 + 1 + 1 + 1) _ _ from bE)
  have H6 : Hid (Below w.heap.size w w6 ∧ BoxH w6 (w.heap.size + 1 + 1 + 1) (.slice none 0 0) (.map none) ∧ Boxed w6 (w.heap.size + 1 + 1 + 1 + 1) 32 (.int .i64 0)) := ⟨HB5.out.1.trans (hB6.mono HB5.out.1.size), bH, bE⟩
  clear hB6 bH bE HB5
  go_wp2
  obtain ⟨hB, bH, bE⟩ := H6.out
  have bH2 := BoxH.other (bH.all (.slice none 0 0) (.map none)) (show w.heap.size + 1 + 1 + 1 ≠ w.heap.size + 1 + 1 + 1 + 1 by omega) (i := 0) (.int .i64 er)
  have bE1 : Boxed ((w6.setCell ⟨w.heap.size + 1 + 1 + 1, 0, none⟩ (.slice none 0 0)).setCell ⟨w.heap.size + 1 + 1 + 1, 1, none⟩ (.map none)) (w.heap.size + 1 + 1 + 1 + 1) 32 (.int .i64 0) := (Below.heap_setCell _ _ _ _ (show w.heap.size + 1 + 1 + 1 + 1 ≠ w.heap.size + 1 + 1 + 1 by omega)).trans ((Below.heap_setCell _ _ _ _ (show w.heap.size + 1 + 1 + 1 + 1 ≠ w.heap.size + 1 + 1 + 1 by omega)).trans bE)
  have bE2 := bE1.set (.int .i64 er)
  refine histE_ret rfl bH2 bE2 rfl rfl rfl ⟨rfl, ?_⟩
  exact ((hB.setCell (p := ⟨w.heap.size + 1 + 1 + 1, 0, none⟩) (by show w.heap.size ≤ w.heap.size + 1 + 1 + 1; omega) _).setCell (p := ⟨w.heap.size + 1 + 1 + 1, 1, none⟩) (by show w.heap.size ≤ w.heap.size + 1 + 1 + 1; omega) _).setCell (p := ⟨w.heap.size + 1 + 1 + 1 + 1, 0, none⟩) (by show w.heap.size ≤ w.heap.size + 1 + 1 + 1 + 1; omega) _
end Go.Proofs.YtncagdfbgpdhfaaGreat

/- The calls of package graph where there is no store; the law's same. -/
namespace Go.Proofs.YtncagdfbgpdhfaaGreat
open Go.RowKit Go.Maps

attribute [local go_sem] Oper.semAt_some

/-- the law's same -/
theorem lsame_drop (l m : List Int) (k : Nat) (x y : Int) (hx : l[k]? = some x) (hy : m[k]? = some y) : (l.drop k == m.drop k) = (x == y && (l.drop (k + 1) == m.drop (k + 1))) := by
  have h1 := (List.getElem?_eq_some_iff.1 hx)
  have h2 := (List.getElem?_eq_some_iff.1 hy)
  obtain ⟨a1, a2⟩ := h1
  obtain ⟨b1, b2⟩ := h2
  rw [List.drop_eq_getElem_cons a1, List.drop_eq_getElem_cons b1, a2, b2]
  rfl
end Go.Proofs.YtncagdfbgpdhfaaGreat

/- The walks of ofList and ofPair. -/
namespace Go.Proofs.YtncagdfbgpdhfaaGreat
open Go.RowKit Go.Shelf Go.Maps

attribute [local go_sem] Oper.semAt_some

/-- a history of package parents: its order, its marks -/
structure Hist (w w' : World) (os : List Ob) (z : Nat) (g : GS) (m : Int → Nat) (oa : Option Addr) (oc mb km : Nat) : Prop where
  ids : Ids w' oa g.ord.length g.ord
  ob : ∀ x, oa = some x → w.heap.size ≤ x.block
  oc : g.ord.length ≤ oc
  marks : MkAt w' mb (spr (psO os) z g.ord.reverse m) km
  mb : w.heap.size ≤ mb
  km : km ≤ 1000000000
  m8 : ∀ x, m x < 8
theorem hist_ret {k : Nat} {f : Func} {W : World} {p j : Nat} {u0 u1 v : Value} {a : Act} {P : Ending → World → Prop} (hf : f.results = #[ResultVar.cell k 90, ResultVar.tmp j]) (hb : BoxH W p u0 u1) (ha : a.tmps[k]?.getD undef = .pointer (some ⟨p, 0, none⟩)) (hj : a.tmps[j]?.getD undef = v) (hd : a.defers = []) (hP : P (.returned (.tuple #[.agg #[u0, u1], v])) W) : bodyPost Tryz.prog f P Exit.ret a W := by
  obtain ⟨c0, c1⟩ := hb.cell
  exact bodyPost_ret (v := .tuple #[.agg #[u0, u1], v]) (by simp [results, hf, go_sem, ha, hj, c0, c1]) hd hP
def listM (l : List Int) : Int → Nat := fun h => if h ∈ l then 1 else 0
theorem listM_lt (l : List Int) : ∀ x, listM l x < 8 := fun x => by unfold listM; split <;> decide
theorem listM_snoc (l : List Int) (k : Nat) (p : Int) (h : l[k]? = some p) : setN (listM (l.take k)) p (listM (l.take k) p ||| 1) = listM (l.take (k + 1)) := by
  obtain ⟨hk, rfl⟩ := List.getElem?_eq_some_iff.1 h
  have hm : ∀ x, x ∈ l.take (k + 1) ↔ x ∈ l.take k ∨ x = l[k] := fun x => by rw [List.take_succ_eq_append_getElem hk, List.mem_append, List.mem_singleton]
  funext x
  unfold setN listM
  by_cases e : x = l[k]
  · rw [if_pos e, if_pos ((hm x).2 (.inr e))]
    split <;> rfl
  · rw [if_neg e]
    by_cases e2 : x ∈ l.take k
    · rw [if_pos e2, if_pos ((hm x).2 (.inl e2))]
    · rw [if_neg e2, if_neg (fun h => ((hm x).1 h).elim e2 e)]
theorem listM_nil : listM [] = fun _ => 0 := by funext x; simp [listM]

set_option maxRecDepth 100000 in
set_option maxHeartbeats 4000000 in
theorem ofList_any (w : World) (sv : Option Addr) (a : Option Addr) (n c : Nat) (l : List Int) (hl : Ids w a n l) (hr : ∀ x ∈ l, 0 ≤ x ∧ x ≤ 18446744073709551615) (hn : n ≤ 1000000)
    (P : Ending → World → Prop)
    (hsp : ∀ W mb, Below w.heap.size w W → mb = w.heap.size + 1 → MkAt W mb (listM l) n → Calls Tryz.prog 59 #[.pointer sv, .map (some mb), .int .u64 1, .slice a n c] W fun e w' => ∃ oa on oc mo er, e = .returned (.tuple #[.agg #[.slice oa on oc, .map mo], .int .i64 er]) ∧ w.heap.size < w'.heap.size ∧ w'.heap[w.heap.size]? = W.heap[w.heap.size]? ∧ ∀ W', Turn (fun k => k = w.heap.size) w' W' → P (.returned (.tuple #[.agg #[.slice oa on oc, .map mo], .int .i64 er])) W') :
    Calls Tryz.prog 40 #[.pointer sv, .slice a n c] w P := by
  have hmm := @run_makeMap Tryz.prog
  have hB0 : Below w.heap.size w ((w.alloc (.cells #[.slice none 0 0, .map none] 90)).alloc (.map #[] 0)) := ((Below.refl _ w).alloc (Nat.le_refl _) _).alloc (by simp) _
  have bH0 := BoxH.new w (.slice none 0 0) (.map none)
  have bH1 : BoxH ((w.alloc (.cells #[.slice none 0 0, .map none] 90)).alloc (.map #[] 0)) w.heap.size (.slice none 0 0) (.map none) := (Below.heap_alloc _ _ _ bH0.lt).trans bH0
  have hmk0 := MkAt.new (w.alloc (.cells #[.slice none 0 0, .map none] 90))
  have HL : Hid (Ids w a n l ∧ ∀ x ∈ l, 0 ≤ x ∧ x ≤ 18446744073709551615) := ⟨hl, hr⟩
  simp only [World.size_alloc] at hmk0
  have H0 : Hid (MkAt ((w.alloc (.cells #[.slice none 0 0, .map none] 90)).alloc (.map #[] 0)) (w.heap.size + 1) (fun _ => 0) 0 ∧ BoxH ((w.alloc (.cells #[.slice none 0 0, .map none] 90)).alloc (.map #[] 0)) w.heap.size (.slice none 0 0) (.map none) ∧ Below w.heap.size w ((w.alloc (.cells #[.slice none 0 0, .map none] 90)).alloc (.map #[] 0))) := ⟨hmk0, bH1, hB0⟩
  have HSP : Hid (∀ W mb, Below w.heap.size w W → mb = w.heap.size + 1 → MkAt W mb (listM l) n → Calls Tryz.prog 59 #[.pointer sv, .map (some mb), .int .u64 1, .slice a n c] W fun e w' => ∃ oa on oc mo er, e = .returned (.tuple #[.agg #[.slice oa on oc, .map mo], .int .i64 er]) ∧ w.heap.size < w'.heap.size ∧ w'.heap[w.heap.size]? = W.heap[w.heap.size]? ∧ ∀ W', Turn (fun k => k = w.heap.size) w' W' → P (.returned (.tuple #[.agg #[.slice oa on oc, .map mo], .int .i64 er])) W') := hsp
  clear hsp hl hr hB0 bH0 bH1 hmk0
  go_enter Tryz.func40, Tryz.ntmps40
  go_wp2
  generalize (w.alloc (.cells #[.slice none 0 0, .map none] 90)).alloc (.map #[] 0) = w2 at *
  clear hmm
  go_loopw [12] (fun i wr => ∃ k : Nat, k ≤ n ∧ i = .int .i64 k ∧ Hid (MkAt wr (w.heap.size + 1) (listM (l.take k)) k ∧ BoxH wr w.heap.size (.slice none 0 0) (.map none) ∧ Below w.heap.size w wr)) (fun i _ => n - (intOf i).toNat)
  case atStart => exact ⟨0, Nat.zero_le _, rfl, by rw [show l.take 0 = [] from rfl, listM_nil]; exact H0.out.1, H0.out.2⟩
  case round =>
    obtain ⟨k, hk, rfl, H⟩ := hrel
    by_cases hlt : k < n
    · obtain ⟨p, hp⟩ : ∃ p, l[k]? = some p := ⟨_, List.getElem?_eq_getElem (by rw [HL.out.1.1]; exact hlt)⟩
      obtain ⟨b1, o1, hae, hc1⟩ := (HL.out.1.kept H.out.2.2).2 (by omega)
      subst hae
      have q0 := hc1 k p hp
      obtain ⟨hp0, hp1⟩ := HL.out.2 p (List.mem_of_getElem? hp)
      have hf8 := listM_lt (l.take k) p
      have hlk := H.out.1.look p hp0 hp1 wr rfl
      have hor : bits .or .u64 ((listM (l.take k) p : Nat) : Int) 1 = ((listM (l.take k) p ||| 1 : Nat) : Int) := bits_or _ 1 (by omega) (by decide)
      obtain ⟨w3, hupd, hmk3, hg3⟩ := H.out.1.put p hp0 hp1 (by unfold maxLen; omega) (listM (l.take k) p ||| 1)
      rw [listM_snoc l k p hp] at hmk3
      have HN : Hid (MkAt w3 (w.heap.size + 1) (listM (l.take (k + 1))) (k + 1) ∧ BoxH w3 w.heap.size (.slice none 0 0) (.map none) ∧ Below w.heap.size w w3) := ⟨hmk3, (hg3.block _ H.out.2.1.lt (by simp)).trans H.out.2.1, H.out.2.2.trans ((turn_grown hg3).below (H.out.2.2.size) (fun k e => by omega))⟩
      have i5 : (k : Int) < (n : Int) := by omega
      have i6 : ¬ n ≤ k := by omega
      clear hmk3 hg3 hc1 hp hf8
      generalize listM (l.take k) p ||| 1 = nv at *
      generalize listM (l.take k) p = fp at *
      go_wp2
      go_roundw
      case rel => exact ⟨k + 1, by omega, by go_num, HN.out⟩
      case measure => simp [intOf]; omega
    · obtain rfl : n = k := by omega
      have i5 : ¬ (n : Int) < (n : Int) := by omega
      have h1 := H.out.1
      rw [List.take_of_length_le (by rw [HL.out.1.1]; exact Nat.le_refl _)] at h1
      have hs := HSP.out wr (w.heap.size + 1) H.out.2.2 rfl h1
      have bH := H.out.2.1
      clear hk hlt h1
      go_wp2_with fail
      refine hs.mono ?_
      clear hs
      rintro e w4 ⟨oa, on, oc, mo, er, rfl, hlt4, hk4, hP⟩
      have bH4 : BoxH w4 w.heap.size (.slice none 0 0) (.map none) := hk4.trans bH
      obtain ⟨c0, c1⟩ := bH4.cell
      obtain ⟨f0, f1⟩ := bH4.frozen
      have HB : Hid (BoxH w4 w.heap.size (.slice none 0 0) (.map none) ∧ ∀ W', Turn (fun k => k = w.heap.size) w4 W' → P (.returned (.tuple #[.agg #[.slice oa on oc, .map mo], .int .i64 er])) W') := ⟨bH4, hP⟩
      clear bH4 hP hk4 bH
      go_wp2
      have hfin := HB.out.2 _ ((turn_setCell w4 w.heap.size 0 (.slice oa on oc)).trans (turn_setCell _ w.heap.size 1 (.map mo)) (fun _ _ e => e))
      have hbx := HB.out.1.all (.slice oa on oc) (.map mo)
      generalize (w4.setCell ⟨w.heap.size, 0, none⟩ (.slice oa on oc)).setCell ⟨w.heap.size, 1, none⟩ (.map mo) = wz at *
      exact hist_ret (P := P) (k := 4) (j := 5) (v := .int .i64 er) rfl hbx rfl rfl rfl hfin

theorem pairM_set (a b : Int) : setN (setN (fun _ => 0) a 1) b (setN (fun _ => 0) a 1 b ||| 2) = pairM a b := by
  funext x
  unfold setN pairM
  by_cases e : x = b
  · subst e
    by_cases e2 : x = a
    · rw [if_pos rfl, if_pos e2, if_pos rfl]
    · rw [if_pos rfl, if_neg e2, if_pos rfl]
  · by_cases e2 : x = a
    · rw [if_neg e, if_pos e2, if_neg e]; rfl
    · rw [if_neg e, if_neg e2, if_neg e]; simp
theorem pairM_lt (a b : Int) : ∀ x, pairM a b x < 8 := fun x => by
  unfold pairM
  refine or_lt8 ?_ ?_ <;> split <;> decide
set_option maxRecDepth 100000 in
set_option maxHeartbeats 4000000 in
theorem ofPair_any (w : World) (sv : Option Addr) (a b : Int) (ha : 0 ≤ a ∧ a ≤ 18446744073709551615) (hb : 0 ≤ b ∧ b ≤ 18446744073709551615)
    (P : Ending → World → Prop)
    (hsp : ∀ W mb ad, Below w.heap.size w W → mb = w.heap.size + 1 → MkAt W mb (pairM a b) 2 → Ids W ad 2 [a, b] → Calls Tryz.prog 59 #[.pointer sv, .map (some mb), .int .u64 3, .slice ad 2 2] W fun e w' => ∃ oa on oc mo er, e = .returned (.tuple #[.agg #[.slice oa on oc, .map mo], .int .i64 er]) ∧ w.heap.size < w'.heap.size ∧ w'.heap[w.heap.size]? = W.heap[w.heap.size]? ∧ ∀ W', Turn (fun k => k = w.heap.size) w' W' → P (.returned (.tuple #[.agg #[.slice oa on oc, .map mo], .int .i64 er])) W') :
    Calls Tryz.prog 41 #[.pointer sv, .int .u64 a, .int .u64 b] w P := by
  have hmm := @run_makeMap Tryz.prog
  have hB0 : Below w.heap.size w ((w.alloc (.cells #[.slice none 0 0, .map none] 90)).alloc (.map #[] 0)) := ((Below.refl _ w).alloc (Nat.le_refl _) _).alloc (by simp) _
  have bH0 := BoxH.new w (.slice none 0 0) (.map none)
  have bH1 : BoxH ((w.alloc (.cells #[.slice none 0 0, .map none] 90)).alloc (.map #[] 0)) w.heap.size (.slice none 0 0) (.map none) := (Below.heap_alloc _ _ _ bH0.lt).trans bH0
  have hmk0 := MkAt.new (w.alloc (.cells #[.slice none 0 0, .map none] 90))
  simp only [World.size_alloc] at hmk0
  obtain ⟨w3, hupd, hmk3, hg3⟩ := hmk0.put a ha.1 ha.2 (by unfold maxLen; omega) 1
  have hupd : (Instr.mapUpdate 88 (.map (some (w.heap.size + 1))) (.int .u64 a) (.int .u64 1)).run Tryz.prog ((w.alloc (.cells #[.slice none 0 0, .map none] 90)).alloc (.map #[] 0)) = .ok () w3 := hupd
  have hlk := hmk3.look b hb.1 hb.2 w3 rfl
  have h8 : setN (fun _ => 0) a 1 b < 8 := setN_lt (fun _ => by decide) a 1 (by decide) b
  have hor : bits .or .u64 ((setN (fun _ => 0) a 1 b : Nat) : Int) 2 = ((setN (fun _ => 0) a 1 b ||| 2 : Nat) : Int) := bits_or _ 2 (by omega) (by decide)
  obtain ⟨w4, hupd4, hmk4, hg4⟩ := hmk3.put b hb.1 hb.2 (by unfold maxLen; omega) (setN (fun _ => 0) a 1 b ||| 2)
  rw [pairM_set] at hmk4
  have hBw3 : Below w.heap.size w w3 := hB0.trans ((turn_grown hg3).below hB0.size (fun k e => by omega))
  have hBw4 : Below w.heap.size w w4 := hBw3.trans ((turn_grown hg4).below hBw3.size (fun k e => by omega))
  have hbH4 : BoxH w4 w.heap.size (.slice none 0 0) (.map none) := by
    have h3 : BoxH w3 w.heap.size (.slice none 0 0) (.map none) := (hg3.block _ bH1.lt (by simp)).trans bH1
    exact (hg4.block _ h3.lt (by simp)).trans h3
  have hA : Below w4.heap.size w4 (w4.alloc (.cells #[.int .u64 a, .int .u64 b] 31)) := (Below.refl _ _).alloc (Nat.le_refl _) _
  have hs := hsp _ (w.heap.size + 1) _ (hBw4.trans (hA.mono hBw4.size)) rfl (hmk4.kept (hA.block _ hmk4.lt)) (lit_ids w4 a b _)
  have HH : Hid (BoxH (w4.alloc (.cells #[.int .u64 a, .int .u64 b] 31)) w.heap.size (.slice none 0 0) (.map none)) := (hA.block _ hbH4.lt).trans hbH4
  clear hsp hB0 bH0 bH1 hmk0 hmk3 hmk4 hg3 hg4 hBw3 hBw4 hbH4 hA h8
  generalize setN (fun _ => 0) a 1 b ||| 2 = nv at *
  generalize setN (fun _ => 0) a 1 b = fv at *
  go_enter Tryz.func41, Tryz.ntmps41
  go_wp2_with fail
  refine hs.mono ?_
  clear hs hmm hupd hlk hor hupd4
  rintro e w5 ⟨oa, on, oc, mo, er, rfl, hlt4, hk4, hP⟩
  have bH4 : BoxH w5 w.heap.size (.slice none 0 0) (.map none) := hk4.trans HH.out
  obtain ⟨c0, c1⟩ := bH4.cell
  obtain ⟨f0, f1⟩ := bH4.frozen
  have HB : Hid (BoxH w5 w.heap.size (.slice none 0 0) (.map none) ∧ ∀ W', Turn (fun k => k = w.heap.size) w5 W' → P (.returned (.tuple #[.agg #[.slice oa on oc, .map mo], .int .i64 er])) W') := ⟨bH4, hP⟩
  clear bH4 hP hk4
  go_wp2
  have hfin := HB.out.2 _ ((turn_setCell w5 w.heap.size 0 (.slice oa on oc)).trans (turn_setCell _ w.heap.size 1 (.map mo)) (fun _ _ e => e))
  have hbx := HB.out.1.all (.slice oa on oc) (.map mo)
  generalize (w5.setCell ⟨w.heap.size, 0, none⟩ (.slice oa on oc)).setCell ⟨w.heap.size, 1, none⟩ (.map mo) = wz at *
  exact hist_ret (P := P) (k := 6) (j := 7) (v := .int .i64 er) rfl hbx rfl rfl rfl hfin

theorem hk_size {W W' : World} (h : ∀ k, k < W.heap.size → W'.heap[k]? = W.heap[k]?) : W.heap.size ≤ W'.heap.size := by
  by_cases e : W.heap.size ≤ W'.heap.size
  · exact e
  · have h1 := h W'.heap.size (by omega)
    rw [Array.getElem?_eq_none (Nat.le_refl _), Array.getElem?_eq_getElem (by omega)] at h1
    cases h1
/-- what spread gives to its callers -/
theorem hist_of {w W : World} {s d : Nat} {os : List Ob} {sz : Nat} {cut : Bool} {F : Nat → Prop} (hS : IsSt w s d os sz cut F) (hos : os.length ≤ 65536) (hB : Below w.heap.size w W) {mb km : Nat} {m : Int → Nat} (hmb : mb = w.heap.size + 1) (hM : MkAt W mb m km) (hm8 : ∀ x, m x < 8) (hkm : km ≤ 1000000) (z : Nat) (hz : z < 8)
    {a : Option Addr} {n c : Nat} {l : List Int} (hl : Ids W a n l) (hr : ∀ x ∈ l, 0 ≤ x ∧ x ≤ 18446744073709551615) (hnc : n ≤ c) (hn : n ≤ 1000000000) {g : GS} (hR : ordG os l GS.none = .ok g) :
    Calls Tryz.prog 59 #[.pointer (some ⟨s, 0, none⟩), .map (some mb), .int .u64 (z : Int), .slice a n c] W fun e w' => ∃ oa on oc mo er, e = .returned (.tuple #[.agg #[.slice oa on oc, .map mo], .int .i64 er]) ∧ w.heap.size < w'.heap.size ∧ w'.heap[w.heap.size]? = W.heap[w.heap.size]? ∧ ∀ W', Turn (fun k => k = w.heap.size) w' W' → (∃ oa' oc' mb' km', Ending.returned (.tuple #[.agg #[.slice oa on oc, .map mo], .int .i64 er]) = .returned (.tuple #[.agg #[.slice oa' g.ord.length oc', .map (some mb')], .int .i64 0]) ∧ Hist w W' os z g m oa' oc' mb' km') ∧ Below w.heap.size w W' := by
  refine (spread_ok W s d os sz cut F (hS.below hB) hos mb km m hM (fun h => by have := hS.lt mb h; omega) hm8 (by omega) z hz a n c l hl hr hnc hn g hR).mono ?_
  rintro e w' ⟨oa, oc, rfl, hI, hob, hoc, hMk, hT⟩
  have hlt := hM.lt
  have hle := ord_len hR
  refine ⟨oa, g.ord.length, oc, some mb, 0, rfl, by have := hT.size; omega, hT.block _ (by omega) (by omega), fun W' hW' => ⟨⟨oa, oc, mb, _, rfl, ?_, fun x hx => Nat.le_trans (by omega) (hob x hx), hoc, hMk.kept (hW'.block mb hMk.lt (by omega)), by omega, by omega, hm8⟩, ?_⟩⟩
  · refine ⟨hI.1, fun h0 => ?_⟩
    obtain ⟨b, off, e, hc⟩ := hI.2 h0
    refine ⟨b, off, e, fun i y hy => hW'.cell (hc i y hy) ?_⟩
    have := hob _ e
    simp only at this ⊢
    omega
  · exact hB.trans (((hT.below (B := w.heap.size) hB.size (fun k e => by omega)).trans (hW'.below (B := w.heap.size) (by have := hT.size; have := hB.size; omega) (fun k e => by omega))))
theorem ofList_ok (w : World) (s d : Nat) (os : List Ob) (sz : Nat) (cut : Bool) (F : Nat → Prop) (hS : IsSt w s d os sz cut F) (hos : os.length ≤ 65536) (a : Option Addr) (n c : Nat) (l : List Int) (hl : Ids w a n l) (hr : ∀ x ∈ l, 0 ≤ x ∧ x ≤ 18446744073709551615) (hnc : n ≤ c) (hn : n ≤ 1000000) (g : GS) (hR : ordG os l GS.none = .ok g) :
    Calls Tryz.prog 40 #[.pointer (some ⟨s, 0, none⟩), .slice a n c] w fun e w' => (∃ oa oc mb km, e = .returned (.tuple #[.agg #[.slice oa g.ord.length oc, .map (some mb)], .int .i64 0]) ∧ Hist w w' os 1 g (listM l) oa oc mb km) ∧ Below w.heap.size w w' :=
  ofList_any w _ a n c l hl hr hn _ (fun _ _ hB hmb hM => (hist_of hS hos hB hmb hM (listM_lt l) hn 1 (by decide) (hl.kept hB) hr hnc (by omega) hR).mono fun _ _ h => h)
theorem ofPair_ok (w : World) (s d : Nat) (os : List Ob) (sz : Nat) (cut : Bool) (F : Nat → Prop) (hS : IsSt w s d os sz cut F) (hos : os.length ≤ 65536) (a b : Int) (ha : 0 ≤ a ∧ a ≤ 18446744073709551615) (hb : 0 ≤ b ∧ b ≤ 18446744073709551615) (g : GS) (hR : ordG os [a, b] GS.none = .ok g) :
    Calls Tryz.prog 41 #[.pointer (some ⟨s, 0, none⟩), .int .u64 a, .int .u64 b] w fun e w' => (∃ oa oc mb km, e = .returned (.tuple #[.agg #[.slice oa g.ord.length oc, .map (some mb)], .int .i64 0]) ∧ Hist w w' os 3 g (pairM a b) oa oc mb km) ∧ Below w.heap.size w w' :=
  ofPair_any w _ a b ha hb _ (fun _ _ _ hB hmb hM hI => (hist_of hS hos hB hmb hM (pairM_lt a b) (by decide) 3 (by decide) hI (fun x hx => by simp at hx; rcases hx with rfl | rfl <;> assumption) (Nat.le_refl _) (by decide) hR).mono fun _ _ h => h)
/-- no order: nothing but its error -/
theorem spread_no {w W : World} {sv : Option Addr} (hB : Below w.heap.size w W) {mb : Nat} {m : Int → Nat} {km : Nat} (hmb : mb = w.heap.size + 1) (hM : MkAt W mb m km) (z : Int) {a : Option Addr} {n c : Nat} {er : Int} (he : er ≠ 0) (hord : ∀ W', Below w.heap.size w W' → (∀ k, k < W.heap.size → W'.heap[k]? = W.heap[k]?) → Calls Tryz.prog 26 #[.pointer sv, .slice a n c] W' fun e w' => e = .returned (.tuple #[.slice none 0 0, .int .i64 er]) ∧ Below W'.heap.size W' w') :
    Calls Tryz.prog 59 #[.pointer sv, .map (some mb), .int .u64 z, .slice a n c] W fun e w' => ∃ oa on oc mo er', e = .returned (.tuple #[.agg #[.slice oa on oc, .map mo], .int .i64 er']) ∧ w.heap.size < w'.heap.size ∧ w'.heap[w.heap.size]? = W.heap[w.heap.size]? ∧ ∀ W', Turn (fun k => k = w.heap.size) w' W' → Ending.returned (.tuple #[.agg #[.slice oa on oc, .map mo], .int .i64 er']) = .returned (.tuple #[.agg #[.slice none 0 0, .map none], .int .i64 er]) ∧ Below w.heap.size w W' := by
  refine (spread_err W sv (some mb) z a n c er he (fun W' hW' => hord W' (hB.trans (hW'.mono hB.size)) (fun k hk => hW'.block k hk))).mono ?_
  rintro e w' ⟨rfl, hB'⟩
  have hlt := hM.lt
  exact ⟨none, 0, 0, none, er, rfl, by have := hB'.size; omega, hB'.block _ (by omega), fun W' hW' => ⟨rfl, hB.trans ((hB'.mono hB.size).trans (hW'.below (B := w.heap.size) (by have := hB'.size; have := hB.size; omega) (fun k e => by omega)))⟩⟩
theorem ofList_err (w : World) (sv : Option Addr) (a : Option Addr) (n c : Nat) (l : List Int) (hl : Ids w a n l) (hr : ∀ x ∈ l, 0 ≤ x ∧ x ≤ 18446744073709551615) (hn : n ≤ 1000000) (er : Int) (he : er ≠ 0) (hord : ∀ W', Below w.heap.size w W' → Calls Tryz.prog 26 #[.pointer sv, .slice a n c] W' fun e w' => e = .returned (.tuple #[.slice none 0 0, .int .i64 er]) ∧ Below W'.heap.size W' w') :
    Calls Tryz.prog 40 #[.pointer sv, .slice a n c] w fun e w' => e = .returned (.tuple #[.agg #[.slice none 0 0, .map none], .int .i64 er]) ∧ Below w.heap.size w w' :=
  ofList_any w _ a n c l hl hr hn _ (fun _ _ hB hmb hM => (spread_no hB hmb hM 1 he (fun W' hW' _ => hord W' hW')).mono fun _ _ h => h)
theorem ofPair_err (w : World) (sv : Option Addr) (a b : Int) (ha : 0 ≤ a ∧ a ≤ 18446744073709551615) (hb : 0 ≤ b ∧ b ≤ 18446744073709551615) (er : Int) (he : er ≠ 0) (hord : ∀ W' ad, Below w.heap.size w W' → Ids W' ad 2 [a, b] → Calls Tryz.prog 26 #[.pointer sv, .slice ad 2 2] W' fun e w' => e = .returned (.tuple #[.slice none 0 0, .int .i64 er]) ∧ Below W'.heap.size W' w') :
    Calls Tryz.prog 41 #[.pointer sv, .int .u64 a, .int .u64 b] w fun e w' => e = .returned (.tuple #[.agg #[.slice none 0 0, .map none], .int .i64 er]) ∧ Below w.heap.size w w' :=
  ofPair_any w _ a b ha hb _ (fun _ _ ad hB hmb hM hI => (spread_no hB hmb hM 3 he (fun W' hW' hk => hord W' ad hW' (hI.kept ⟨hW'.os.trans hB.os.symm, hW'.tape.trans hB.tape.symm, hW'.output.trans hB.output.symm, hk_size hk, fun k hk' => hk k hk'⟩))).mono fun _ _ h => h)
end Go.Proofs.YtncagdfbgpdhfaaGreat

/- The layer parents, plain: the program's answers by marks are the document's by ancestors. -/
namespace Go.Proofs.YtncagdfbgpdhfaaGreat

/-- the program's: left out are those that bear the mark, and those that stand ahead -/
def redG (B : Int → Bool) : List Int → List Int → List Int
  | _, [] => []
  | seen, x :: r => if B x || seen.contains x then redG B (x :: seen) r else x :: redG B (x :: seen) r
end Go.Proofs.YtncagdfbgpdhfaaGreat
