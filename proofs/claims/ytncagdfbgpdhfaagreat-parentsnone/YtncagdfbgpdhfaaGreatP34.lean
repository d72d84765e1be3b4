import Derived.Test.YtncagdfbgpdhfaaGreatP33
import Derived.Test.YtncagdfbgpdhfaaGreatP30
import Derived.Lib.SlBytesConst
/- The walks of read, ids and Order. -/
namespace Go.Proofs.YtncagdfbgpdhfaaGreat
open Go.RowKit Go.Maps

attribute [local go_sem] Oper.semAt_some

/-- the order of heads, by the pile's fuel -/
def ordG (os : List Ob) (l : List Int) (s : GS) : GR := goL (visit (parsO os) (errO os) (os.length + 2)) l s
/-- a history that a call has made -/
structure HNew (w w' : World) (h s : Nat) (os : List Ob) (gs : GS) (C : Nat) (mb : Nat) (ov : Value) (ms : List Mb) (K : Nat → Prop) (c : Nat) : Prop where
  H : HAt w' h s mb ov os gs.been c ms K
  ord : ms.map Mb.id = gs.ord
  cc : c ≤ C
  mc : ms.length ≤ C
  new : ∀ k, HX h mb ov k → w.heap.size ≤ k
/-- how read ends -/
def ROut (w : World) (s : Nat) (os : List Ob) (C : Nat) (R : GR) (e : Ending) (w' : World) : Prop := match R with
  | .bad er => e = .returned (.tuple #[.pointer none, .int .i64 er]) ∧ er ≠ 0
  | .ok gs => ∃ h mb ov ms K c, e = .returned (.tuple #[.pointer (some ⟨h, 0, none⟩), .int .i64 0]) ∧ HNew w w' h s os gs C mb ov ms K c
theorem restO_bound (been : Int → Int) : ∀ (os : List Ob), (∀ o ∈ os, obErr o = 0) → restO been os ≤ os.length * 10
  | [], _ => Nat.le_refl _
  | o :: r, h => by
    have ih := restO_bound been r (fun p hp => h p (by simp [hp]))
    have h1 : (match parO o with
      | some ps => if been (oid o) = 0 then ps.length + 2 else 0
      | none => 0) ≤ 10 := by
      cases o with
      | blob b => simp [parO]
      | tree l => simp [parO]
      | com c =>
        have := par_len (h (.com c) (by simp))
        simp only [parO]
        split
        · exact Nat.add_le_add_right this 2
        · exact Nat.zero_le _
    have e : (o :: r).length * 10 = 10 + r.length * 10 := by simp only [List.length_cons]; omega
    rw [e]
    exact Nat.add_le_add h1 ih
theorem IsSt.good {w : World} {s d : Nat} {os : List Ob} {sz : Nat} {cut : Bool} {F : Nat → Prop} (h : IsSt w s d os sz cut F) : ∀ o ∈ os, obErr o = 0 := by
  obtain ⟨j, b, M, v, FJ, O, h⟩ := h
  exact h.good

theorem gread_nil (w : World) (v : Value) : Calls Tryz.prog 44 #[.pointer none, v] w fun e w' => e = .returned (.tuple #[.pointer none, .int .i64 1]) ∧ w' = w := by
  go_enter Tryz.func44, Tryz.ntmps44
  go_wp2
  go_ret2
  exact ⟨rfl, rfl⟩
set_option maxRecDepth 20000 in
set_option maxHeartbeats 4000000 in
theorem gread_any (w : World) (s d : Nat) (os : List Ob) (sz : Nat) (cut : Bool) (F : Nat → Prop) (hS : IsSt w s d os sz cut F) (hos : os.length ≤ 65536) (a : Option Addr) (n c : Nat) (l : List Int) (hl : Ids w a n l) (hr : ∀ x ∈ l, 0 ≤ x ∧ x ≤ 18446744073709551615) (hnc : n ≤ c) (hn : n ≤ 1000000000) :
    Calls Tryz.prog 44 #[.pointer (some ⟨s, 0, none⟩), .slice a n c] w fun e w' => Below w.heap.size w w' ∧ ROut w s os (n + 1 + os.length * 10) (ordG os l GS.none) e w' := by
  have hmm := @run_makeMap Tryz.prog
  have hrb := restO_bound (fun _ => 0) os hS.good
  obtain ⟨w1, hw1⟩ : ∃ w1, w1 = (w.alloc (.map #[] 0)).alloc (.cells #[.pointer (some ⟨s, 0, none⟩), .map (some w.heap.size), .slice none 0 0] 103) := ⟨_, rfl⟩
  have hB1 : Below w.heap.size w w1 := by rw [hw1]; exact ((Below.refl _ w).alloc (Nat.le_refl _) _).alloc (by simp) _
  have hsz1 : w1.heap.size = w.heap.size + 2 := by rw [hw1]; simp
  have hbk : w1.heap[w.heap.size + 1]? = some (.cells #[.pointer (some ⟨s, 0, none⟩), .map (some w.heap.size), .slice none 0 0] 103) := by
    rw [hw1]
    have := World.alloc_heap_new (w.alloc (.map #[] 0)) (.cells #[.pointer (some ⟨s, 0, none⟩), .map (some w.heap.size), .slice none 0 0] 103)
    rw [World.size_alloc] at this
    exact this
  have hbn : BnAt w1 w.heap.size (fun _ => 0) 0 := (BnAt.new w).kept (by rw [hw1]; exact Below.heap_alloc _ _ _ (by simp))
  have H1 : HAt w1 (w.heap.size + 1) s w.heap.size (.slice none 0 0) os (fun _ => 0) 0 [] (fun k => k < w.heap.size) :=
    { c0 := by simp [World.cell?, hbk]
      c1 := by simp [World.cell?, hbk]
      c2 := by simp [World.cell?, hbk]
      f2 := by simp [World.frozen?, hbk]
      bn := hbn
      row := World.ownsRow_nil _ _ _ _
      mem := fun m hm => by cases hm
      hm := by omega
      vo := fun g hg => by cases hg
      nk := ⟨by omega, by omega⟩
      klt := fun k hk => by omega }
  have hf := follow_any w1 (w.heap.size + 1) s d w.heap.size (.slice none 0 0) os sz cut F (fun _ => 0) 0 [] _ (hS.below hB1) H1 (fun k hk hF => by
    have := hS.lt k hF
    rcases hk with h | h | h
    · omega
    · omega
    · cases h) a n c l ((HI.of_ids hl).kept fun k hk => hB1.block k hk) hr hnc (fun _ => .inl rfl) (n + 1 + os.length * 10) (by omega) (by simp only [List.length_nil]; omega) (by omega) hos
  have HB1 : Hid (Below w.heap.size w w1 ∧ w1.heap.size = w.heap.size + 2) := ⟨hB1, hsz1⟩
  rw [show goL (visit (parsO os) (errO os) (os.length + 2)) l ⟨fun _ => 0, List.map Mb.id []⟩ = ordG os l GS.none from rfl] at hf
  generalize ordG os l GS.none = R at *
  rw [hw1] at hf
  have HW1 : Hid (w1 = (w.alloc (.map #[] 0)).alloc (.cells #[.pointer (some ⟨s, 0, none⟩), .map (some w.heap.size), .slice none 0 0] 103)) := hw1
  have HX0 : Hid (∀ k, HX (w.heap.size + 1) w.heap.size (.slice none 0 0) k → w.heap.size ≤ k) := fun k hk => by
    rcases hk with h | h | h
    · omega
    · omega
    · cases h
  have HXN : Hid (∀ ov, (∀ g, Value.ownBlock ov = some g → (Value.slice none 0 0).ownBlock = some g ∨ w1.heap.size ≤ g) → ∀ k, HX (w.heap.size + 1) w.heap.size ov k → w.heap.size ≤ k) := fun ov hov k hk => by
    rcases hk with h | h | h
    · omega
    · omega
    · rcases hov k h with h | h
      · cases h
      · omega
  clear hB1 hsz1 hbk hbn H1 hrb hw1
  cases R with
  | bad er =>
    go_enter Tryz.func44, Tryz.ntmps44
    go_wp2_with (go_at_call 60; refine hf.mono ?_; clear hf; rintro e w2 ⟨hT, he, hne⟩; subst he; have hne2 : (er == 0) = false := beq_eq_false_iff_ne.2 hne; have HT : Hid (Below w.heap.size w w2) := (by rw [← HW1.out] at hT; exact HB1.out.1.trans (hT.below HB1.out.1.size HX0.out)); clear hT)
    go_ret2
    exact ⟨HT.out, rfl, hne⟩
  | ok gs =>
    go_enter Tryz.func44, Tryz.ntmps44
    go_wp2_with (go_at_call 60; refine hf.mono ?_; clear hf; rintro e w2 ⟨hT, he, ov, ms, K, cc, hH, hord, hcc, hmc, hov⟩; subst he; have HT : Hid (Below w.heap.size w w2) := (by rw [← HW1.out] at hT; exact HB1.out.1.trans (hT.below HB1.out.1.size HX0.out)); have HN : Hid (HNew w w2 (w.heap.size + 1) s os gs (n + 1 + os.length * 10) w.heap.size ov ms K cc) := ⟨hH, hord, hcc, hmc, HXN.out ov (by rw [← HW1.out] at hov; exact hov)⟩; clear hT hH hord hcc hmc hov)
    go_ret2
    exact ⟨HT.out, _, _, _, _, _, _, rfl, HN.out⟩
end Go.Proofs.YtncagdfbgpdhfaaGreat

/- The walks of ids and Order. -/
namespace Go.Proofs.YtncagdfbgpdhfaaGreat
open Go.RowKit Go.Maps

attribute [local go_sem] Oper.semAt_some

/-- a slice of members -/
def Mems (w : World) (a : Option Addr) (n : Nat) (ms : List Mb) : Prop := ms.length = n ∧ (0 < n → ∃ b off, a = some ⟨b, off, none⟩ ∧ ∀ (j : Nat) (m : Mb), ms[j]? = some m → w.cell? ⟨b, off + j * 6, none⟩ = some (.int .u64 m.id) ∧ w.cell? ⟨b, off + j * 6 + 1, none⟩ = some (.int .u64 m.t) ∧ w.cell? ⟨b, off + j * 6 + 2, none⟩ = some (.slice m.pa m.pn m.pc) ∧ w.cell? ⟨b, off + j * 6 + 3, none⟩ = some (.string m.au) ∧ w.cell? ⟨b, off + j * 6 + 4, none⟩ = some (.int .i64 m.d) ∧ w.cell? ⟨b, off + j * 6 + 5, none⟩ = some (.string m.tx))
theorem row_mems {w : World} {B n c : Nat} {ad : Option Addr} {ms : List Mb} (h : w.ownsRow B 137 6 (.slice ad n c) n (mbCells ms)) (hl : ms.length = n) : Mems w ad n ms := by
  refine ⟨hl, fun h0 => ?_⟩
  rcases h.2 with ⟨e, h'⟩ | ⟨g, cap, cur, e, _⟩
  · omega
  · cases e
    refine ⟨g, 0, rfl, fun j m hm => ?_⟩
    have hj := (List.getElem?_eq_some_iff.1 hm).1
    obtain ⟨h1, h2, h3, h4, h5, h6⟩ := mbCells_get ms j m hm
    simp only [Nat.zero_add]
    refine ⟨?_, ?_, ?_, ?_, ?_, ?_⟩ <;> rw [h.cellAt _ (by omega)] <;> assumption
theorem infoIdG : (Tryz.prog.info? 31).map (fun i => (i.zero, i.size, i.bytes)) = some (some (.int .u64 0), 1, 8) := by kernel_rfl

theorem below_gr1 {W W' : World} {e : TypeId} {z B n : Nat} {v : Value} {xs : List Value} (h : W.ownsRow B e z v n xs) (hB : B ≤ W.heap.size) (hg : W.grownBy W' v.ownBlock) : Below B W W' :=
  ⟨hg.os, hg.tape, hg.output, hg.size, fun k hk => hg.block k (by omega) (fun e => by have := (h.lt k e.symm).1; omega)⟩
set_option maxRecDepth 100000 in
set_option maxHeartbeats 4000000 in
theorem ids_any (w : World) (a : Option Addr) (n c : Nat) (ms : List Mb) (hm : Mems w a n ms) (hn : n ≤ 1000000000000) :
    Calls Tryz.prog 45 #[.slice a n c] w fun e w' => ∃ ad cp, e = .returned (.slice ad n cp) ∧ w'.ownsRow w.heap.size 31 1 (.slice ad n cp) n ((ms.map Mb.id).map (Value.int .u64)) ∧ Below w.heap.size w w' := by
  have hll := hm.1
  obtain ⟨L, hL⟩ : ∃ L, L = ms.map Mb.id := ⟨_, rfl⟩
  have HL : Hid (L = ms.map Mb.id) := hL
  rw [← hL]
  clear hL
  obtain ⟨i0, hi, hz0, hz1, hz2⟩ := info_parts infoIdG
  have HM : Hid (Mems w a n ms) := hm
  clear hm
  go_enter Tryz.func45, Tryz.ntmps45
  go_wp2
  go_loopw [3, 8] (fun v i wr => ∃ (k : Nat) (ad : Option Addr) (cp : Nat), k ≤ n ∧ i = .int .i64 (k : Int) ∧ v = .slice ad k cp ∧ Hid (wr.ownsRow w.heap.size 31 1 (.slice ad k cp) k ((L.take k).map (Value.int .u64)) ∧ Below w.heap.size w wr)) (fun _ i _ => n - (intOf i).toNat)
  case atStart => exact ⟨0, none, 0, Nat.zero_le _, rfl, rfl, World.ownsRow_nil _ _ _ _, Below.refl _ _⟩
  case round =>
    obtain ⟨k, ad, cp, hk, rfl, rfl, H⟩ := hrel
    by_cases hlt : k < n
    · obtain ⟨m, hx⟩ : ∃ m, ms[k]? = some m := ⟨_, List.getElem?_eq_getElem (by omega)⟩
      obtain ⟨hrow, hB⟩ := H.out
      obtain ⟨b1, o1, hae, hc1⟩ := HM.out.2 (by omega)
      subst hae
      have hw := hc1 k m hx
      obtain ⟨t0, t1, t2, t3, t4, t5⟩ := hw
      have hbb := hB.block b1 (World.block_lt_of_cell? w _ t0)
      have q0 : wr.cell? ⟨b1, o1 + k * 6, none⟩ = _ := (World.cell?_of_block (by exact hbb)).trans t0
      have q1 : wr.cell? ⟨b1, o1 + k * 6 + 1, none⟩ = _ := (World.cell?_of_block (by exact hbb)).trans t1
      have q2 : wr.cell? ⟨b1, o1 + k * 6 + 2, none⟩ = _ := (World.cell?_of_block (by exact hbb)).trans t2
      have q3 : wr.cell? ⟨b1, o1 + k * 6 + 3, none⟩ = _ := (World.cell?_of_block (by exact hbb)).trans t3
      have q4 : wr.cell? ⟨b1, o1 + k * 6 + 4, none⟩ = _ := (World.cell?_of_block (by exact hbb)).trans t4
      have q5 : wr.cell? ⟨b1, o1 + k * 6 + 5, none⟩ = _ := (World.cell?_of_block (by exact hbb)).trans t5
      have hst : Hid (L.take (k + 1) = L.take k ++ [m.id]) := by
        have hkl := (List.getElem?_eq_some_iff.1 hx).1
        have hx' : ms[k] = m := (List.getElem?_eq_some_iff.1 hx).2
        show _ = _
        rw [HL.out, ← List.map_take, ← List.map_take, List.take_succ_eq_append_getElem hkl, hx']
        simp
      have i2 : (k : Int) < (n : Int) := by omega
      have i3 : ¬ n ≤ k := by omega
      have HB : Hid (Below w.heap.size w wr) := hB
      obtain ⟨mid, mt, mpa, mpn, mpc, mau, md, mtx, mps⟩ := m
      simp only at q0 q1 q2 q3 q4 q5 hst
      have hr1 := (hrow.alloc (.cells #[.int .u64 mid, .int .u64 mt, .slice mpa mpn mpc, .string mau, .int .i64 md, .string mtx] 137)).alloc (.cells #[.int .u64 mid] 31)
      have HB2 : Hid (Below w.heap.size w ((wr.alloc (.cells #[.int .u64 mid, .int .u64 mt, .slice mpa mpn mpc, .string mau, .int .i64 md, .string mtx] 137)).alloc (.cells #[.int .u64 mid] 31))) := (hB.alloc hB.size _).alloc (by have := hB.size; simp; omega) _
      have HCN : Hid (∀ j u, [Value.int .u64 mid][j]? = some u → ((wr.alloc (.cells #[.int .u64 mid, .int .u64 mt, .slice mpa mpn mpc, .string mau, .int .i64 md, .string mtx] 137)).alloc (.cells #[.int .u64 mid] 31)).cell? ((⟨wr.heap.size + 1, 0, none⟩ : Addr).add j) = some u) := by
        have := cell_one_new (wr.alloc (.cells #[.int .u64 mid, .int .u64 mt, .slice mpa mpn mpc, .string mau, .int .i64 md, .string mtx] 137)) (.int .u64 mid) 31
        rw [World.size_alloc] at this
        exact this
      clear hc1 hx t0 t1 t2 t3 t4 t5 hbb H hB hrow
      go_wp2_with (at_builtin; (refine wpList_append_own_at _ rfl _ _ 28 rfl w.heap.size 31 i0 _ 1 8 Tryz.underlying28 hi hz0 hz1 hz2 rfl (by decide) _ k _ rfl hr1 ⟨_, 0, none⟩ 1 1 [.int .u64 mid] rfl rfl HCN.out (by simp [Value.oneCell']) (by unfold maxLen; omega) (by omega) HB2.out.size ?_; intro v' w5 hown5 hgr5 _ hat5; have HB5 : Hid (Below w.heap.size w w5) := HB2.out.trans (below_gr1 hr1 HB2.out.size hgr5); have H5 : Hid (w5.ownsRow w.heap.size 31 1 v' (k + 1) ((L.take k).map (Value.int .u64) ++ [.int .u64 mid])) := hown5; clear hgr5 hat5; obtain ⟨ad5, cp5, hv5, _⟩ := row_shapeN hown5; clear hown5; subst hv5))
      go_roundw
      case rel => exact ⟨k + 1, ad5, cp5, by omega, by simp, rfl, by rw [hst.out, List.map_append]; exact H5.out, HB5.out⟩
      case measure => simp [intOf]; omega
    · obtain rfl : k = n := by omega
      have i2 : ¬ (k : Int) < (k : Int) := by omega
      have e0 : L.take k = L := List.take_of_length_le (by rw [HL.out, List.length_map]; omega)
      rw [e0] at H
      obtain ⟨hrow, hB⟩ := H.out
      clear H
      have HR : Hid (wr.ownsRow w.heap.size 31 1 (.slice ad k cp) k (L.map (Value.int .u64))) := hrow
      clear hrow
      go_wp2
      go_ret
      exact ⟨ad, cp, rfl, HR.out, hB⟩

theorem order_nil (w : World) (v : Value) : Calls Tryz.prog 26 #[.pointer none, v] w fun e w' => e = .returned (.tuple #[.slice none 0 0, .int .i64 1]) ∧ w' = w := by
  have hr := gread_nil w v
  go_enter Tryz.func26, Tryz.ntmps26
  go_wp2_with (go_at_call 44; refine hr.mono ?_; clear hr; rintro e w1 ⟨rfl, h1⟩; subst h1)
  go_ret2
  exact ⟨rfl, rfl⟩
/-- a list of ids that a call has made, or its error -/
def LOut (w : World) (R : GR) (e : Ending) (w' : World) : Prop := match R with
  | .bad er => e = .returned (.tuple #[.slice none 0 0, .int .i64 er]) ∧ er ≠ 0
  | .ok gs => ∃ ad cp, e = .returned (.tuple #[.slice ad gs.ord.length cp, .int .i64 0]) ∧ w'.ownsRow w.heap.size 31 1 (.slice ad gs.ord.length cp) gs.ord.length (gs.ord.map (Value.int .u64))
theorem row_low {w : World} {e : TypeId} {B B' n z : Nat} {v : Value} {xs : List Value} (h : w.ownsRow B e z v n xs) (hb : B' ≤ B) : w.ownsRow B' e z v n xs := by
  refine ⟨h.1, ?_⟩
  rcases h.2 with h0 | ⟨g, cap, cur, h1, h2, h3⟩
  · exact .inl h0
  · exact .inr ⟨g, cap, cur, h1, by omega, h3⟩
set_option maxRecDepth 20000 in
theorem order_any (w : World) (s d : Nat) (os : List Ob) (sz : Nat) (cut : Bool) (F : Nat → Prop) (hS : IsSt w s d os sz cut F) (hos : os.length ≤ 65536) (a : Option Addr) (n c : Nat) (l : List Int) (hl : Ids w a n l) (hr : ∀ x ∈ l, 0 ≤ x ∧ x ≤ 18446744073709551615) (hnc : n ≤ c) (hn : n ≤ 1000000000) :
    Calls Tryz.prog 26 #[.pointer (some ⟨s, 0, none⟩), .slice a n c] w fun e w' => Below w.heap.size w w' ∧ LOut w (ordG os l GS.none) e w' := by
  have hrd := gread_any w s d os sz cut F hS hos a n c l hl hr hnc hn
  generalize ordG os l GS.none = R at *
  have hC : n + 1 + os.length * 10 ≤ 1000000000000 := by omega
  generalize n + 1 + os.length * 10 = C at *
  cases R with
  | bad er =>
    go_enter Tryz.func26, Tryz.ntmps26
    go_wp2_with (go_at_call 44; refine hrd.mono ?_; clear hrd; rintro e w1 ⟨hB1, he, hne⟩; subst he; have hne2 : (er == 0) = false := beq_eq_false_iff_ne.2 hne)
    go_ret2
    exact ⟨hB1, rfl, hne⟩
  | ok gs =>
    go_enter Tryz.func26, Tryz.ntmps26
    go_wp2_with first
      | (go_at_call 44; refine hrd.mono ?_; clear hrd; rintro e w1 ⟨hB1, h, mb, ov, ms, K, cc, he, hN⟩; subst he; have c2 := hN.H.c2; have hrow := hN.H.row; obtain ⟨oa, oc, hov, _⟩ := row_shapeN hrow; subst hov; have hmm := row_mems hrow rfl; have hlen : Hid (ms.length = gs.ord.length ∧ ms.map Mb.id = gs.ord) := ⟨by rw [← hN.ord, List.length_map], hN.ord⟩; have hid := ids_any w1 oa ms.length oc ms hmm (Nat.le_trans hN.mc hC); rw [hlen.out.1, hlen.out.2] at hid; rw [hlen.out.1] at c2; have HB1 : Hid (Below w.heap.size w w1) := hB1; clear hN hrow hmm hlen hB1; generalize hgl : gs.ord.length = GL at *; have HGL : Hid (gs.ord.length = GL) := hgl; clear hgl)
      | (go_at_call 45; refine hid.mono ?_; clear hid; rintro e w2 ⟨ad, cp, rfl, hrow2, hB2⟩; have HR2 : Hid (w2.ownsRow w1.heap.size 31 1 (.slice ad GL cp) GL (gs.ord.map (Value.int .u64))) := hrow2; clear hrow2)
    go_ret2
    refine ⟨HB1.out.trans (hB2.mono HB1.out.size), ad, cp, by rw [HGL.out]; rfl, ?_⟩
    rw [HGL.out]
    exact row_low HR2.out HB1.out.size
end Go.Proofs.YtncagdfbgpdhfaaGreat

/- A history of the laws of layer 11 in memory, while it is made. -/
namespace Go.Proofs.YtncagdfbgpdhfaaGreat
open Go.RowKit Go.Maps

/-- a node in memory -/
structure Nd where
  id : Int
  pa : Option Addr
  pn : Nat
  pc : Nat
  other : Bool
  ps : List Int
def Nd.told (x : Nd) : Int × List Int × Bool := (x.id, x.ps, x.other)
def ndCells : List Nd → List Value
  | [] => []
  | x :: r => .int .u64 x.id :: .slice x.pa x.pn x.pc :: .bool x.other :: ndCells r
theorem ndCells_one : ∀ (l : List Nd), ∀ u ∈ ndCells l, u.oneCell' = true
  | [], u, h => by cases h
  | m :: r, u, h => by
    simp only [ndCells, List.mem_cons] at h
    rcases h with rfl | rfl | rfl | h
    · rfl
    · rfl
    · rfl
    · exact ndCells_one r u h
theorem ndCells_append : ∀ (l m : List Nd), ndCells (l ++ m) = ndCells l ++ ndCells m
  | [], m => rfl
  | x :: r, m => by simp [ndCells, ndCells_append r m]
theorem ndCells_get : ∀ (l : List Nd) (j : Nat) (x : Nd), l[j]? = some x → (ndCells l)[j * 3]? = some (.int .u64 x.id) ∧ (ndCells l)[j * 3 + 1]? = some (.slice x.pa x.pn x.pc) ∧ (ndCells l)[j * 3 + 2]? = some (.bool x.other)
  | [], j, m, h => by simp at h
  | y :: r, 0, m, h => by
    simp at h; subst h
    exact ⟨rfl, rfl, rfl⟩
  | y :: r, j + 1, m, h => by
    have ih := ndCells_get r j m (by simpa using h)
    rw [show (j + 1) * 3 = j * 3 + 3 by omega]
    exact ih
theorem cells_node_new (w : World) (x : Nd) : ∀ j u, (ndCells [x])[j]? = some u → (w.alloc (.cells #[.int .u64 x.id, .slice x.pa x.pn x.pc, .bool x.other] 85)).cell? ((⟨w.heap.size, 0, none⟩ : Addr).add j) = some u := by
  intro j u hj
  have hb := World.alloc_heap_new w (.cells #[.int .u64 x.id, .slice x.pa x.pn x.pc, .bool x.other] 85)
  generalize w.alloc (.cells #[.int .u64 x.id, .slice x.pa x.pn x.pc, .bool x.other] 85) = W at hb
  rw [Addr.add_lit]
  match j, hj with
  | 0, hj => simp [ndCells] at hj; subst hj; simp [World.cell?, hb]
  | 1, hj => simp [ndCells] at hj; subst hj; simp [World.cell?, hb]
  | 2, hj => simp [ndCells] at hj; subst hj; simp [World.cell?, hb]
  | j + 3, hj => simp [ndCells] at hj
theorem infoNode : (Tryz.prog.info? 85).map (fun i => (i.zero, i.size, i.bytes)) = some (some (.agg #[.int .u64 0, .slice none 0 0, .bool false]), 3, 40) := by kernel_rfl
end Go.Proofs.YtncagdfbgpdhfaaGreat

/- The walk of the law's wakes. -/
namespace Go.Proofs.YtncagdfbgpdhfaaGreat
open Go.RowKit Go.Shelf Go.Maps

attribute [local go_sem] Oper.semAt_some

/-- a blob of bytes that lie in memory -/
theorem blob_at {W : World} {a : Option Addr} {b : List UInt8} {c : Nat} (hb : Bytes W a b.length b) (hnil : a = none → b.length = 0 ∧ c = 0) (hl : b.length ≤ 4096) : ObS (.blob b) (.iface 82 (.agg #[.slice a b.length c])) W :=
  ⟨⟨a, c, rfl, hb, hnil, by omega⟩, trivial⟩
theorem snew_any (w : World) : Calls Tryz.prog 34 #[] w fun e w' => e = .returned (.pointer (some ⟨w.heap.size + 1, 0, none⟩)) ∧ ∃ G, IsDisk w' (w.heap.size + 1) ⟨fun _ => none, 0, 0, false, 0⟩ G ∧ (∀ k, G k → w.heap.size ≤ k) ∧ Below w.heap.size w w' := by
  refine (new_any w).mono ?_
  rintro e w' ⟨he, hd, hB⟩
  exact ⟨he, _, hd, fun k hk => by rcases hk with h | h <;> omega, hB⟩
end Go.Proofs.YtncagdfbgpdhfaaGreat

/- What becomes of a store into which an object is put that may be there; the empty tree. -/
namespace Go.Proofs.YtncagdfbgpdhfaaGreat
open Go.RowKit Go.Shelf Go.Maps

attribute [local go_sem] Oper.semAt_some

theorem file_bound (os : List Ob) (h : ∀ o ∈ os, (obB o).length ≤ 16384) : (fileB (os.map obB)).length ≤ os.length * 16402 := by
  induction os with
  | nil => simp [fileB]
  | cons o os ih =>
    have h1 := ih (fun p hp => h p (by simp [hp]))
    have h2 := h o (by simp)
    have h3 := (recB_pos (obB o)).2
    have e : (fileB ((o :: os).map obB)).length = (recB (obB o)).length + (fileB (os.map obB)).length := by simp [fileB]
    rw [e, List.length_cons, Nat.add_mul]
    omega
/-- how Put ends -/
def POut (w : World) (s d : Nat) (F G : Nat → Prop) (o : Ob) (R : Option (List Ob)) (e : Ending) (w' : World) : Prop := match R with
  | none => e = .returned (.tuple #[.int .u64 0, .int .i64 7])
  | some os' => e = .returned (.tuple #[.int .u64 (oid o), .int .i64 0]) ∧ ∃ S' F' G', StG w' s d os' S' F' G' ∧ (∀ k, F' k → F k ∨ w.heap.size ≤ k) ∧ (∀ k, G' k → G k ∨ w.heap.size ≤ k)
theorem gput_any (w : World) (s d : Nat) (os : List Ob) (S : DG) (F G : Nat → Prop) (h : StG w s d os S F G) (v : Value) (o : Ob) (hv : ∀ W, Turn (fun k => F k ∨ G k) w W → ObS o v W) (h0 : obErr o = 0) (hn : os.length ≤ 200) (hlen : ∀ p ∈ os, (obB p).length ≤ 16384) :
    Calls Tryz.prog 36 #[.pointer (some ⟨s, 0, none⟩), v] w fun e w' => Turn (fun k => F k ∨ G k) w w' ∧ POut w s d F G o (putG os o) e w' := by
  have hv0 := hv w (Turn.refl _ _)
  have hl0 := obB_len hv0.1 h0
  unfold putG
  cases hf : findO os (oid o) with
  | none =>
    have hfb := file_bound os hlen
    have hrp := (recB_pos (obB o)).2
    refine (sput_good w s d os S F G h v o hv h0 hf (by omega) (by omega)).mono ?_
    rintro e w' ⟨he, hT, S', F', G', h1, h2, h3⟩
    exact ⟨hT, he, S', F', G', h1, h2, h3⟩
  | some p =>
    have h9 := h
    obtain ⟨j, b, M, u, FJ, O, hst⟩ := h.st
    refine (sput_there w s d j b M u _ os _ false FJ O F hst v o p hv0.1 h0 hf).mono ?_
    rintro e w' ⟨he, hB⟩
    refine ⟨Turn.of_below _ hB, ?_⟩
    by_cases hp : obB p = obB o
    · simp only [hp, if_true] at he ⊢
      exact ⟨he, S, F, G, h9.below hB, fun k hk => .inl hk, fun k hk => .inl hk⟩
    · simp only [hp, if_false] at he ⊢
      exact he
theorem empty_ob (W : World) : ObS (.tree []) (.iface 125 (.agg #[.slice none 0 0])) W := ⟨⟨none, 0, rfl, ⟨rfl, fun h => absurd h (by simp)⟩, ⟨fun j x hx => by simp at hx, fun j x hx => by simp at hx⟩, by simp⟩, fun ad cp e _ => by cases e; exact ⟨rfl, rfl⟩⟩
theorem empty_err : obErr (.tree []) = 0 := by decide
theorem empty_any (w : World) (s d : Nat) (S : DG) (F G : Nat → Prop) (h : StG w s d [] S F G) :
    Calls Tryz.prog 35 #[.pointer (some ⟨s, 0, none⟩)] w fun e w' => e = .returned (.tuple #[.int .u64 emptyI, .int .i64 0]) ∧ Turn (fun k => F k ∨ G k) w w' ∧ ∃ S' F' G', StG w' s d [.tree []] S' F' G' ∧ (∀ k, F' k → F k ∨ w.heap.size ≤ k) ∧ (∀ k, G' k → G k ∨ w.heap.size ≤ k) := by
  have hx : Calls Tryz.prog 36 #[.pointer (some ⟨s, 0, none⟩), .iface 125 (.agg #[.slice none 0 0])] w fun e w' => e = .returned (.tuple #[.int .u64 emptyI, .int .i64 0]) ∧ Turn (fun k => F k ∨ G k) w w' ∧ ∃ S' F' G', StG w' s d [.tree []] S' F' G' ∧ (∀ k, F' k → F k ∨ w.heap.size ≤ k) ∧ (∀ k, G' k → G k ∨ w.heap.size ≤ k) :=
    (gput_any w s d [] S F G h _ (.tree []) (fun W _ => empty_ob W) empty_err (by simp) (by simp)).mono fun e w' hx => ⟨hx.2.1, hx.1, hx.2.2⟩
  generalize emptyI = E at *
  go_enter Tryz.func35, Tryz.ntmps35
  go_wp2_with (go_at_call 36; refine hx.mono ?_; clear hx; rintro e w1 ⟨rfl, hR⟩; have HR : Hid (Turn (fun k => F k ∨ G k) w w1 ∧ ∃ S' F' G', StG w1 s d [.tree []] S' F' G' ∧ (∀ k, F' k → F k ∨ w.heap.size ≤ k) ∧ (∀ k, G' k → G k ∨ w.heap.size ≤ k)) := hR; clear hR)
  go_ret2
  exact ⟨rfl, HR.out⟩
end Go.Proofs.YtncagdfbgpdhfaaGreat

/- What stands within a round of born: the commit as it was handed in, and the commit that is made of it. -/
namespace Go.Proofs.YtncagdfbgpdhfaaGreat
open Go.RowKit Go.Maps

theorem five_cells {W : World} {n : Nat} {a b c d e : Value} {t : TypeId} (h : W.heap[n]? = some (.cells #[a, b, c, d, e] t)) : W.cell? ⟨n, 0, none⟩ = some a ∧ W.cell? ⟨n, 1, none⟩ = some b ∧ W.cell? ⟨n, 2, none⟩ = some c ∧ W.cell? ⟨n, 3, none⟩ = some d ∧ W.cell? ⟨n, 4, none⟩ = some e := by
  simp [World.cell?, h]
theorem five_frozen {W : World} {n : Nat} {a b c d e : Value} {t : TypeId} (h : W.heap[n]? = some (.cells #[a, b, c, d, e] t)) (j : Nat) : W.frozen? ⟨n, j, none⟩ = false := by
  simp [World.frozen?, h]
theorem lt_of_block {W : World} {n : Nat} {o : Obj} (h : W.heap[n]? = some o) : n < W.heap.size := (Array.getElem?_eq_some_iff.1 h).1
end Go.Proofs.YtncagdfbgpdhfaaGreat

/- The later half of a round of born: an object is put, a node, an id and a mark are appended. -/
namespace Go.Proofs.YtncagdfbgpdhfaaGreat
open Go.RowKit Go.Maps

end Go.Proofs.YtncagdfbgpdhfaaGreat
