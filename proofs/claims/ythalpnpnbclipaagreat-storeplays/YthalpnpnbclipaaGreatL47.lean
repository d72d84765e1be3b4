import Derived.Test.YthalpnpnbclipaaGreatL34
import Derived.Test.YthalpnpnbclipaaGreatL09
import Derived.Test.YthalpnpnbclipaaGreatL43
import Derived.Test.YthalpnpnbclipaaGreatL46
/- The things of the law StorePlays: their bytes by the document, and the objects that they are. -/
namespace Go.Proofs.YthalpnpnbclipaaGreat
open Go.RowKit Go.Shelf Go.Maps

attribute [local go_sem] Oper.semAt_some

structure Th where
  kind : Int
  ba : Option Addr
  bn : Nat
  bc : Nat
  bl : List UInt8
  ta : Option Addr
  tn : Nat
  tc : Nat
  tl : List Ent
  t : Int
  pa : Option Addr
  pn : Nat
  pc : Nat
  ps : List Int
  au : ByteArray
  d : Int
  tx : ByteArray
def Th.vals (x : Th) : Array Value := #[.int .i64 x.kind, .slice x.ba x.bn x.bc, .slice x.ta x.tn x.tc, .int .u64 x.t, .slice x.pa x.pn x.pc, .string x.au, .int .i64 x.d, .string x.tx]
def Th.ob (x : Th) : Option Ob := if x.kind = 1 then some (.blob x.bl) else if x.kind = 2 then some (.tree x.tl) else if x.kind = 3 then some (.com (x.t, x.ps, x.au, x.d, x.tx)) else none
def Th.err (x : Th) : Int := match x.ob with
  | none => 160
  | some o => obErr o
def Th.bytes (x : Th) : List UInt8 := match x.ob with
  | none => []
  | some o => if obErr o = 0 then obB o else []
structure ThAt (w : World) (x : Th) : Prop where
  b : Bytes w x.ba x.bn x.bl
  bnil : x.ba = none → x.bn = 0 ∧ x.bc = 0
  bm : x.bn ≤ 140737488351232
  tr : Ents w x.ta x.tn x.tl
  fld : Fields x.tl
  tm : x.tn * 32 ≤ 140737488351232
  tnil : x.ta = none → x.tn = 0 ∧ x.tc = 0
  com : Com w x.t x.pa x.pn x.pc x.ps x.au x.d x.tx
  pm : x.pn * 8 ≤ 140737488351232
theorem ThAt.below {w w' : World} {x : Th} (h : ThAt w x) (hB : Below w.heap.size w w') : ThAt w' x := { h with b := bytes_below h.b hB, tr := h.tr.below hB, com := h.com.below hB }

theorem refBlob_own (a : Option Addr) (n c : Nat) (l : List UInt8) (w : World) (hb : Bytes w a n l) (hnil : a = none → n = 0 ∧ c = 0) :
    Calls Tryz.prog 32 #[.slice a n c] w fun e w' => ∃ v, e = .returned (.tuple #[v, .int .i64 (blobErr n)]) ∧ OwnB w.heap.size (if blobErr n = 0 then 98 :: l else []) v w' ∧ Below w.heap.size w w' := by
  have hck := refCheckBlob_any a n c w
  unfold blobErr at hck ⊢
  by_cases h : 4096 < n
  · rw [if_pos h] at hck
    rw [if_pos h, if_neg (by decide)]
    go_enter Tryz.func32, Tryz.ntmps32
    go_wp2_with (go_at_call 65; refine hck.mono ?_; rintro e w1 ⟨rfl, h1⟩; subst h1)
    go_ret2
    exact ⟨_, rfl, ⟨World.ownsRow_nil _ _ _ _⟩, Below.refl _ _⟩
  · rw [if_neg h] at hck
    rw [if_neg h, if_pos rfl]
    have hB0 : Below w.heap.size w (w.alloc (.cells #[.int .u8 98] 5)) := (Below.refl _ w).alloc (Nat.le_refl _) _
    have hr0 : (w.alloc (.cells #[.int .u8 98] 5)).ownsRow w.heap.size 5 1 (.slice (some ⟨w.heap.size, 0, none⟩) 1 1) 1 (cellsOf [98]) := World.ownsRow_lit w #[.int .u8 98] 1 (Nat.le_refl _) (by unfold maxLen; omega) rfl
    have hb0 := bytes_below hb hB0
    have hll := hb.1
    go_enter Tryz.func32, Tryz.ntmps32
    go_wp2_with first
      | (go_at_call 65; refine hck.mono ?_; clear hck; rintro e w1 ⟨rfl, h1⟩; subst h1)
      | (at_builtin; refine wpList_app _ _ (by simp) rfl _ _ rfl _ 1 _ rfl hr0 a n c l rfl hb0 hnil (by omega) ?_; intro v' w2 hown hgrow _; have hO : OwnB w1.heap.size (98 :: l) v' w2 := ⟨by have h := hown; rw [← cellsOf_append] at h; simp only [List.length_cons, hll, List.singleton_append] at h ⊢; rw [Nat.add_comm n 1]; exact h⟩; obtain ⟨ad, cp, hv, _⟩ := hO.shape (n := n + 1) (by simp [hll]); subst hv; clear hown)
    go_ret2
    exact ⟨_, rfl, hO, hB0.grown hgrow (by simp) (by intro k hk; cases hk; exact Nat.le_refl _)⟩

theorem own_low {B B' : Nat} {l : List UInt8} {v : Value} {w : World} (h : OwnB B l v w) (hb : B' ≤ B) : OwnB B' l v w := by
  refine ⟨h.row.1, ?_⟩
  rcases h.row.2 with h0 | ⟨g, cap, cur, h1, h2, h3⟩
  · exact .inl h0
  · exact .inr ⟨g, cap, cur, h1, by omega, h3⟩

theorem wpList_app3w (w : World) (B : Nat) (hB : B ≤ w.heap.size) {ops : Array Oper} {rest : List Oper} {o : Oper} {a : Act} {Q : Exit → Act → World → Prop} (hgd : o.guard = none) (s x : Operand)
    (ho : o.op = .call { callee := .builtin .append, args := #[s, x], argTypes := #[37, 37] })
    (v : Value) (n : Nat) (k : List Ent) (hs : a.eval s = v) (hown : w.ownsRow B 127 3 v n (entCells k)) (ad : Option Addr) (m c : Nat) (l : List Ent) (hx : a.eval x = .slice ad m c) (hb : Ents w ad m l) (hnil : ad = none → m = 0 ∧ c = 0) (hm : (n + m) * 32 ≤ 140737488355328)
    (h : ∀ v' w', w'.ownsRow B 127 3 v' (n + m) (entCells (k ++ l)) → w.grownBy w' v.ownBlock → wpList Tryz.prog ops Q rest (a.put o.dst v') w') : wpList Tryz.prog ops Q (o :: rest) a w := by
  obtain ⟨i0, hi, hz0, hz1, hz2⟩ := info_parts infoEntry
  cases ad with
  | none =>
    obtain ⟨rfl, rfl⟩ := hnil rfl
    have hl : l = [] := List.eq_nil_of_length_eq_zero hb.1
    subst hl
    refine wpList_plain hgd fun K hK => ?_
    have hr := run_append_owned_none (P := Tryz.prog) (w := w) B 37 o.type 127 i0 3 Tryz.underlying37 hi v n _ hown
    unfold Oper.wp execOp
    simp only [ho, resolve, invoke, builtin, Sem.run_bind, Sem.run_pure, Result.andThen_ok, List.map_toArray, List.map_cons, List.map_nil, hs, hx, hr]
    exact hK _ _ (h v w (by rw [List.append_nil]; exact hown) ⟨rfl, rfl, rfl, Nat.le_refl _, fun _ _ _ => rfl⟩)
  | some q =>
    refine wpList_append_own w hgd s x 37 ho B 127 i0 _ 3 32 Tryz.underlying37 hi hz0 hz1 hz2 rfl (by decide) v n _ hs hown q m c (entCells l) hx (by rw [entCells_len, hb.1]) ?_ (entCells_one l) (by unfold maxLen; omega) (by omega) hB fun v' w' h1 h2 _ => h v' w' (by rw [entCells_append]; exact h1) h2
    intro j u hj
    have hl := hb.1
    by_cases hm0 : 0 < m
    · obtain ⟨b, off, e, hc⟩ := hb.2 hm0
      cases e
      rw [Addr.add_lit]
      exact ents_news l off hc j u hj
    · have : l = [] := List.eq_nil_of_length_eq_zero (by omega)
      subst this
      simp [entCells] at hj
theorem wpList_appIw (w : World) (B : Nat) (hB : B ≤ w.heap.size) {ops : Array Oper} {rest : List Oper} {o : Oper} {a : Act} {Q : Exit → Act → World → Prop} (hgd : o.guard = none) (s x : Operand)
    (ho : o.op = .call { callee := .builtin .append, args := #[s, x], argTypes := #[32, 32] })
    (v : Value) (n : Nat) (k : List Int) (hs : a.eval s = v) (hown : w.ownsRow B 24 1 v n (k.map (Value.int .u64))) (ad : Option Addr) (m c : Nat) (l : List Int) (hx : a.eval x = .slice ad m c) (hb : Ids w ad m l) (hnil : ad = none → m = 0 ∧ c = 0) (hm : (n + m) * 8 ≤ 140737488355328)
    (h : ∀ v' w', w'.ownsRow B 24 1 v' (n + m) ((k ++ l).map (Value.int .u64)) → w.grownBy w' v.ownBlock → wpList Tryz.prog ops Q rest (a.put o.dst v') w') : wpList Tryz.prog ops Q (o :: rest) a w := by
  obtain ⟨i0, hi, hz0, hz1, hz2⟩ := info_parts infoId
  cases ad with
  | none =>
    obtain ⟨rfl, rfl⟩ := hnil rfl
    have hl : l = [] := List.eq_nil_of_length_eq_zero hb.1
    subst hl
    refine wpList_plain hgd fun K hK => ?_
    have hr := run_append_owned_none (P := Tryz.prog) (w := w) B 32 o.type 24 i0 1 Tryz.underlying32 hi v n _ hown
    unfold Oper.wp execOp
    simp only [ho, resolve, invoke, builtin, Sem.run_bind, Sem.run_pure, Result.andThen_ok, List.map_toArray, List.map_cons, List.map_nil, hs, hx, hr]
    exact hK _ _ (h v w (by rw [List.append_nil]; exact hown) ⟨rfl, rfl, rfl, Nat.le_refl _, fun _ _ _ => rfl⟩)
  | some q =>
    refine wpList_append_own w hgd s x 32 ho B 24 i0 _ 1 8 Tryz.underlying32 hi hz0 hz1 hz2 rfl (by decide) v n _ hs hown q m c (l.map (Value.int .u64)) hx (by rw [List.length_map, hb.1]; omega) ?_ (by intro u hu; obtain ⟨y, _, rfl⟩ := List.mem_map.1 hu; rfl) (by unfold maxLen; omega) (by omega) hB fun v' w' h1 h2 _ => h v' w' (by rw [List.map_append]; exact h1) h2
    intro j u hj
    rw [List.getElem?_map] at hj
    have hl := hb.1
    cases hlj : l[j]? with
    | none => rw [hlj] at hj; cases hj
    | some y =>
      rw [hlj] at hj
      have hjl := (List.getElem?_eq_some_iff.1 hlj).1
      obtain ⟨b, off, e, hc⟩ := hb.2 (by omega)
      cases e
      rw [Addr.add_lit, hc j y hlj]
      exact hj

set_option maxRecDepth 20000 in
set_option maxHeartbeats 4000000 in
theorem tbytes_any (w : World) (x : Th) (h : ThAt w x) :
    Calls Tryz.prog 10 #[.agg x.vals] w fun e w' => ∃ v, e = .returned (.tuple #[v, .int .i64 x.err]) ∧ OwnB w.heap.size x.bytes v w' ∧ Below w.heap.size w w' := by
  obtain ⟨kind, ba, bn, bc, bl, ta, tn, tc, tl, t, pa, pn, pc, ps, au, d, tx⟩ := x
  have hB0 : Below w.heap.size w (w.alloc (.cells #[.int .i64 kind, .slice ba bn bc, .slice ta tn tc, .int .u64 t, .slice pa pn pc, .string au, .int .i64 d, .string tx] 41)) := (Below.refl _ w).alloc (Nat.le_refl _) _
  have h1 := h.below hB0
  have hbn := h.b.1
  have hbl := refBlob_own _ _ bc _ _ h1.b h1.bnil
  have htr := refTree_any _ _ tc _ _ h1.tr h1.fld (by have := h1.tm; simp only at this ⊢; omega)
  have hcm := refCom_any _ _ _ _ _ _ _ _ _ h1.com
  simp only at hbl htr hcm hbn
  obtain ⟨E, hE⟩ : ∃ E, E = Th.err ⟨kind, ba, bn, bc, bl, ta, tn, tc, tl, t, pa, pn, pc, ps, au, d, tx⟩ := ⟨_, rfl⟩
  obtain ⟨BT, hBT⟩ : ∃ BT, BT = Th.bytes ⟨kind, ba, bn, bc, bl, ta, tn, tc, tl, t, pa, pn, pc, ps, au, d, tx⟩ := ⟨_, rfl⟩
  rw [← hE, ← hBT]
  unfold Th.vals
  simp only
  have HS : Hid (w.heap.size ≤ (w.alloc (.cells #[.int .i64 kind, .slice ba bn bc, .slice ta tn tc, .int .u64 t, .slice pa pn pc, .string au, .int .i64 d, .string tx] 41)).heap.size) := hB0.size
  clear h h1
  by_cases h1 : kind = 1
  · subst h1
    have e1 : blobErr bn = E := by rw [hE, ← hbn]; rfl
    have e2 : (if blobErr bn = 0 then 98 :: bl else []) = BT := by rw [hBT, ← hbn]; rfl
    rw [e2, e1] at hbl
    clear htr hcm hE hBT e1 e2
    go_enter Tryz.func10, Tryz.ntmps10
    go_wp2_with (go_at_call 32; refine hbl.mono ?_; clear hbl; rintro e w1 ⟨v, rfl, ho, hB1⟩; have HO : Hid (OwnB w.heap.size BT v w1) := own_low ho HS.out; have HB : Hid (Below w.heap.size w w1) := hB0.trans (hB1.mono HS.out); clear ho hB1)
    go_ret2
    exact ⟨_, rfl, HO.out, HB.out⟩
  · by_cases h2 : kind = 2
    · subst h2
      have e1 : treeErrs tl = E := by rw [hE]; rfl
      have e2 : (if treeErrs tl = 0 then treeB tl else []) = BT := by rw [hBT]; rfl
      rw [e2, e1] at htr
      clear hbl hcm hE hBT e1 e2
      go_enter Tryz.func10, Tryz.ntmps10
      go_wp2_with (go_at_call 33; refine htr.mono ?_; clear htr; rintro e w1 ⟨v, rfl, ho, hB1⟩; have HO : Hid (OwnB w.heap.size BT v w1) := own_low ho HS.out; have HB : Hid (Below w.heap.size w w1) := hB0.trans (hB1.mono HS.out); clear ho hB1)
      go_ret2
      exact ⟨_, rfl, HO.out, HB.out⟩
    · by_cases h3 : kind = 3
      · subst h3
        have e1 : comErr t ps au tx = E := by rw [hE]; rfl
        have e2 : comT t ps au d tx = BT := by rw [hBT]; rfl
        rw [e2, e1] at hcm
        clear hbl htr hE hBT e1 e2
        go_enter Tryz.func10, Tryz.ntmps10
        go_wp2_with (go_at_call 34; refine hcm.mono ?_; clear hcm; rintro e w1 ⟨v, rfl, ho, hB1⟩; have HO : Hid (OwnB w.heap.size BT v w1) := own_low ho HS.out; have HB : Hid (Below w.heap.size w w1) := hB0.trans (hB1.mono HS.out); clear ho hB1)
        go_ret2
        exact ⟨_, rfl, HO.out, HB.out⟩
      · have e0 : Th.ob ⟨kind, ba, bn, bc, bl, ta, tn, tc, tl, t, pa, pn, pc, ps, au, d, tx⟩ = none := by unfold Th.ob; simp only [if_neg h1, if_neg h2, if_neg h3]
        have e1 : E = 160 := by rw [hE]; unfold Th.err; rw [e0]
        have e2 : BT = [] := by rw [hBT]; unfold Th.bytes; rw [e0]
        subst e1 e2
        clear hbl htr hcm hE hBT e0
        have k1 : (kind == 1) = false := beq_eq_false_iff_ne.2 h1
        have k2 : (kind == 2) = false := beq_eq_false_iff_ne.2 h2
        have k3 : (kind == 3) = false := beq_eq_false_iff_ne.2 h3
        go_enter Tryz.func10, Tryz.ntmps10
        go_wp2
        go_ret2
        exact ⟨_, rfl, ⟨World.ownsRow_nil _ _ _ _⟩, hB0⟩
/-- an object that lies in the blocks that a call has made -/
def ObN (w w' : World) (o : Ob) (v : Value) : Prop := ∀ X : World, (∀ k, w.heap.size ≤ k → k < w'.heap.size → X.heap[k]? = w'.heap[k]?) → ObS o v X
def ThOb (w w' : World) : Option Ob → Value → Prop
  | none, v => v = .nilIface
  | some o, v => ObN w w' o v
theorem row_new {w w' X : World} {e : TypeId} {B n z : Nat} {v : Value} {xs : List Value} (h : w'.ownsRow B e z v n xs) (hB : w.heap.size ≤ B) (hX : ∀ k, w.heap.size ≤ k → k < w'.heap.size → X.heap[k]? = w'.heap[k]?) : X.ownsRow B e z v n xs := by
  refine row_moved h fun g hg => ?_
  rcases h.2 with ⟨rfl, _⟩ | ⟨g', cap, cur, rfl, h1, h2, _⟩
  · cases hg
  · have e : g' = g := by simpa [Value.ownBlock] using hg
    subst e
    exact hX g' (by omega) (Array.getElem?_eq_some_iff.1 h2).1

theorem box5_frozen {W : World} {g : Nat} {a b c d e : Value} (h : Box5 W g a b c d e) : W.frozen? ⟨g, 1, none⟩ = false := by
  unfold Box5 at h
  simp [World.frozen?, h]

set_option maxRecDepth 20000 in
set_option maxHeartbeats 4000000 in
theorem tobject_any (w : World) (x : Th) (h : ThAt w x) :
    Calls Tryz.prog 12 #[.agg x.vals] w fun e w' => ∃ v, e = .returned v ∧ ThOb w w' x.ob v ∧ Below w.heap.size w w' := by
  obtain ⟨kind, ba, bn, bc, bl, ta, tn, tc, tl, t, pa, pn, pc, ps, au, d, tx⟩ := x
  obtain ⟨w0, hw0⟩ : ∃ w0, w0 = w.alloc (.cells #[.int .i64 kind, .slice ba bn bc, .slice ta tn tc, .int .u64 t, .slice pa pn pc, .string au, .int .i64 d, .string tx] 41) := ⟨_, rfl⟩
  obtain ⟨O, hO⟩ : ∃ O, O = Th.ob ⟨kind, ba, bn, bc, bl, ta, tn, tc, tl, t, pa, pn, pc, ps, au, d, tx⟩ := ⟨_, rfl⟩
  have hB0 : Below w.heap.size w w0 := by rw [hw0]; exact (Below.refl _ w).alloc (Nat.le_refl _) _
  have hs0 : w0.heap.size = w.heap.size + 1 := by rw [hw0]; simp
  rw [← hO]
  unfold Th.vals
  simp only
  have HH : Hid (ThAt w ⟨kind, ba, bn, bc, bl, ta, tn, tc, tl, t, pa, pn, pc, ps, au, d, tx⟩) := h
  have bnil := h.bnil
  have bm := h.bm
  have tnil := h.tnil
  have tm := h.tm
  have pnil := h.com.len.2.2
  have pm := h.pm
  simp only at bnil bm tnil tm pnil pm
  clear h
  by_cases h1 : kind = 1
  · subst h1
    obtain rfl : O = some (.blob bl) := hO
    have hb1 : Bytes (w0.alloc (.cells #[] 5)) ba bn bl := bytes_below HH.out.b (hB0.alloc hB0.size _)
    have hr1 : (w0.alloc (.cells #[] 5)).ownsRow w0.heap.size 5 1 (.slice (some ⟨w0.heap.size, 0, none⟩) 0 0) 0 (cellsOf []) := World.ownsRow_lit w0 #[] 0 (Nat.le_refl _) (by unfold maxLen; omega) rfl
    have HF : Hid (∀ v' w2, w2.ownsRow w0.heap.size 5 1 v' (0 + bn) (cellsOf [] ++ cellsOf bl) → (w0.alloc (.cells #[] 5)).grownBy w2 (some w0.heap.size) → ∃ ad cp, v' = .slice ad bn cp ∧ ThOb w w2 (some (.blob bl)) (.iface 65 (.agg #[.slice ad bn cp])) ∧ Below w.heap.size w w2) := fun v' w2 h2 hg => by
      rw [Nat.zero_add] at h2
      have h3 : w2.ownsRow w0.heap.size 5 1 v' bn (cellsOf bl) := h2
      obtain ⟨ad, cp, rfl, _, hn⟩ := row_shape h3
      have hll : bl.length = bn := HH.out.b.1
      refine ⟨ad, cp, rfl, fun X hX => ⟨?_, trivial⟩, (hB0.alloc hB0.size _).grown hg (by simp; omega) (by intro k hk; cases hk; omega)⟩
      subst hll
      exact ⟨ad, cp, rfl, row_bytes (row_new h3 (by omega) hX), hn, by omega⟩
    subst hw0
    rw [hs0] at hr1 HF
    go_enter Tryz.func12, Tryz.ntmps12
    go_wp2_with (at_builtin; refine wpList_app _ (w.heap.size + 1) (by simp) rfl _ _ rfl _ 0 _ rfl hr1 ba bn bc bl rfl hb1 bnil (by omega) ?_; intro v' w2 hown hgrow _; have hf := HF.out v' w2 hown hgrow; obtain ⟨ad, cp, hv, h4, h5⟩ := hf; subst hv; have H4 : Hid _ := h4; have H5 : Hid _ := h5; clear hown hgrow h4 h5)
    go_ret
    exact ⟨_, rfl, H4.out, H5.out⟩
  · by_cases h2 : kind = 2
    · subst h2
      obtain rfl : O = some (.tree tl) := hO
      have hb1 : Ents (w0.alloc (.cells #[] 127)) ta tn tl := HH.out.tr.below (hB0.alloc hB0.size _)
      have hr1 : (w0.alloc (.cells #[] 127)).ownsRow w0.heap.size 127 3 (.slice (some ⟨w0.heap.size, 0, none⟩) 0 0) 0 (entCells []) := World.ownsRow_lit w0 #[] 0 (Nat.le_refl _) (by unfold maxLen; omega) rfl
      have HF : Hid (∀ v' w2, w2.ownsRow w0.heap.size 127 3 v' (0 + tn) (entCells ([] ++ tl)) → (w0.alloc (.cells #[] 127)).grownBy w2 (some w0.heap.size) → ∃ ad cp, v' = .slice ad tn cp ∧ ThOb w w2 (some (.tree tl)) (.iface 69 (.agg #[.slice ad tn cp])) ∧ Below w.heap.size w w2) := fun v' w2 h2 hg => by
        rw [Nat.zero_add, List.nil_append] at h2
        obtain ⟨ad, cp, rfl, _, hn⟩ := row_shape3 h2
        have hll : tl.length = tn := HH.out.tr.1
        refine ⟨ad, cp, rfl, fun X hX => ⟨?_, ?_⟩, (hB0.alloc hB0.size _).grown hg (by simp; omega) (by intro k hk; cases hk; omega)⟩
        · subst hll
          exact ⟨ad, cp, rfl, own_ents (row_new h2 (by omega) hX) rfl, HH.out.fld, by omega⟩
        · subst hll
          intro ad' cp' e en
          cases e
          exact hn en
      subst hw0
      rw [hs0] at hr1 HF
      go_enter Tryz.func12, Tryz.ntmps12
      go_wp2_with (at_builtin; refine wpList_app3w _ (w.heap.size + 1) (by simp) rfl _ _ rfl _ 0 _ rfl hr1 ta tn tc tl rfl hb1 tnil (by omega) ?_; intro v' w2 hown hgrow; have hf := HF.out v' w2 hown hgrow; obtain ⟨ad, cp, hv, h4, h5⟩ := hf; subst hv; have H4 : Hid _ := h4; have H5 : Hid _ := h5; clear hown hgrow h4 h5)
      go_ret
      exact ⟨_, rfl, H4.out, H5.out⟩
    · by_cases h3 : kind = 3
      · subst h3
        obtain rfl : O = some (.com (t, ps, au, d, tx)) := hO
        obtain ⟨wc, hwc⟩ : ∃ wc, wc = w0.alloc (.cells #[.int .u64 t, .slice pa pn pc, .string au, .int .i64 d, .string tx] 39) := ⟨_, rfl⟩
        have hBc : Below w.heap.size w wc := by rw [hwc]; exact hB0.alloc hB0.size _
        have hsc : wc.heap.size = w.heap.size + 2 := by rw [hwc]; simp [hs0]
        have hb1 : Ids (wc.alloc (.cells #[] 24)) pa pn ps := HH.out.com.par.below (hBc.alloc hBc.size _)
        have hr1 : (wc.alloc (.cells #[] 24)).ownsRow wc.heap.size 24 1 (.slice (some ⟨wc.heap.size, 0, none⟩) 0 0) 0 (([] : List Int).map (Value.int .u64)) := World.ownsRow_lit wc #[] 0 (Nat.le_refl _) (by unfold maxLen; omega) rfl
        have HC : Hid (Com w t pa pn pc ps au d tx) := HH.out.com
        have hlen := HC.out.len
        have b5 : Box5 wc (w.heap.size + 1) (.int .u64 t) (.slice pa pn pc) (.string au) (.int .i64 d) (.string tx) := by rw [hwc, ← hs0]; exact Box5.new w0 _ _ _ _ _
        have HF : Hid (∀ v' w2, w2.ownsRow wc.heap.size 24 1 v' (0 + pn) (([] ++ ps).map (Value.int .u64)) → (wc.alloc (.cells #[] 24)).grownBy w2 (some wc.heap.size) → ∃ ad cp, v' = .slice ad pn cp ∧ Box5 w2 (w.heap.size + 1) (.int .u64 t) (.slice pa pn pc) (.string au) (.int .i64 d) (.string tx) ∧ ThOb w (w2.setCell ⟨w.heap.size + 1, 1, none⟩ (.slice ad pn cp)) (some (.com (t, ps, au, d, tx))) (.iface 39 (.agg #[.int .u64 t, .slice ad pn cp, .string au, .int .i64 d, .string tx])) ∧ Below w.heap.size w (w2.setCell ⟨w.heap.size + 1, 1, none⟩ (.slice ad pn cp))) := fun v' w2 h2 hg => by
          rw [Nat.zero_add, List.nil_append] at h2
          obtain ⟨ad, cp, rfl, hnc, hn⟩ := row_shape h2
          have hll : ps.length = pn := HH.out.com.par.1
          have hB2 : Below w.heap.size w w2 := (hBc.alloc hBc.size _).grown hg (by simp; omega) (by intro k hk; cases hk; omega)
          have hT : Turn (fun k => k = w.heap.size + 1) w2 (w2.setCell ⟨w.heap.size + 1, 1, none⟩ (.slice ad pn cp)) := turn_setCell w2 _ 1 _
          have h3 : (w2.setCell ⟨w.heap.size + 1, 1, none⟩ (.slice ad pn cp)).ownsRow wc.heap.size 24 1 (.slice ad pn cp) pn (ps.map (Value.int .u64)) := row_moved h2 fun g hg => hT.block g (row_block h2 g hg).2.1 (fun e => by have := (row_block h2 g hg).1; omega)
          refine ⟨ad, cp, rfl, ?_, fun X hX => ⟨?_, trivial⟩, hB2.trans (hT.below hB2.size (fun k hk => by omega))⟩
          · refine (hg.block _ (by simp; omega) (fun e => by have := Option.some.inj e; omega)).trans (((Below.refl _ wc).alloc (Nat.le_refl _) _).block _ (by omega) |>.trans b5)
          · subst hll
            obtain ⟨ad', c', e, hi⟩ := own_ids (row_new h3 (by omega) hX)
            cases e
            exact ⟨ad, cp, rfl, ⟨HC.out.tree, hi, HC.out.pars, ⟨hnc, HC.out.len.2.1, hn⟩, HC.out.author, HC.out.date, HC.out.text⟩⟩
        subst hwc hw0
        rw [hsc] at hr1 HF
        go_enter Tryz.func12, Tryz.ntmps12
        go_wp2_with (at_builtin; refine wpList_appIw _ (w.heap.size + 2) (by simp) rfl _ _ rfl _ 0 _ rfl hr1 pa pn pc ps rfl hb1 pnil (by omega) ?_; intro v' w2 hown hgrow; have hf := HF.out v' w2 hown hgrow; obtain ⟨ad, cp, hv, h4, h5⟩ := hf; subst hv; have c0 := h4.cell.1; have c2 := h4.cell.2.2.1; have c3 := h4.cell.2.2.2.1; have c4 := h4.cell.2.2.2.2; have c1 := h4.cell.2.1; have f1 := box5_frozen h4; have H5 : Hid _ := h5; clear hown hgrow h4 h5)
        go_ret
        exact ⟨_, rfl, H5.out.1, H5.out.2⟩
      · have e0 : O = none := by rw [hO]; unfold Th.ob; simp only [if_neg h1, if_neg h2, if_neg h3]
        subst e0
        have k1 : (kind == 1) = false := beq_eq_false_iff_ne.2 h1
        have k2 : (kind == 2) = false := beq_eq_false_iff_ne.2 h2
        have k3 : (kind == 3) = false := beq_eq_false_iff_ne.2 h3
        subst hw0
        go_enter Tryz.func12, Tryz.ntmps12
        go_wp2
        go_ret
        exact ⟨_, rfl, rfl, hB0⟩
end Go.Proofs.YthalpnpnbclipaaGreat

/- What stands in the law StorePlays while things are put. -/
namespace Go.Proofs.YthalpnpnbclipaaGreat
open Go.RowKit Go.Shelf Go.Maps

attribute [local go_sem] Oper.semAt_some

theorem ob_ok {o : Ob} {v : Value} {W : World} (h : ObAt o v W) (h0 : obErr o = 0) : (obB o).length ≤ 16384 ∧ decG (obB o) = some o := by
  have ok : ObOk o := by
    cases o with
    | blob b => exact trivial
    | tree l =>
      obtain ⟨ad, cp, _, h2, h3, h4⟩ := h
      obtain ⟨f1, f2⟩ := fits_of h3 h0
      refine ⟨fun x hx => ?_, by omega⟩
      obtain ⟨j, hj⟩ := List.mem_iff_getElem?.1 hx
      exact ⟨f2.name j x hj, f2.id j x hj⟩
    | com c =>
      obtain ⟨ad, cp, _, h2⟩ := h
      obtain ⟨f0, f1, f2, f3⟩ := com_fits h0
      exact ⟨h2.tree, h2.pars, by omega, f2, h2.date, f3⟩
  refine ⟨obB_len h h0, ?_⟩
  have := decR_obB o ok []
  rw [List.append_nil] at this
  unfold decG
  rw [this]
  cases o <;> simp [h0]
/-- what holds ahead of each thing -/
structure PI (w wr : World) (s d mb : Nat) (os : List Ob) (S : DG) (F G X : Nat → Prop) (ia ra : Option Addr) (n ic rcp k : Nat) : Prop where
  st : StG wr s d os S F G
  rm : RM X wr ia ra n (oids os) (os.map obB)
  bx : BoxM wr mb (.slice ia n ic) (.slice ra n rcp)
  xq : ∀ z, X z → ¬ (F z ∨ G z) ∧ z ≠ mb
  q : ∀ z, F z ∨ G z → w.heap.size ≤ z ∧ z ≠ mb
  mbw : w.heap.size ≤ mb
  bel : Below w.heap.size w wr
  cnt : n ≤ k ∧ (fileB (os.map obB)).length ≤ k * 16402
  pu : Pure os
  good : ∀ o ∈ os, obErr o = 0
theorem PI.lt {w wr : World} {s d mb : Nat} {os : List Ob} {S : DG} {F G X : Nat → Prop} {ia ra : Option Addr} {n ic rcp k : Nat} (h : PI w wr s d mb os S F G X ia ra n ic rcp k) (z : Nat) (hz : F z ∨ G z) : z < wr.heap.size := hz.elim (h.st.st.lt z) (h.st.dk.lt z)
theorem PI.len {w wr : World} {s d mb : Nat} {os : List Ob} {S : DG} {F G X : Nat → Prop} {ia ra : Option Addr} {n ic rcp k : Nat} (h : PI w wr s d mb os S F G X ia ra n ic rcp k) : os.length = n := by
  have := h.rm.li
  unfold oids at this
  simpa using this
theorem PI.below {w wr w' : World} {s d mb : Nat} {os : List Ob} {S : DG} {F G X : Nat → Prop} {ia ra : Option Addr} {n ic rcp k : Nat} (h : PI w wr s d mb os S F G X ia ra n ic rcp k) (hB : Below wr.heap.size wr w') : PI w w' s d mb os S F G X ia ra n ic rcp k :=
  { h with
    st := h.st.below hB
    rm := h.rm.below hB
    bx := h.bx.turn (Turn.of_below (fun _ => False) hB) id
    bel := h.bel.trans (hB.mono h.bel.size) }
theorem PI.next {w wr : World} {s d mb : Nat} {os : List Ob} {S : DG} {F G X : Nat → Prop} {ia ra : Option Addr} {n ic rcp k : Nat} (h : PI w wr s d mb os S F G X ia ra n ic rcp k) : PI w wr s d mb os S F G X ia ra n ic rcp (k + 1) :=
  { h with cnt := ⟨by have := h.cnt.1; omega, Nat.le_trans h.cnt.2 (Nat.mul_le_mul (Nat.le_succ k) (Nat.le_refl _))⟩ }
/-- the document's store laid anew into its box -/
theorem PI.same {w wr : World} {s d mb : Nat} {os : List Ob} {S : DG} {F G X : Nat → Prop} {ia ra : Option Addr} {n ic rcp k : Nat} (h : PI w wr s d mb os S F G X ia ra n ic rcp k) : PI w ((wr.setCell ⟨mb, 0, none⟩ (.slice ia n ic)).setCell ⟨mb, 1, none⟩ (.slice ra n rcp)) s d mb os S F G X ia ra n ic rcp k := by
  have hT : Turn (fun z => z = mb) wr ((wr.setCell ⟨mb, 0, none⟩ (.slice ia n ic)).setCell ⟨mb, 1, none⟩ (.slice ra n rcp)) := (turn_setCell wr mb 0 _).trans (turn_setCell _ mb 1 _) (fun _ _ e => e)
  exact { h with
    st := h.st.turn hT (fun z hz e => (h.q z hz).2 e)
    rm := h.rm.turn hT (fun z hz e => (h.xq z hz).2 e)
    bx := h.bx.set _ _
    bel := h.bel.trans (hT.below h.bel.size (fun z hz => by rw [hz]; exact h.mbw)) }
/-- behind a Put of what was not there, by both -/
theorem PI.add {w w2 w3 w4 : World} {s d mb : Nat} {os : List Ob} {S S' : DG} {F G F' G' X Xb : Nat → Prop} {ia ra ia' ra' : Option Addr} {n ic rcp ic' rcp' k : Nat} {o : Ob} (h : PI w w2 s d mb os S F G X ia ra n ic rcp k) (hP : StG w3 s d (os ++ [o]) S' F' G') (hT : Turn (fun z => F z ∨ G z) w2 w3)
    (hF : ∀ z, F' z → F z ∨ w2.heap.size ≤ z) (hG : ∀ z, G' z → G z ∨ w2.heap.size ≤ z) (hXb : ∀ z, Xb z → ¬ (F z ∨ G z) ∧ z ≠ mb ∧ z < w2.heap.size) (hB : Below w3.heap.size w3 w4) (hrm : RM (fun z => X z ∨ Xb z ∨ (w3.heap.size ≤ z ∧ z < w4.heap.size)) w4 ia' ra' (n + 1) (oids os ++ [oid o]) (os.map obB ++ [obB o]))
    (h0 : obErr o = 0) (hd : decG (obB o) = some o) (hf : findO os (oid o) = none) (hl : (obB o).length ≤ 16384) :
    PI w ((w4.setCell ⟨mb, 0, none⟩ (.slice ia' (n + 1) ic')).setCell ⟨mb, 1, none⟩ (.slice ra' (n + 1) rcp')) s d mb (os ++ [o]) S' F' G' (fun z => X z ∨ Xb z ∨ (w3.heap.size ≤ z ∧ z < w4.heap.size)) ia' ra' (n + 1) ic' rcp' (k + 1) := by
  have hml := h.bx.lt
  have hs3 := hT.size
  have hq : ∀ z, F' z ∨ G' z → F z ∨ G z ∨ w2.heap.size ≤ z := fun z hz => hz.elim (fun e => (hF z e).elim .inl (fun e => .inr (.inr e))) (fun e => (hG z e).elim (fun e => .inr (.inl e)) (fun e => .inr (.inr e)))
  have hlt : ∀ z, F' z ∨ G' z → z < w3.heap.size := fun z hz => hz.elim (hP.st.lt z) (hP.dk.lt z)
  have hq2 : ∀ z, F' z ∨ G' z → w.heap.size ≤ z ∧ z ≠ mb := fun z hz => by
    rcases hq z hz with e | e | e
    · exact h.q z (.inl e)
    · exact h.q z (.inr e)
    · have := h.bel.size; exact ⟨by omega, by omega⟩
  have hT2 : Turn (fun z => z = mb) w4 ((w4.setCell ⟨mb, 0, none⟩ (.slice ia' (n + 1) ic')).setCell ⟨mb, 1, none⟩ (.slice ra' (n + 1) rcp')) := (turn_setCell w4 mb 0 _).trans (turn_setCell _ mb 1 _) (fun _ _ e => e)
  have bx3 : BoxM w3 mb (.slice ia n ic) (.slice ra n rcp) := h.bx.turn hT (fun e => (h.q _ e).2 rfl)
  have bx4 : BoxM w4 mb (.slice ia n ic) (.slice ra n rcp) := bx3.turn (Turn.of_below (fun _ => False) hB) id
  have hx : ∀ z, X z ∨ Xb z ∨ (w3.heap.size ≤ z ∧ z < w4.heap.size) → ¬ (F' z ∨ G' z) ∧ z ≠ mb := fun z hz => by
    rcases hz with e | e | e
    · have := h.rm.lt z e
      exact ⟨fun hz => by rcases hq z hz with e' | e' | e' <;> first | exact (h.xq z e).1 (.inl e') | exact (h.xq z e).1 (.inr e') | omega, (h.xq z e).2⟩
    · have := hXb z e
      exact ⟨fun hz => by rcases hq z hz with e' | e' | e' <;> first | exact this.1 (.inl e') | exact this.1 (.inr e') | omega, this.2.1⟩
    · exact ⟨fun hz => by have := hlt z hz; omega, by omega⟩
  have hb3 : Below w.heap.size w w3 := h.bel.trans (hT.below h.bel.size (fun z hz => (h.q z hz).1))
  have hb4 : Below w.heap.size w w4 := hb3.trans (hB.mono hb3.size)
  have e1 : oids (os ++ [o]) = oids os ++ [oid o] := by simp [oids]
  have e2 : (os ++ [o]).map obB = os.map obB ++ [obB o] := by simp
  refine ⟨(hP.below hB).turn hT2 (fun z hz e => (hq2 z hz).2 e), by rw [e1, e2]; exact hrm.turn hT2 (fun z hz e => (hx z hz).2 e), bx4.set _ _, hx, hq2, h.mbw, hb4.trans (hT2.below hb4.size (fun z hz => by rw [hz]; exact h.mbw)), ⟨by have := h.cnt.1; omega, ?_⟩, h.pu.snoc hd hf, fun p hp => ?_⟩
  · have h1 := (recB_pos (obB o)).2
    have h2 := h.cnt.2
    rw [e2, fileB_snoc, List.length_append, Nat.add_mul]
    omega
  · rcases List.mem_append.1 hp with hp | hp
    · exact h.good p hp
    · simp at hp; subst hp; exact h0
theorem find_fidx {os : List Ob} {i : Int} {p : Ob} (h : findO os i = some p) : ∃ j, fidx (oids os) i = some j ∧ j < os.length ∧ rc (os.map obB) j = obB p := by
  have h1 : (fidx (oids os) i).isSome = true := by rw [fidx_iff, h]; rfl
  obtain ⟨j, hj⟩ := Option.isSome_iff_exists.1 h1
  refine ⟨j, hj, ?_⟩
  have h2 := fidx_lt hj
  have h3 : j < os.length := by unfold oids at h2; simpa using h2
  refine ⟨h3, ?_⟩
  unfold fidx at hj
  unfold findO at h
  obtain ⟨h4, h5, h6⟩ := List.findIdx?_eq_some_iff_getElem.1 hj
  have h7 : os.find? (fun o => oid o == i) = some os[j] := by
    rw [List.find?_eq_some_iff_getElem]
    refine ⟨by simpa [oids] using h5, j, h3, rfl, fun t ht => ?_⟩
    have := h6 t ht
    simpa [oids] using this
  rw [h] at h7
  cases h7
  unfold rc
  simp [h3]
theorem find_none_fidx {os : List Ob} {i : Int} (h : findO os i = none) : fidx (oids os) i = none := by
  have h1 := fidx_iff os i
  rw [h] at h1
  simpa using h1
end Go.Proofs.YthalpnpnbclipaaGreat
