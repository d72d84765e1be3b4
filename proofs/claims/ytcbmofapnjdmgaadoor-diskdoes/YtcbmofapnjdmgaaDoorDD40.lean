import Derived.Test.YtcbmofapnjdmgaaDoorDD39
import Derived.Test.YtcbmofapnjdmgaaDoorDD10
import Derived.Test.YtcbmofapnjdmgaaDoorDD28
import Derived.Deep.CutRange
import Derived.Deep.CutBlock
/- The walk of DiskDoes. -/
namespace Go.Proofs.YtcbmofapnjdmgaaDoor
open Go.RowKit Go.Maps

attribute [local go_sem] Oper.semAt_some

theorem iw0 : IntKind.i64.wrap 0 = 0 := by decide
theorem iw1 : IntKind.i64.wrap 1 = 1 := by decide
attribute [local go_sem] iw0 iw1

def lim (k : Nat) : Nat := k * 4194305
theorem lim_succ (k : Nat) : lim k + 4194305 ≤ lim (k + 1) := by unfold lim; omega
theorem flat_getD (ops : List GOp) (k j : Nat) (o : GOp) (v : Value) (h : ops[k]? = some o) (hj : o.cells.toList[j]? = some v) : (flat ops)[k * 5 + j]? = some v := flat_get ops k j o v h hj
theorem tab_below {w w' : World} (h : Lib.TabIs Tryd.prog w "internal/strconv.uint64pow10" .u64 Lib.pow10Tab) (hb : Below w.heap.size w w') : Lib.TabIs Tryd.prog w' "internal/strconv.uint64pow10" .u64 Lib.pow10Tab := by
  unfold Lib.TabIs World.var? at h ⊢
  cases hg : Tryd.prog.globalNamed "internal/strconv.uint64pow10" with
  | none => rw [hg] at h; simp at h
  | some g =>
    rw [hg] at h
    simp only [Option.bind_some] at h ⊢
    have hlt : g < w.heap.size := by
      rcases Nat.lt_or_ge g w.heap.size with h' | h'
      · exact h'
      · rw [Array.getElem?_eq_none h'] at h; cases h
    rw [hb.block g hlt]
    exact h

set_option maxRecDepth 20000 in
theorem step_lcopy (w : World) {ops : Array Oper} {o : Oper} {a : Act} {K : Act → World → Prop} {Q : Exit → Act → World → Prop} {E : Prop} (hw : Region.wanted o (yielded ops a.tmps) = true) (x0 : Nat) (ty0 : TypeId)
    (ho : o.op = .call { callee := .value (.func 8), args := #[.tmp x0], argTypes := #[ty0] }) (vx0 : Value) (hx0 : a.tmps[x0]?.getD undef = vx0) (R : Value → World → Prop)
    (hc : Calls Tryd.prog 8 #[vx0] w fun e w' => ∃ v, e = .returned v ∧ R v w') (hK : ∀ v w', R v w' → K (a.put o.dst v) w') :
    if Region.wanted o (yielded ops a.tmps) = true then Oper.wp Tryd.prog o a w K Q else E := by
  rw [if_pos hw]
  unfold Oper.wp execOp
  simp [ho, resolve, invoke, go_sem, hx0]
  refine hc.mono ?_
  rintro e w' ⟨v, rfl, hR⟩
  have := hK v w' hR
  simpa [go_sem] using this
set_option maxRecDepth 20000 in
theorem step_lrcopy (w : World) {ops : Array Oper} {o : Oper} {a : Act} {K : Act → World → Prop} {Q : Exit → Act → World → Prop} {E : Prop} (hw : Region.wanted o (yielded ops a.tmps) = true) (x0 : Nat) (ty0 : TypeId)
    (ho : o.op = .call { callee := .value (.func 9), args := #[.tmp x0], argTypes := #[ty0] }) (vx0 : Value) (hx0 : a.tmps[x0]?.getD undef = vx0) (R : Value → World → Prop)
    (hc : Calls Tryd.prog 9 #[vx0] w fun e w' => ∃ v, e = .returned v ∧ R v w') (hK : ∀ v w', R v w' → K (a.put o.dst v) w') :
    if Region.wanted o (yielded ops a.tmps) = true then Oper.wp Tryd.prog o a w K Q else E := by
  rw [if_pos hw]
  unfold Oper.wp execOp
  simp [ho, resolve, invoke, go_sem, hx0]
  refine hc.mono ?_
  rintro e w' ⟨v, rfl, hR⟩
  have := hK v w' hR
  simpa [go_sem] using this
set_option maxRecDepth 20000 in
theorem step_ldoes (w : World) {ops : Array Oper} {o : Oper} {a : Act} {K : Act → World → Prop} {Q : Exit → Act → World → Prop} {E : Prop} (hw : Region.wanted o (yielded ops a.tmps) = true) (x0 x1 : Nat) (ty0 ty1 : TypeId)
    (ho : o.op = .call { callee := .value (.func 11), args := #[.tmp x0, .tmp x1], argTypes := #[ty0, ty1] }) (vx0 vx1 : Value) (hx0 : a.tmps[x0]?.getD undef = vx0) (hx1 : a.tmps[x1]?.getD undef = vx1) (R : Value → World → Prop)
    (hc : Calls Tryd.prog 11 #[vx0, vx1] w fun e w' => ∃ v, e = .returned v ∧ R v w') (hK : ∀ v w', R v w' → K (a.put o.dst v) w') :
    if Region.wanted o (yielded ops a.tmps) = true then Oper.wp Tryd.prog o a w K Q else E := by
  rw [if_pos hw]
  unfold Oper.wp execOp
  simp [ho, resolve, invoke, go_sem, hx0, hx1]
  refine hc.mono ?_
  rintro e w' ⟨v, rfl, hR⟩
  have := hK v w' hR
  simpa [go_sem] using this
set_option maxRecDepth 100000 in
set_option maxHeartbeats 16000000 in
theorem diskDoes_walk (a : Option Addr) (n0 c0 : Nat) (ops : List GOp) (w : World) (hops : Ops w a n0 ops) (hfits : Fits w ops) (hrng : ∀ o ∈ ops, -9223372036854775808 ≤ o.n ∧ o.n ≤ 9223372036854775807) (hlen : ∀ o ∈ ops, o.len ≤ 140737488351232) (hn0 : n0 ≤ 9223372036854775807)
    (htab : Lib.TabIs Tryd.prog w "internal/strconv.uint64pow10" .u64 Lib.pow10Tab) :
    Calls Tryd.prog 3 #[.slice a n0 c0] w fun e w' => e = .returned (.bool true) ∧ Below w.heap.size w w' := by
  have hmx : Tryd.prog.follows .mixedOrders = true := by kernel_rfl
  have HTab : Hid (∀ W, Below w.heap.size w W → Lib.TabIs Tryd.prog W "internal/strconv.uint64pow10" .u64 Lib.pow10Tab) := fun W hW => tab_below htab hW
  go_enter Tryd.func3, Tryd.ntmps3
  go_wp2_with fail
  refine (wakes_any _).mono ?_
  rintro e w1 ⟨rfl, B1⟩
  go_wp2_with fail
  refine (new_any w1).mono ?_
  rintro e w2 ⟨rfl, hd2, B2⟩
  go_wp2_with fail
  refine (rnew_any w2).mono ?_
  rintro e w3 ⟨rfl, hr3, B3⟩
  go_wp2_with fail
  refine (new_any w3).mono ?_
  rintro e w4 ⟨rfl, hd4, B4⟩
  go_wp2_with fail
  refine (rnew_any w4).mono ?_
  rintro e w5 ⟨rfl, hr5, B5⟩
  have s1 := B1.size
  have s2 := B2.size
  have s3 := B3.size
  have s4 := B4.size
  have s5 := B5.size
  have l2 := hd2.lt (w1.heap.size + 1) (.inr rfl)
  have l3 := hr3.lt w2.heap.size rfl
  have l4 := hd4.lt (w3.heap.size + 1) (.inr rfl)
  have l5 := hr5.lt w4.heap.size rfl
  have B5w : Below w.heap.size w w5 := below_more (below_more (below_more (below_more B1 B2) B3) B4) B5
  have hBx : Below w5.heap.size w5 (w5.alloc (.cells #[.pointer (some ⟨w1.heap.size + 1, 0, none⟩), .pointer (some ⟨w2.heap.size, 0, none⟩), .pointer (some ⟨w3.heap.size + 1, 0, none⟩), .pointer (some ⟨w4.heap.size, 0, none⟩)] 30)) := (Below.refl _ _).alloc (Nat.le_refl _) _
  have B6w : Below w.heap.size w (w5.alloc (.cells #[.pointer (some ⟨w1.heap.size + 1, 0, none⟩), .pointer (some ⟨w2.heap.size, 0, none⟩), .pointer (some ⟨w3.heap.size + 1, 0, none⟩), .pointer (some ⟨w4.heap.size, 0, none⟩)] 30)) := below_more B5w hBx
  have hops6 : Ops (w5.alloc (.cells #[.pointer (some ⟨w1.heap.size + 1, 0, none⟩), .pointer (some ⟨w2.heap.size, 0, none⟩), .pointer (some ⟨w3.heap.size + 1, 0, none⟩), .pointer (some ⟨w4.heap.size, 0, none⟩)] 30)) a n0 ops := ⟨hops.len, fun k o ho => by
      obtain ⟨b, off, e, hc⟩ := hops.cells k o ho
      exact ⟨b, off, e, fun j v hv => by have := hc j v hv; rw [B6w.cell (World.block_lt_of_cell? w _ this)]; exact this⟩, fun o ho => by
      obtain ⟨h1, h2, h3, h4, h5, l, h6⟩ := hfits o ho
      exact ⟨h1, h2, h3, h4, l, h6.below B6w⟩⟩
  have hfS : ∀ o ∈ (ops.map GOp.short).take 60, o.name.size ≤ maxLen ∧ o.to.size ≤ maxLen ∧ o.len ≤ o.cap ∧ (o.ad = none → o.len = 0 ∧ o.cap = 0) ∧ o.len ≤ 140737488351232 ∧ (-9223372036854775808 ≤ o.n ∧ o.n ≤ 9223372036854775807) ∧ ∃ l, Bytes w o.ad o.len l := by
    intro o ho
    have ho' := List.mem_of_mem_take ho
    obtain ⟨o0, hm, rfl⟩ := List.mem_map.1 ho'
    obtain ⟨h1, h2, h3, h4, h5, l, h6⟩ := hfits o0 hm
    have h7 := hlen o0 hm
    have h8 := hrng o0 hm
    unfold GOp.short
    split
    · exact ⟨h1, h2, by simp only; omega, fun e => ⟨by have := (h4 e).1; simp only; omega, (h4 e).2⟩, by simp only; omega, h8, _, h6.take (min o0.len 300) (by omega)⟩
    · exact ⟨h1, h2, h3, h4, h7, h8, _, h6⟩
  go_wp2_with fail
  refine (script_any a n0 c0 ops (w5.alloc (.cells #[.pointer (some ⟨w1.heap.size + 1, 0, none⟩), .pointer (some ⟨w2.heap.size, 0, none⟩), .pointer (some ⟨w3.heap.size + 1, 0, none⟩), .pointer (some ⟨w4.heap.size, 0, none⟩)] 30)) hops6 hn0).mono ?_
  rintro e w7 ⟨sa, c7, m, rfl, Hm, ho7, B7⟩
  have hm60 : m ≤ 60 := by rw [Hm.out]; simp; omega
  have HM60 : Hid (m ≤ 60) := hm60
  have hs6 : (w5.alloc (.cells #[.pointer (some ⟨w1.heap.size + 1, 0, none⟩), .pointer (some ⟨w2.heap.size, 0, none⟩), .pointer (some ⟨w3.heap.size + 1, 0, none⟩), .pointer (some ⟨w4.heap.size, 0, none⟩)] 30)).heap.size = w5.heap.size + 1 := by simp
  generalize (ops.map GOp.short).take 60 = sops at *
  have hseen : Seen w7 sa sops := by
    intro k o ho
    have hk := (List.getElem?_eq_some_iff.1 ho).1
    obtain ⟨g, cap, e, hg⟩ : ∃ g cap, Value.slice sa m c7 = .slice (some ⟨g, 0, none⟩) m cap ∧ g < w7.heap.size := by
      rcases ho7.2 with ⟨_, h0⟩ | ⟨g, cap, cur, e, _⟩
      · have := Hm.out; omega
      · exact ⟨g, cap, e, (ho7.lt g (by rw [e]; rfl)).2⟩
    cases e
    refine ⟨g, rfl, hg, fun j v hv => ?_⟩
    have := ho7.cells (g := g) rfl (k * 5 + j) v (flat_get sops k j o v ho hv)
    rw [Addr.add_lit, Nat.zero_add] at this
    exact this
  have hsa : ∀ x, sa = some x → w5.heap.size + 1 ≤ x.block ∧ x.block < w7.heap.size := by
    intro x hx
    have := ho7.lt x.block (by rw [hx]; rfl)
    rw [hs6] at this
    exact this
  have s7 := B7.size
  rw [hs6] at s7
  have B57 : Below w5.heap.size w5 w7 := hBx.trans (B7.mono (by rw [hs6]; omega))
  have hcell : ∀ j u, (w5.alloc (.cells #[.pointer (some ⟨w1.heap.size + 1, 0, none⟩), .pointer (some ⟨w2.heap.size, 0, none⟩), .pointer (some ⟨w3.heap.size + 1, 0, none⟩), .pointer (some ⟨w4.heap.size, 0, none⟩)] 30)).cell? ⟨w5.heap.size, j, none⟩ = some u → w7.cell? ⟨w5.heap.size, j, none⟩ = some u := fun j u hu => by
    rw [B7.cell (by rw [hs6]; simp)]; exact hu
  have hgood : ∀ S, S = (⟨fun _ => none, 0, 0, false, 0⟩ : DG) → Good S (lim 0) := fun S hS => by
    subst hS
    exact ⟨⟨fun _ => by simp [DG.bs], by simp, by simp⟩, fun _ => rfl, by simp⟩
  have hmatch : Match ⟨fun _ => none, 0, 0, false, 0⟩ [] (-1) := ⟨fun _ => rfl, rfl, List.Pairwise.nil, .inl ⟨rfl, rfl⟩⟩
  have HT0 : Hid (Two4 w w7 sa sops w5.heap.size (lim 0)) := by
    refine ⟨w1.heap.size + 1, w2.heap.size, w3.heap.size + 1, w4.heap.size, ⟨fun _ => none, 0, 0, false, 0⟩, ⟨fun _ => none, 0, 0, false, 0⟩, fun k => k = w1.heap.size ∨ k = w1.heap.size + 1, fun k => k = w2.heap.size, fun k => k = w3.heap.size ∨ k = w3.heap.size + 1, fun k => k = w4.heap.size,
      ⟨hseen, below_more B5w B57, ⟨by omega, by omega⟩, fun x hx => ⟨(hsa x hx).2, by have := (hsa x hx).1; omega, by have := (hsa x hx).1; omega⟩⟩, ⟨hcell _ _ (by simp), hcell _ _ (by simp), hcell _ _ (by simp), hcell _ _ (by simp), fun j => by rw [B7.frozen (by rw [hs6]; simp)]; simp⟩, ?_, ?_, ?_⟩
    · refine ⟨⟨((((hd2.below B3).below B4).below B5).below B57), ⟨_, _, _, (((hr3.below B4).below B5).below B57), hmatch⟩, ?_⟩, hgood _ rfl, ?_⟩
      · rintro k (rfl | rfl) hk <;> omega
      · rintro k ((rfl | rfl) | rfl) <;> exact ⟨by omega, by omega, fun x hx e => by have := (hsa x hx).1; omega⟩
    · refine ⟨⟨((hd4.below B5).below B57), ⟨_, _, _, (hr5.below B57), hmatch⟩, ?_⟩, hgood _ rfl, ?_⟩
      · rintro k (rfl | rfl) hk <;> omega
      · rintro k ((rfl | rfl) | rfl) <;> exact ⟨by omega, by omega, fun x hx e => by have := (hsa x hx).1; omega⟩
    · rintro k ((rfl | rfl) | rfl) ((h | h) | h) <;> omega
  have HFS : Hid (∀ o ∈ sops, o.name.size ≤ maxLen ∧ o.to.size ≤ maxLen ∧ o.len ≤ o.cap ∧ (o.ad = none → o.len = 0 ∧ o.cap = 0) ∧ o.len ≤ 140737488351232 ∧ (-9223372036854775808 ≤ o.n ∧ o.n ≤ 9223372036854775807) ∧ ∃ l, Bytes w o.ad o.len l) := hfS
  generalize w5.heap.size = B at *
  clear hfS hmatch hgood hcell B57 s7 hsa hseen hs6 B7 ho7 hops6 B6w hBx B5w l2 l3 l4 l5 s1 s2 s3 s4 s5 hd2 hr3 hd4 hr5 B1 B2 B3 B4 B5 hops hfits hrng hlen htab
  go_wp2_with fail
  go_loopw [19] (fun i wr => ∃ k : Nat, k ≤ m ∧ i = .int .i64 (k : Int) ∧ Hid (Two4 w wr sa sops B (lim k))) (fun i _ => m - (intOf i).toNat)
  case atStart => exact ⟨0, Nat.zero_le _, rfl, HT0⟩
  case round =>
    clear HT0
    obtain ⟨k, hk, rfl, H⟩ := hrel
    by_cases hlt : k < m
    · have i3 : (k : Int) < (m : Int) := by omega
      have i4 : (0 : Int) ≤ (k : Int) := by omega
      obtain ⟨o, ho⟩ : ∃ o, sops[k]? = some o := ⟨sops[k]'(by have := Hm.out; omega), by have := Hm.out; simp [← this, hlt]⟩
      have hfit := HFS.out o (List.mem_of_getElem? ho)
      obtain ⟨l, hl⟩ := hfit.2.2.2.2.2.2
      obtain ⟨p0, q0, p1, q1, S0, S1, F0, G0, F1, G1, h3⟩ := H.out
      obtain ⟨kind, nm, nt, nn, ad, ln, cp⟩ := o
      have HIn : Hid (∀ W F G, Below w.heap.size w W → (∀ k, (F k ∨ G k) → w.heap.size ≤ k) → OpIn W ⟨kind, nm, nt, nn, ad, ln, cp⟩ l F G) := fun W F G hW hF =>
        ⟨hfit.1, hfit.2.1, hfit.2.2.1, hfit.2.2.2.1, hfit.2.2.2.2.1, hl.below hW, fun h0 x hx => ⟨by have h1 := hl.lt h0 x hx; have h2 := hW.size; exact Nat.lt_of_lt_of_le h1 h2, fun hx' => by have h1 := hl.lt h0 x hx; have := hF _ (.inl hx'); omega, fun hx' => by have h1 := hl.lt h0 x hx; have := hF _ (.inr hx'); omega⟩, hfit.2.2.2.2.2.1⟩
      obtain ⟨g, rfl, hg, hc⟩ := h3.env.seen k _ ho
      have r0 : wr.cell? ⟨g, k * 5, none⟩ = some (.int .i64 kind) := by have := hc 0 _ rfl; rw [Nat.add_zero] at this; exact this
      have r1 : wr.cell? ⟨g, k * 5 + 1, none⟩ = some (.string nm) := hc 1 _ rfl
      have r2 : wr.cell? ⟨g, k * 5 + 2, none⟩ = some (.string nt) := hc 2 _ rfl
      have r3 : wr.cell? ⟨g, k * 5 + 3, none⟩ = some (.int .i64 nn) := hc 3 _ rfl
      have r4 : wr.cell? ⟨g, k * 5 + 4, none⟩ = some (.slice ad ln cp) := hc 4 _ rfl
      have hgd := h3.turn ((Below.refl _ wr).alloc (Nat.le_refl _) (.cells #[.int .i64 kind, .string nm, .string nt, .int .i64 nn, .slice ad ln cp] 34))
      obtain ⟨wb, hwb⟩ : ∃ wb, wb = wr.alloc (.cells #[.int .i64 kind, .string nm, .string nt, .int .i64 nn, .slice ad ln cp] 34) := ⟨_, rfl⟩
      rw [← hwb] at hgd
      have HGd : Hid (Two3 w wb (some ⟨g, 0, none⟩) sops B p0 q0 p1 q1 S0 S1 F0 G0 F1 G1 (lim k)) := hgd
      have HBd : Hid (Below wb.heap.size wb wb.drew) := ⟨rfl, rfl, rfl, Nat.le_refl _, fun _ _ => rfl⟩
      have HGw : Hid (Two3 w wb.drew (some ⟨g, 0, none⟩) sops B p0 q0 p1 q1 S0 S1 F0 G0 F1 G1 (lim k)) := hgd.turn HBd.out
      have hcl := hgd.cl
      obtain ⟨c0, c1, c2, c3, _⟩ := hcl
      rw [hwb] at c0 c1 c2 c3
      have hcl := hgd.cl
      have HCl : Hid (∀ W, Below wb.heap.size wb W → W.cell? ⟨B, 0, none⟩ = some (.pointer (some ⟨p0, 0, none⟩)) ∧ W.cell? ⟨B, 1, none⟩ = some (.pointer (some ⟨q0, 0, none⟩)) ∧ W.cell? ⟨B, 2, none⟩ = some (.pointer (some ⟨p1, 0, none⟩)) ∧ W.cell? ⟨B, 3, none⟩ = some (.pointer (some ⟨q1, 0, none⟩))) := fun W hW => by
        obtain ⟨c0, c1, c2, c3, _⟩ := (hgd.turn hW).cl
        exact ⟨c0, c1, c2, c3⟩
      have o0 : wb.cell? ⟨wr.heap.size, 0, none⟩ = some (.int .i64 kind) := by rw [hwb]; simp
      have o1 : wb.cell? ⟨wr.heap.size, 1, none⟩ = some (.string nm) := by rw [hwb]; simp
      have o2 : wb.cell? ⟨wr.heap.size, 2, none⟩ = some (.string nt) := by rw [hwb]; simp
      have o3 : wb.cell? ⟨wr.heap.size, 3, none⟩ = some (.int .i64 nn) := by rw [hwb]; simp
      have o4 : wb.cell? ⟨wr.heap.size, 4, none⟩ = some (.slice ad ln cp) := by rw [hwb]; simp
      clear h3 hc ho hfit hl hgd H
      by_cases hk3 : k % 4 = 3
      · have i7 : (k : Int).tmod 4 = 3 := by rw [Int.tmod_eq_emod_of_nonneg i4]; omega
        by_cases h6 : (IntKind.u64.wrap kind).tmod 9 = 6
        · have hq := h6
          have HCo : Hid (∀ W, Two3 w W (some ⟨g, 0, none⟩) sops B p0 q0 p1 q1 S0 S1 F0 G0 F1 G1 (lim k) → Calls Tryd.prog 8 #[.pointer (some ⟨p1, 0, none⟩)] W fun e w' => ∃ v, e = .returned v ∧ (∃ p', v = .pointer (some ⟨p', 0, none⟩) ∧ IsDisk w' p' S1.copy (grow (fun _ => False) W w') ∧ Below W.heap.size W w')) := fun W hW => (copy_any p1 S1 F1 W hW.y.pr.d (fun l bs hl => by have := hW.y.good.fine.bs l; rw [DG.bs, hl] at this; simp only [Option.getD_some] at this; omega) (by have := hW.y.good.fine.n; omega)).mono fun e w' ⟨p', h1, h2, h3⟩ => ⟨_, h1, p', rfl, h2, h3⟩
          have HRo : Hid (∀ W, IsRef W q1 S1 G1 → Calls Tryd.prog 9 #[.pointer (some ⟨q1, 0, none⟩)] W fun e w' => ∃ v, e = .returned v ∧ (∃ q', v = .pointer (some ⟨q', 0, none⟩) ∧ IsRef w' q' S1.copy (grow (fun _ => False) W w') ∧ Below W.heap.size W w')) := fun W hW => (rcopy_any q1 S1 G1 W hW (by have := HGd.out.y.good.fine.n; omega) (fun l bs hl => by have := HGd.out.y.good.fine.bs l; rw [DG.bs, hl] at this; simp only [Option.getD_some] at this; omega)).mono fun e w' ⟨q', h1, h2, h3⟩ => ⟨_, h1, q', rfl, h2, h3⟩
          go_upto_region 13 with fail
          rw [← hwb]
          refine wp_region_G (S := SB 14 (fun W => W.cell? ⟨B, 0, none⟩ = some (.pointer (some ⟨p0, 0, none⟩)) ∧ W.cell? ⟨B, 1, none⟩ = some (.pointer (some ⟨q0, 0, none⟩)) ∧ W.cell? ⟨B, 2, none⟩ = some (.pointer (some ⟨p1, 0, none⟩)) ∧ W.cell? ⟨B, 3, none⟩ = some (.pointer (some ⟨q1, 0, none⟩))) (fun _ => True)) hmx ?_
          have hSB : SB 14 (fun W : World => W.cell? ⟨B, 0, none⟩ = some (.pointer (some ⟨p0, 0, none⟩)) ∧ W.cell? ⟨B, 1, none⟩ = some (.pointer (some ⟨q0, 0, none⟩)) ∧ W.cell? ⟨B, 2, none⟩ = some (.pointer (some ⟨p1, 0, none⟩)) ∧ W.cell? ⟨B, 3, none⟩ = some (.pointer (some ⟨q1, 0, none⟩))) (fun _ => True) (Array.replicate 15 false) wb.drew := SB.on (HCl.out _ ⟨rfl, rfl, rfl, Nat.le_refl _, fun _ _ => rfl⟩) trivial
          refine wpAnyG_takeP (i := 0) (v := ?_) rfl (by kernel_rfl) (by kernel_rfl) (by kernel_rfl) (fun _ _ _ h => h) rfl (Or.inl ⟨by rfl, ?_⟩) (by assumption) ?_
          rotate_left
          · intro Y _; go_simp; try with_reducible rfl
          intro hSB0
          try simp only [Act.put, List.getElem_toArray, List.getElem_cons_zero, List.setIfInBounds_toArray, List.set_cons_zero, List.set_cons_succ]
          refine wpAnyG_takeP (i := 1) (v := ?_) rfl (by kernel_rfl) (by kernel_rfl) (by kernel_rfl) (fun _ _ _ h => h) rfl (Or.inl ⟨by rfl, ?_⟩) (by assumption) ?_
          rotate_left
          · intro Y _; go_simp; try with_reducible rfl
          intro hSB1
          try simp only [Act.put, List.getElem_toArray, List.getElem_cons_zero, List.getElem_cons_succ, List.setIfInBounds_toArray, List.set_cons_zero, List.set_cons_succ]
          refine wpAnyG_takeP (i := 2) (v := ?_) rfl (by kernel_rfl) (by kernel_rfl) (by kernel_rfl) (fun _ _ _ h => h) rfl (Or.inl ⟨by rfl, ?_⟩) (by assumption) ?_
          rotate_left
          · intro Y _; go_simp; try with_reducible rfl
          intro hSB2
          try simp only [Act.put, List.getElem_toArray, List.getElem_cons_zero, List.getElem_cons_succ, List.setIfInBounds_toArray, List.set_cons_zero, List.set_cons_succ]
          refine wpAnyG_takeP (i := 3) (v := ?_) rfl (by kernel_rfl) (by kernel_rfl) (by kernel_rfl) (fun _ _ _ h => h) rfl (Or.inl ⟨by rfl, ?_⟩) (by assumption) ?_
          rotate_left
          · intro Y _; go_simp; try with_reducible rfl
          intro hSB3
          try simp only [Act.put, List.getElem_toArray, List.getElem_cons_zero, List.getElem_cons_succ, List.setIfInBounds_toArray, List.set_cons_zero, List.set_cons_succ]
          refine wpAnyG_takeP (i := 4) (v := ?_) rfl (by kernel_rfl) (by kernel_rfl) (by kernel_rfl) (fun _ _ _ h => h) rfl (Or.inl ⟨by rfl, ?_⟩) (by assumption) ?_
          rotate_left
          · intro Y _; go_simp; try with_reducible rfl
          intro hSB4
          try simp only [Act.put, List.getElem_toArray, List.getElem_cons_zero, List.getElem_cons_succ, List.setIfInBounds_toArray, List.set_cons_zero, List.set_cons_succ]
          refine wpAnyG_takeB (i := 5) (b := 14) (v := ?_) rfl (by kernel_rfl) (by kernel_rfl) (by kernel_rfl) (fun _ _ _ h => h) rfl (by kernel_rfl) (by rfl) (by kernel_rfl) (Or.inl ⟨by rfl, ?_⟩) (by assumption) ?_
          rotate_left
          · intro Y hY; obtain ⟨y0, y1, y2, y3⟩ := hY; go_simp; try with_reducible rfl
          intro hSB5
          try simp only [Act.put, List.getElem_toArray, List.getElem_cons_zero, List.getElem_cons_succ, List.setIfInBounds_toArray, List.set_cons_zero, List.set_cons_succ]
          refine wpAnyG_takeP (i := 7) (v := ?_) rfl (by kernel_rfl) (by kernel_rfl) (by kernel_rfl) (fun _ _ _ h => h) rfl (Or.inl ⟨by rfl, ?_⟩) (by assumption) ?_
          rotate_left
          · intro Y _; go_simp; try with_reducible rfl
          intro hSB7
          try simp only [Act.put, List.getElem_toArray, List.getElem_cons_zero, List.getElem_cons_succ, List.setIfInBounds_toArray, List.set_cons_zero, List.set_cons_succ]
          refine wpAnyG_takeP (i := 8) (v := ?_) rfl (by kernel_rfl) (by kernel_rfl) (by kernel_rfl) (fun _ _ _ h => h) rfl (Or.inl ⟨by rfl, ?_⟩) (by assumption) ?_
          rotate_left
          · intro Y _; go_simp; try with_reducible rfl
          intro hSB8
          try simp only [Act.put, List.getElem_toArray, List.getElem_cons_zero, List.getElem_cons_succ, List.setIfInBounds_toArray, List.set_cons_zero, List.set_cons_succ]
          refine wpAnyG_takeP (i := 9) (v := ?_) rfl (by kernel_rfl) (by kernel_rfl) (by kernel_rfl) (fun _ _ _ h => h) rfl (Or.inl ⟨by rfl, ?_⟩) (by assumption) ?_
          rotate_left
          · intro Y _; go_simp; try with_reducible rfl
          intro hSB9
          try simp only [Act.put, List.getElem_toArray, List.getElem_cons_zero, List.getElem_cons_succ, List.setIfInBounds_toArray, List.set_cons_zero, List.set_cons_succ]
          refine wpAnyG_takeB (i := 10) (b := 14) (v := ?_) rfl (by kernel_rfl) (by kernel_rfl) (by kernel_rfl) (fun _ _ _ h => h) rfl (by kernel_rfl) (by rfl) (by kernel_rfl) (Or.inl ⟨by rfl, ?_⟩) (by assumption) ?_
          rotate_left
          · intro Y hY; obtain ⟨y0, y1, y2, y3⟩ := hY; go_simp; try with_reducible rfl
          intro hSB10
          try simp only [Act.put, List.getElem_toArray, List.getElem_cons_zero, List.getElem_cons_succ, List.setIfInBounds_toArray, List.set_cons_zero, List.set_cons_succ]
          refine wpAnyG_one (i := 6) (by kernel_rfl) rfl (fun K hK => ?_)
          refine step_lcopy _ (by rfl) _ _ (by rfl) _ (by rfl) (fun v W => ∃ p', v = .pointer (some ⟨p', 0, none⟩) ∧ IsDisk W p' S1.copy (grow (fun _ => False) wb.drew W) ∧ Below wb.heap.size wb.drew W) (HCo.out wb.drew HGw.out) ?_
          rintro v w2 ⟨p2, rfl, h2, hB2⟩
          have H2 : Hid (IsDisk w2 p2 S1.copy (grow (fun _ => False) wb.drew w2) ∧ Below wb.heap.size wb.drew w2) := ⟨h2, hB2⟩
          clear h2 hB2
          refine hK.out _ _ (SB.on (HCl.out _ (HBd.out.trans H2.out.2)) trivial) (fun hSB6 => ?_)
          clear hK K
          try simp only [Act.put, List.getElem_toArray, List.getElem_cons_zero, List.getElem_cons_succ, List.setIfInBounds_toArray, List.set_cons_zero, List.set_cons_succ]
          refine wpAnyG_one (i := 11) (by kernel_rfl) rfl (fun K hK => ?_)
          refine step_lrcopy _ (by rfl) _ _ (by rfl) _ (by rfl) (fun v W => ∃ q', v = .pointer (some ⟨q', 0, none⟩) ∧ IsRef W q' S1.copy (grow (fun _ => False) w2 W) ∧ Below w2.heap.size w2 W) (HRo.out w2 (HGw.out.y.pr.r.kept H2.out.2)) ?_
          rintro v w3 ⟨q3, rfl, h3, hB3⟩
          have H3 : Hid (Cp w wb.drew w3 (some ⟨g, 0, none⟩) B p2 q3 S1.copy (lim k)) := Cp.mk2 HGw.out.env HGd.out.y.good H2.out.2 H2.out.1 hB3 h3
          clear h3 hB3
          have hcl3 := HCl.out _ (HBd.out.trans H3.out.below)
          obtain ⟨d0, d1, d2, d3⟩ := hcl3
          have hfz := (HGw.out.turn H3.out.below).cl.2.2.2.2
          have hz0 := hfz 0
          have hz1 := hfz 1
          have hz2 := hfz 2
          have hz3 := hfz 3
          refine hK.out _ _ (SB.on ⟨d0, d1, d2, d3⟩ trivial) (fun hSB11 => ?_)
          clear hK K
          try simp only [Act.put, List.getElem_toArray, List.getElem_cons_zero, List.getElem_cons_succ, List.setIfInBounds_toArray, List.set_cons_zero, List.set_cons_succ]
          refine wpAnyG_takeP (i := 12) (v := ?_) rfl (by kernel_rfl) (by kernel_rfl) (by kernel_rfl) (fun _ _ _ h => h) rfl (Or.inl ⟨by rfl, ?_⟩) (by assumption) ?_
          rotate_left
          · intro Y _; go_simp; try with_reducible rfl
          intro hSB12
          try simp only [Act.put, List.getElem_toArray, List.getElem_cons_zero, List.getElem_cons_succ, List.setIfInBounds_toArray, List.set_cons_zero, List.set_cons_succ]
          refine wpAnyG_takeP (i := 13) (v := ?_) rfl (by kernel_rfl) (by kernel_rfl) (by kernel_rfl) (fun _ _ _ h => h) rfl (Or.inl ⟨by rfl, ?_⟩) (by assumption) ?_
          rotate_left
          · intro Y _; go_simp; try with_reducible rfl
          intro hSB13
          try simp only [Act.put, List.getElem_toArray, List.getElem_cons_zero, List.getElem_cons_succ, List.setIfInBounds_toArray, List.set_cons_zero, List.set_cons_succ]
          refine wpAnyG_one (i := 14) (by kernel_rfl) rfl (fun K hK => ?_)
          go_simp
          refine hK.out _ _ (SB.off (by kernel_rfl) trivial) (fun hSB14 => ?_)
          clear hK K
          try simp only [Act.put, List.getElem_toArray, List.getElem_cons_zero, List.getElem_cons_succ, List.setIfInBounds_toArray, List.set_cons_zero, List.set_cons_succ]
          refine wpAnyG_done (by kernel_rfl) ?_ _
          clear hSB hSB0 hSB1 hSB2 hSB3 hSB4 hSB5 hSB6 hSB7 hSB8 hSB9 hSB10 hSB11 hSB12 hSB13 hSB14
          obtain ⟨F2, G2, h4⟩ := HGw.out.copyY H3.out
          have H4 : Hid (Two3 w ((w3.setCell ⟨B, 0, none⟩ (.pointer (some ⟨p2, 0, none⟩))).setCell ⟨B, 1, none⟩ (.pointer (some ⟨q3, 0, none⟩))) (some ⟨g, 0, none⟩) sops B p2 q3 p1 q1 S1.copy S1 F2 G2 F1 G1 (lim k)) := h4
          clear h4 H2 H3 HCo HRo HCl d0 d1 d2 d3 hz0 hz1 hz2 hz3 hfz hwb c0 c1 c2 c3 hcl
          generalize ((w3.setCell ⟨B, 0, none⟩ (.pointer (some ⟨p2, 0, none⟩))).setCell ⟨B, 1, none⟩ (.pointer (some ⟨q3, 0, none⟩))) = w4 at *
          obtain ⟨e0, e1, e2, e3, _⟩ := H4.out.cl
          go_wp2_with (go_at_call 10; go_loud (refine (wwhole_any p2 q3 S1.copy F2 G2 w4 H4.out.x.pr H4.out.x.good.fit).mono ?_; rintro e w5 ⟨rfl, hB5⟩; have HN : Hid (Two4 w w5 (some ⟨g, 0, none⟩) sops B (lim (k + 1))) := ((H4.out.turn hB5).more (by have := lim_succ k; omega)).four; clear hB5))
          exact ⟨⟨k + 1, by omega, by simp, HN⟩, by simp [intOf]; omega⟩
        · have hq : ((IntKind.u64.wrap kind).tmod 9 == 6) = false := beq_eq_false_iff_ne.2 h6
          have HDo : Hid (∀ W, Two3 w W (some ⟨g, 0, none⟩) sops B p0 q0 p1 q1 S0 S1 F0 G0 F1 G1 (lim k) → Below wr.heap.size wr W → Calls Tryd.prog 11 #[.agg #[.pointer (some ⟨p1, 0, none⟩), .pointer (some ⟨q1, 0, none⟩)], .agg #[.int .i64 kind, .string nm, .string nt, .int .i64 nn, .slice ad ln cp]] W fun e w' => ∃ v, e = .returned v ∧ (v = .bool true ∧ Two4 w w' (some ⟨g, 0, none⟩) sops B (lim (k + 1)))) := fun W hW hBW => (wdoes_any W p1 q1 kind nn nm nt ad ln cp l S1 (lim k) F1 G1 hW.y.pr (HIn.out W F1 G1 hW.env.below (fun j hj => (hW.y.lo j hj).1)) hW.y.good (by have := HM60.out; unfold lim; omega) h6 (fun W' hT' => HTab.out W' (hW.env.below.trans (hT'.below hW.env.below.size (fun j hj => (hW.y.lo j hj).1))))).mono fun e w' ⟨h1, h2⟩ => ⟨_, h1, rfl, hW.doesY (by have := h2; rwa [show lim k + 4194305 = lim (k + 1) by unfold lim; omega] at this) (by have := lim_succ k; omega)⟩
          go_upto_region 16 with fail
          rw [← hwb]
          refine wp_region_G (S := SB 4 (fun W => (W.cell? ⟨B, 0, none⟩ = some (.pointer (some ⟨p0, 0, none⟩)) ∧ W.cell? ⟨B, 1, none⟩ = some (.pointer (some ⟨q0, 0, none⟩)) ∧ W.cell? ⟨B, 2, none⟩ = some (.pointer (some ⟨p1, 0, none⟩)) ∧ W.cell? ⟨B, 3, none⟩ = some (.pointer (some ⟨q1, 0, none⟩))) ∧ W.cell? ⟨wr.heap.size, 0, none⟩ = some (.int .i64 kind) ∧ W.cell? ⟨wr.heap.size, 1, none⟩ = some (.string nm) ∧ W.cell? ⟨wr.heap.size, 2, none⟩ = some (.string nt) ∧ W.cell? ⟨wr.heap.size, 3, none⟩ = some (.int .i64 nn) ∧ W.cell? ⟨wr.heap.size, 4, none⟩ = some (.slice ad ln cp)) (fun _ => True)) hmx ?_
          have hSB : SB 4 (fun W : World => (W.cell? ⟨B, 0, none⟩ = some (.pointer (some ⟨p0, 0, none⟩)) ∧ W.cell? ⟨B, 1, none⟩ = some (.pointer (some ⟨q0, 0, none⟩)) ∧ W.cell? ⟨B, 2, none⟩ = some (.pointer (some ⟨p1, 0, none⟩)) ∧ W.cell? ⟨B, 3, none⟩ = some (.pointer (some ⟨q1, 0, none⟩))) ∧ W.cell? ⟨wr.heap.size, 0, none⟩ = some (.int .i64 kind) ∧ W.cell? ⟨wr.heap.size, 1, none⟩ = some (.string nm) ∧ W.cell? ⟨wr.heap.size, 2, none⟩ = some (.string nt) ∧ W.cell? ⟨wr.heap.size, 3, none⟩ = some (.int .i64 nn) ∧ W.cell? ⟨wr.heap.size, 4, none⟩ = some (.slice ad ln cp)) (fun _ => True) (Array.replicate 6 false) wb.drew := SB.on ⟨HCl.out _ ⟨rfl, rfl, rfl, Nat.le_refl _, fun _ _ => rfl⟩, o0, o1, o2, o3, o4⟩ trivial
          refine wpAnyG_takeP (i := 0) (v := ?_) rfl (by kernel_rfl) (by kernel_rfl) (by kernel_rfl) (fun _ _ _ h => h) rfl (Or.inl ⟨by rfl, ?_⟩) (by assumption) ?_
          rotate_left
          · intro Y _; go_simp; try with_reducible rfl
          intro hSB0
          try simp only [Act.put, List.getElem_toArray, List.getElem_cons_zero, List.setIfInBounds_toArray, List.set_cons_zero, List.set_cons_succ]
          refine wpAnyG_takeP (i := 1) (v := ?_) rfl (by kernel_rfl) (by kernel_rfl) (by kernel_rfl) (fun _ _ _ h => h) rfl (Or.inl ⟨by rfl, ?_⟩) (by assumption) ?_
          rotate_left
          · intro Y _; go_simp; try with_reducible rfl
          intro hSB1
          try simp only [Act.put, List.getElem_toArray, List.getElem_cons_zero, List.getElem_cons_succ, List.setIfInBounds_toArray, List.set_cons_zero, List.set_cons_succ]
          refine wpAnyG_takeB (i := 2) (b := 4) (v := ?_) rfl (by kernel_rfl) (by kernel_rfl) (by kernel_rfl) (fun _ _ _ h => h) rfl (by kernel_rfl) (by rfl) (by kernel_rfl) (Or.inl ⟨by rfl, ?_⟩) (by assumption) ?_
          rotate_left
          · intro Y hY; obtain ⟨⟨y0, y1, y2, y3⟩, z0, z1, z2, z3, z4⟩ := hY; go_simp; try with_reducible rfl
          intro hSB2
          try simp only [Act.put, List.getElem_toArray, List.getElem_cons_zero, List.getElem_cons_succ, List.setIfInBounds_toArray, List.set_cons_zero, List.set_cons_succ]
          refine wpAnyG_takeB (i := 3) (b := 4) (v := ?_) rfl (by kernel_rfl) (by kernel_rfl) (by kernel_rfl) (fun _ _ _ h => h) rfl (by kernel_rfl) (by rfl) (by kernel_rfl) (Or.inl ⟨by rfl, ?_⟩) (by assumption) ?_
          rotate_left
          · intro Y hY; obtain ⟨⟨y0, y1, y2, y3⟩, z0, z1, z2, z3, z4⟩ := hY; go_simp; try with_reducible rfl
          intro hSB3
          try simp only [Act.put, List.getElem_toArray, List.getElem_cons_zero, List.getElem_cons_succ, List.setIfInBounds_toArray, List.set_cons_zero, List.set_cons_succ]
          refine wpAnyG_one (i := 4) (by kernel_rfl) rfl (fun K hK => ?_)
          refine step_ldoes _ (by rfl) _ _ _ _ (by rfl) _ _ (by rfl) (by rfl) (fun v W => v = .bool true ∧ Two4 w W (some ⟨g, 0, none⟩) sops B (lim (k + 1))) (HDo.out wb.drew HGw.out (by rw [hwb]; exact ((Below.refl _ wr).alloc (Nat.le_refl _) _).trans ⟨rfl, rfl, rfl, Nat.le_refl _, fun _ _ => rfl⟩)) ?_
          rintro v w5 ⟨rfl, h5⟩
          have HN : Hid (Two4 w w5 (some ⟨g, 0, none⟩) sops B (lim (k + 1))) := h5
          clear h5
          refine hK.out _ _ (SB.off (by kernel_rfl) trivial) (fun hSB4 => ?_)
          clear hK K
          try simp only [Act.put, List.getElem_toArray, List.getElem_cons_zero, List.getElem_cons_succ, List.setIfInBounds_toArray, List.set_cons_zero, List.set_cons_succ]
          refine wpAnyG_takeP (i := 5) (v := ?_) rfl (by kernel_rfl) (by kernel_rfl) (by kernel_rfl) (fun _ _ _ h => h) rfl (Or.inl ⟨by rfl, ?_⟩) (by assumption) ?_
          rotate_left
          · intro Y _; go_simp; try with_reducible rfl
          intro hSB5
          try simp only [Act.put, List.getElem_toArray, List.getElem_cons_zero, List.getElem_cons_succ, List.setIfInBounds_toArray, List.set_cons_zero, List.set_cons_succ]
          refine wpAnyG_done (by kernel_rfl) ?_ _
          clear hSB hSB0 hSB1 hSB2 hSB3 hSB4 hSB5
          clear HDo HCl hwb c0 c1 c2 c3 hcl o0 o1 o2 o3 o4
          go_wp2
          exact ⟨⟨k + 1, by omega, by simp, HN⟩, by simp [intOf]; omega⟩
      · have i7 : ((k : Int).tmod 4 == 3) = false := beq_eq_false_iff_ne.2 (by rw [Int.tmod_eq_emod_of_nonneg i4]; omega)
        by_cases h6 : (IntKind.u64.wrap kind).tmod 9 = 6
        · have hq := h6
          have HCo : Hid (∀ W, Two3 w W (some ⟨g, 0, none⟩) sops B p0 q0 p1 q1 S0 S1 F0 G0 F1 G1 (lim k) → Calls Tryd.prog 8 #[.pointer (some ⟨p0, 0, none⟩)] W fun e w' => ∃ v, e = .returned v ∧ (∃ p', v = .pointer (some ⟨p', 0, none⟩) ∧ IsDisk w' p' S0.copy (grow (fun _ => False) W w') ∧ Below W.heap.size W w')) := fun W hW => (copy_any p0 S0 F0 W hW.x.pr.d (fun l bs hl => by have := hW.x.good.fine.bs l; rw [DG.bs, hl] at this; simp only [Option.getD_some] at this; omega) (by have := hW.x.good.fine.n; omega)).mono fun e w' ⟨p', h1, h2, h3⟩ => ⟨_, h1, p', rfl, h2, h3⟩
          have HRo : Hid (∀ W, IsRef W q0 S0 G0 → Calls Tryd.prog 9 #[.pointer (some ⟨q0, 0, none⟩)] W fun e w' => ∃ v, e = .returned v ∧ (∃ q', v = .pointer (some ⟨q', 0, none⟩) ∧ IsRef w' q' S0.copy (grow (fun _ => False) W w') ∧ Below W.heap.size W w')) := fun W hW => (rcopy_any q0 S0 G0 W hW (by have := HGd.out.x.good.fine.n; omega) (fun l bs hl => by have := HGd.out.x.good.fine.bs l; rw [DG.bs, hl] at this; simp only [Option.getD_some] at this; omega)).mono fun e w' ⟨q', h1, h2, h3⟩ => ⟨_, h1, q', rfl, h2, h3⟩
          go_upto_region 13 with fail
          rw [← hwb]
          refine wp_region_G (S := SB 14 (fun W => W.cell? ⟨B, 0, none⟩ = some (.pointer (some ⟨p0, 0, none⟩)) ∧ W.cell? ⟨B, 1, none⟩ = some (.pointer (some ⟨q0, 0, none⟩)) ∧ W.cell? ⟨B, 2, none⟩ = some (.pointer (some ⟨p1, 0, none⟩)) ∧ W.cell? ⟨B, 3, none⟩ = some (.pointer (some ⟨q1, 0, none⟩))) (fun _ => True)) hmx ?_
          have hSB : SB 14 (fun W : World => W.cell? ⟨B, 0, none⟩ = some (.pointer (some ⟨p0, 0, none⟩)) ∧ W.cell? ⟨B, 1, none⟩ = some (.pointer (some ⟨q0, 0, none⟩)) ∧ W.cell? ⟨B, 2, none⟩ = some (.pointer (some ⟨p1, 0, none⟩)) ∧ W.cell? ⟨B, 3, none⟩ = some (.pointer (some ⟨q1, 0, none⟩))) (fun _ => True) (Array.replicate 15 false) wb.drew := SB.on (HCl.out _ ⟨rfl, rfl, rfl, Nat.le_refl _, fun _ _ => rfl⟩) trivial
          refine wpAnyG_takeP (i := 0) (v := ?_) rfl (by kernel_rfl) (by kernel_rfl) (by kernel_rfl) (fun _ _ _ h => h) rfl (Or.inl ⟨by rfl, ?_⟩) (by assumption) ?_
          rotate_left
          · intro Y _; go_simp; try with_reducible rfl
          intro hSB0
          try simp only [Act.put, List.getElem_toArray, List.getElem_cons_zero, List.setIfInBounds_toArray, List.set_cons_zero, List.set_cons_succ]
          refine wpAnyG_takeP (i := 1) (v := ?_) rfl (by kernel_rfl) (by kernel_rfl) (by kernel_rfl) (fun _ _ _ h => h) rfl (Or.inl ⟨by rfl, ?_⟩) (by assumption) ?_
          rotate_left
          · intro Y _; go_simp; try with_reducible rfl
          intro hSB1
          try simp only [Act.put, List.getElem_toArray, List.getElem_cons_zero, List.getElem_cons_succ, List.setIfInBounds_toArray, List.set_cons_zero, List.set_cons_succ]
          refine wpAnyG_takeP (i := 2) (v := ?_) rfl (by kernel_rfl) (by kernel_rfl) (by kernel_rfl) (fun _ _ _ h => h) rfl (Or.inl ⟨by rfl, ?_⟩) (by assumption) ?_
          rotate_left
          · intro Y _; go_simp; try with_reducible rfl
          intro hSB2
          try simp only [Act.put, List.getElem_toArray, List.getElem_cons_zero, List.getElem_cons_succ, List.setIfInBounds_toArray, List.set_cons_zero, List.set_cons_succ]
          refine wpAnyG_takeP (i := 3) (v := ?_) rfl (by kernel_rfl) (by kernel_rfl) (by kernel_rfl) (fun _ _ _ h => h) rfl (Or.inl ⟨by rfl, ?_⟩) (by assumption) ?_
          rotate_left
          · intro Y _; go_simp; try with_reducible rfl
          intro hSB3
          try simp only [Act.put, List.getElem_toArray, List.getElem_cons_zero, List.getElem_cons_succ, List.setIfInBounds_toArray, List.set_cons_zero, List.set_cons_succ]
          refine wpAnyG_takeP (i := 4) (v := ?_) rfl (by kernel_rfl) (by kernel_rfl) (by kernel_rfl) (fun _ _ _ h => h) rfl (Or.inl ⟨by rfl, ?_⟩) (by assumption) ?_
          rotate_left
          · intro Y _; go_simp; try with_reducible rfl
          intro hSB4
          try simp only [Act.put, List.getElem_toArray, List.getElem_cons_zero, List.getElem_cons_succ, List.setIfInBounds_toArray, List.set_cons_zero, List.set_cons_succ]
          refine wpAnyG_takeB (i := 5) (b := 14) (v := ?_) rfl (by kernel_rfl) (by kernel_rfl) (by kernel_rfl) (fun _ _ _ h => h) rfl (by kernel_rfl) (by rfl) (by kernel_rfl) (Or.inl ⟨by rfl, ?_⟩) (by assumption) ?_
          rotate_left
          · intro Y hY; obtain ⟨y0, y1, y2, y3⟩ := hY; go_simp; try with_reducible rfl
          intro hSB5
          try simp only [Act.put, List.getElem_toArray, List.getElem_cons_zero, List.getElem_cons_succ, List.setIfInBounds_toArray, List.set_cons_zero, List.set_cons_succ]
          refine wpAnyG_takeP (i := 7) (v := ?_) rfl (by kernel_rfl) (by kernel_rfl) (by kernel_rfl) (fun _ _ _ h => h) rfl (Or.inl ⟨by rfl, ?_⟩) (by assumption) ?_
          rotate_left
          · intro Y _; go_simp; try with_reducible rfl
          intro hSB7
          try simp only [Act.put, List.getElem_toArray, List.getElem_cons_zero, List.getElem_cons_succ, List.setIfInBounds_toArray, List.set_cons_zero, List.set_cons_succ]
          refine wpAnyG_takeP (i := 8) (v := ?_) rfl (by kernel_rfl) (by kernel_rfl) (by kernel_rfl) (fun _ _ _ h => h) rfl (Or.inl ⟨by rfl, ?_⟩) (by assumption) ?_
          rotate_left
          · intro Y _; go_simp; try with_reducible rfl
          intro hSB8
          try simp only [Act.put, List.getElem_toArray, List.getElem_cons_zero, List.getElem_cons_succ, List.setIfInBounds_toArray, List.set_cons_zero, List.set_cons_succ]
          refine wpAnyG_takeP (i := 9) (v := ?_) rfl (by kernel_rfl) (by kernel_rfl) (by kernel_rfl) (fun _ _ _ h => h) rfl (Or.inl ⟨by rfl, ?_⟩) (by assumption) ?_
          rotate_left
          · intro Y _; go_simp; try with_reducible rfl
          intro hSB9
          try simp only [Act.put, List.getElem_toArray, List.getElem_cons_zero, List.getElem_cons_succ, List.setIfInBounds_toArray, List.set_cons_zero, List.set_cons_succ]
          refine wpAnyG_takeB (i := 10) (b := 14) (v := ?_) rfl (by kernel_rfl) (by kernel_rfl) (by kernel_rfl) (fun _ _ _ h => h) rfl (by kernel_rfl) (by rfl) (by kernel_rfl) (Or.inl ⟨by rfl, ?_⟩) (by assumption) ?_
          rotate_left
          · intro Y hY; obtain ⟨y0, y1, y2, y3⟩ := hY; go_simp; try with_reducible rfl
          intro hSB10
          try simp only [Act.put, List.getElem_toArray, List.getElem_cons_zero, List.getElem_cons_succ, List.setIfInBounds_toArray, List.set_cons_zero, List.set_cons_succ]
          refine wpAnyG_one (i := 6) (by kernel_rfl) rfl (fun K hK => ?_)
          refine step_lcopy _ (by rfl) _ _ (by rfl) _ (by rfl) (fun v W => ∃ p', v = .pointer (some ⟨p', 0, none⟩) ∧ IsDisk W p' S0.copy (grow (fun _ => False) wb.drew W) ∧ Below wb.heap.size wb.drew W) (HCo.out wb.drew HGw.out) ?_
          rintro v w2 ⟨p2, rfl, h2, hB2⟩
          have H2 : Hid (IsDisk w2 p2 S0.copy (grow (fun _ => False) wb.drew w2) ∧ Below wb.heap.size wb.drew w2) := ⟨h2, hB2⟩
          clear h2 hB2
          refine hK.out _ _ (SB.on (HCl.out _ (HBd.out.trans H2.out.2)) trivial) (fun hSB6 => ?_)
          clear hK K
          try simp only [Act.put, List.getElem_toArray, List.getElem_cons_zero, List.getElem_cons_succ, List.setIfInBounds_toArray, List.set_cons_zero, List.set_cons_succ]
          refine wpAnyG_one (i := 11) (by kernel_rfl) rfl (fun K hK => ?_)
          refine step_lrcopy _ (by rfl) _ _ (by rfl) _ (by rfl) (fun v W => ∃ q', v = .pointer (some ⟨q', 0, none⟩) ∧ IsRef W q' S0.copy (grow (fun _ => False) w2 W) ∧ Below w2.heap.size w2 W) (HRo.out w2 (HGw.out.x.pr.r.kept H2.out.2)) ?_
          rintro v w3 ⟨q3, rfl, h3, hB3⟩
          have H3 : Hid (Cp w wb.drew w3 (some ⟨g, 0, none⟩) B p2 q3 S0.copy (lim k)) := Cp.mk2 HGw.out.env HGd.out.x.good H2.out.2 H2.out.1 hB3 h3
          clear h3 hB3
          have hcl3 := HCl.out _ (HBd.out.trans H3.out.below)
          obtain ⟨d0, d1, d2, d3⟩ := hcl3
          have hfz := (HGw.out.turn H3.out.below).cl.2.2.2.2
          have hz0 := hfz 0
          have hz1 := hfz 1
          have hz2 := hfz 2
          have hz3 := hfz 3
          refine hK.out _ _ (SB.on ⟨d0, d1, d2, d3⟩ trivial) (fun hSB11 => ?_)
          clear hK K
          try simp only [Act.put, List.getElem_toArray, List.getElem_cons_zero, List.getElem_cons_succ, List.setIfInBounds_toArray, List.set_cons_zero, List.set_cons_succ]
          refine wpAnyG_takeP (i := 12) (v := ?_) rfl (by kernel_rfl) (by kernel_rfl) (by kernel_rfl) (fun _ _ _ h => h) rfl (Or.inl ⟨by rfl, ?_⟩) (by assumption) ?_
          rotate_left
          · intro Y _; go_simp; try with_reducible rfl
          intro hSB12
          try simp only [Act.put, List.getElem_toArray, List.getElem_cons_zero, List.getElem_cons_succ, List.setIfInBounds_toArray, List.set_cons_zero, List.set_cons_succ]
          refine wpAnyG_takeP (i := 13) (v := ?_) rfl (by kernel_rfl) (by kernel_rfl) (by kernel_rfl) (fun _ _ _ h => h) rfl (Or.inl ⟨by rfl, ?_⟩) (by assumption) ?_
          rotate_left
          · intro Y _; go_simp; try with_reducible rfl
          intro hSB13
          try simp only [Act.put, List.getElem_toArray, List.getElem_cons_zero, List.getElem_cons_succ, List.setIfInBounds_toArray, List.set_cons_zero, List.set_cons_succ]
          refine wpAnyG_one (i := 14) (by kernel_rfl) rfl (fun K hK => ?_)
          go_simp
          refine hK.out _ _ (SB.off (by kernel_rfl) trivial) (fun hSB14 => ?_)
          clear hK K
          try simp only [Act.put, List.getElem_toArray, List.getElem_cons_zero, List.getElem_cons_succ, List.setIfInBounds_toArray, List.set_cons_zero, List.set_cons_succ]
          refine wpAnyG_done (by kernel_rfl) ?_ _
          clear hSB hSB0 hSB1 hSB2 hSB3 hSB4 hSB5 hSB6 hSB7 hSB8 hSB9 hSB10 hSB11 hSB12 hSB13 hSB14
          obtain ⟨F2, G2, h4⟩ := HGw.out.copyX H3.out
          have H4 : Hid (Two3 w ((w3.setCell ⟨B, 2, none⟩ (.pointer (some ⟨p2, 0, none⟩))).setCell ⟨B, 3, none⟩ (.pointer (some ⟨q3, 0, none⟩))) (some ⟨g, 0, none⟩) sops B p0 q0 p2 q3 S0 S0.copy F0 G0 F2 G2 (lim k)) := h4
          clear h4 H2 H3 HCo HRo HCl d0 d1 d2 d3 hz0 hz1 hz2 hz3 hfz hwb c0 c1 c2 c3 hcl
          generalize ((w3.setCell ⟨B, 2, none⟩ (.pointer (some ⟨p2, 0, none⟩))).setCell ⟨B, 3, none⟩ (.pointer (some ⟨q3, 0, none⟩))) = w4 at *
          obtain ⟨e0, e1, e2, e3, _⟩ := H4.out.cl
          go_wp2_with (go_at_call 10; go_loud (refine (wwhole_any p2 q3 S0.copy F2 G2 w4 H4.out.y.pr H4.out.y.good.fit).mono ?_; rintro e w5 ⟨rfl, hB5⟩; have HN : Hid (Two4 w w5 (some ⟨g, 0, none⟩) sops B (lim (k + 1))) := ((H4.out.turn hB5).more (by have := lim_succ k; omega)).four; clear hB5))
          exact ⟨⟨k + 1, by omega, by simp, HN⟩, by simp [intOf]; omega⟩
        · have hq : ((IntKind.u64.wrap kind).tmod 9 == 6) = false := beq_eq_false_iff_ne.2 h6
          have HDo : Hid (∀ W, Two3 w W (some ⟨g, 0, none⟩) sops B p0 q0 p1 q1 S0 S1 F0 G0 F1 G1 (lim k) → Below wr.heap.size wr W → Calls Tryd.prog 11 #[.agg #[.pointer (some ⟨p0, 0, none⟩), .pointer (some ⟨q0, 0, none⟩)], .agg #[.int .i64 kind, .string nm, .string nt, .int .i64 nn, .slice ad ln cp]] W fun e w' => ∃ v, e = .returned v ∧ (v = .bool true ∧ Two4 w w' (some ⟨g, 0, none⟩) sops B (lim (k + 1)))) := fun W hW hBW => (wdoes_any W p0 q0 kind nn nm nt ad ln cp l S0 (lim k) F0 G0 hW.x.pr (HIn.out W F0 G0 hW.env.below (fun j hj => (hW.x.lo j hj).1)) hW.x.good (by have := HM60.out; unfold lim; omega) h6 (fun W' hT' => HTab.out W' (hW.env.below.trans (hT'.below hW.env.below.size (fun j hj => (hW.x.lo j hj).1))))).mono fun e w' ⟨h1, h2⟩ => ⟨_, h1, rfl, hW.doesX (by have := h2; rwa [show lim k + 4194305 = lim (k + 1) by unfold lim; omega] at this) (by have := lim_succ k; omega)⟩
          go_upto_region 16 with fail
          rw [← hwb]
          refine wp_region_G (S := SB 4 (fun W => (W.cell? ⟨B, 0, none⟩ = some (.pointer (some ⟨p0, 0, none⟩)) ∧ W.cell? ⟨B, 1, none⟩ = some (.pointer (some ⟨q0, 0, none⟩)) ∧ W.cell? ⟨B, 2, none⟩ = some (.pointer (some ⟨p1, 0, none⟩)) ∧ W.cell? ⟨B, 3, none⟩ = some (.pointer (some ⟨q1, 0, none⟩))) ∧ W.cell? ⟨wr.heap.size, 0, none⟩ = some (.int .i64 kind) ∧ W.cell? ⟨wr.heap.size, 1, none⟩ = some (.string nm) ∧ W.cell? ⟨wr.heap.size, 2, none⟩ = some (.string nt) ∧ W.cell? ⟨wr.heap.size, 3, none⟩ = some (.int .i64 nn) ∧ W.cell? ⟨wr.heap.size, 4, none⟩ = some (.slice ad ln cp)) (fun _ => True)) hmx ?_
          have hSB : SB 4 (fun W : World => (W.cell? ⟨B, 0, none⟩ = some (.pointer (some ⟨p0, 0, none⟩)) ∧ W.cell? ⟨B, 1, none⟩ = some (.pointer (some ⟨q0, 0, none⟩)) ∧ W.cell? ⟨B, 2, none⟩ = some (.pointer (some ⟨p1, 0, none⟩)) ∧ W.cell? ⟨B, 3, none⟩ = some (.pointer (some ⟨q1, 0, none⟩))) ∧ W.cell? ⟨wr.heap.size, 0, none⟩ = some (.int .i64 kind) ∧ W.cell? ⟨wr.heap.size, 1, none⟩ = some (.string nm) ∧ W.cell? ⟨wr.heap.size, 2, none⟩ = some (.string nt) ∧ W.cell? ⟨wr.heap.size, 3, none⟩ = some (.int .i64 nn) ∧ W.cell? ⟨wr.heap.size, 4, none⟩ = some (.slice ad ln cp)) (fun _ => True) (Array.replicate 6 false) wb.drew := SB.on ⟨HCl.out _ ⟨rfl, rfl, rfl, Nat.le_refl _, fun _ _ => rfl⟩, o0, o1, o2, o3, o4⟩ trivial
          refine wpAnyG_takeP (i := 0) (v := ?_) rfl (by kernel_rfl) (by kernel_rfl) (by kernel_rfl) (fun _ _ _ h => h) rfl (Or.inl ⟨by rfl, ?_⟩) (by assumption) ?_
          rotate_left
          · intro Y _; go_simp; try with_reducible rfl
          intro hSB0
          try simp only [Act.put, List.getElem_toArray, List.getElem_cons_zero, List.setIfInBounds_toArray, List.set_cons_zero, List.set_cons_succ]
          refine wpAnyG_takeP (i := 1) (v := ?_) rfl (by kernel_rfl) (by kernel_rfl) (by kernel_rfl) (fun _ _ _ h => h) rfl (Or.inl ⟨by rfl, ?_⟩) (by assumption) ?_
          rotate_left
          · intro Y _; go_simp; try with_reducible rfl
          intro hSB1
          try simp only [Act.put, List.getElem_toArray, List.getElem_cons_zero, List.getElem_cons_succ, List.setIfInBounds_toArray, List.set_cons_zero, List.set_cons_succ]
          refine wpAnyG_takeB (i := 2) (b := 4) (v := ?_) rfl (by kernel_rfl) (by kernel_rfl) (by kernel_rfl) (fun _ _ _ h => h) rfl (by kernel_rfl) (by rfl) (by kernel_rfl) (Or.inl ⟨by rfl, ?_⟩) (by assumption) ?_
          rotate_left
          · intro Y hY; obtain ⟨⟨y0, y1, y2, y3⟩, z0, z1, z2, z3, z4⟩ := hY; go_simp; try with_reducible rfl
          intro hSB2
          try simp only [Act.put, List.getElem_toArray, List.getElem_cons_zero, List.getElem_cons_succ, List.setIfInBounds_toArray, List.set_cons_zero, List.set_cons_succ]
          refine wpAnyG_takeB (i := 3) (b := 4) (v := ?_) rfl (by kernel_rfl) (by kernel_rfl) (by kernel_rfl) (fun _ _ _ h => h) rfl (by kernel_rfl) (by rfl) (by kernel_rfl) (Or.inl ⟨by rfl, ?_⟩) (by assumption) ?_
          rotate_left
          · intro Y hY; obtain ⟨⟨y0, y1, y2, y3⟩, z0, z1, z2, z3, z4⟩ := hY; go_simp; try with_reducible rfl
          intro hSB3
          try simp only [Act.put, List.getElem_toArray, List.getElem_cons_zero, List.getElem_cons_succ, List.setIfInBounds_toArray, List.set_cons_zero, List.set_cons_succ]
          refine wpAnyG_one (i := 4) (by kernel_rfl) rfl (fun K hK => ?_)
          refine step_ldoes _ (by rfl) _ _ _ _ (by rfl) _ _ (by rfl) (by rfl) (fun v W => v = .bool true ∧ Two4 w W (some ⟨g, 0, none⟩) sops B (lim (k + 1))) (HDo.out wb.drew HGw.out (by rw [hwb]; exact ((Below.refl _ wr).alloc (Nat.le_refl _) _).trans ⟨rfl, rfl, rfl, Nat.le_refl _, fun _ _ => rfl⟩)) ?_
          rintro v w5 ⟨rfl, h5⟩
          have HN : Hid (Two4 w w5 (some ⟨g, 0, none⟩) sops B (lim (k + 1))) := h5
          clear h5
          refine hK.out _ _ (SB.off (by kernel_rfl) trivial) (fun hSB4 => ?_)
          clear hK K
          try simp only [Act.put, List.getElem_toArray, List.getElem_cons_zero, List.getElem_cons_succ, List.setIfInBounds_toArray, List.set_cons_zero, List.set_cons_succ]
          refine wpAnyG_takeP (i := 5) (v := ?_) rfl (by kernel_rfl) (by kernel_rfl) (by kernel_rfl) (fun _ _ _ h => h) rfl (Or.inl ⟨by rfl, ?_⟩) (by assumption) ?_
          rotate_left
          · intro Y _; go_simp; try with_reducible rfl
          intro hSB5
          try simp only [Act.put, List.getElem_toArray, List.getElem_cons_zero, List.getElem_cons_succ, List.setIfInBounds_toArray, List.set_cons_zero, List.set_cons_succ]
          refine wpAnyG_done (by kernel_rfl) ?_ _
          clear hSB hSB0 hSB1 hSB2 hSB3 hSB4 hSB5
          clear HDo HCl hwb c0 c1 c2 c3 hcl o0 o1 o2 o3 o4
          go_wp2
          exact ⟨⟨k + 1, by omega, by simp, HN⟩, by simp [intOf]; omega⟩
    · have i3 : ¬ (k : Int) < (m : Int) := by omega
      obtain ⟨p0, q0, p1, q1, S0, S1, F0, G0, F1, G1, h3⟩ := H.out
      have H3 : Hid (Two3 w wr sa sops B p0 q0 p1 q1 S0 S1 F0 G0 F1 G1 (lim k)) := h3
      obtain ⟨c0, c1, c2, c3, _⟩ := h3.cl
      clear h3 H
      go_wp2_with first
        | (go_at_call 4; go_loud (refine (wakes_any w6).mono ?_; rintro e w8 ⟨rfl, hB8⟩; have H8 : Hid (Below w.heap.size w w8) := below_more H6.out.env.below hB8; clear hB8))
        | (go_at_call 10; go_loud (refine (wwhole_any p1 q1 S1 F1 G1 w4 H4.out.y.pr H4.out.y.good.fit).mono ?_; rintro e w6 ⟨rfl, hB6⟩; have H6 : Hid (Two3 w w6 sa sops B p0 q0 p1 q1 S0 S1 F0 G0 F1 G1 (lim k)) := H4.out.turn hB6; obtain ⟨c0, c1, c2, c3, _⟩ := H6.out.cl; clear hB6))
        | (go_at_call 10; go_loud (refine (wwhole_any p0 q0 S0 F0 G0 wr H3.out.x.pr H3.out.x.good.fit).mono ?_; rintro e w4 ⟨rfl, hB4⟩; have H4 : Hid (Two3 w w4 sa sops B p0 q0 p1 q1 S0 S1 F0 G0 F1 G1 (lim k)) := H3.out.turn hB4; obtain ⟨c0, c1, c2, c3, _⟩ := H4.out.cl; clear hB4))
      exact bodyPost_ret (v := .bool true) (by simp [results, Tryd.results3, go_sem]) rfl ⟨rfl, H8.out⟩

end Go.Proofs.YtcbmofapnjdmgaaDoor
