import Derived.Test.YtgcbbnmjomhngaaK21
/- The walk of Sources. -/
namespace Go.Proofs.Ytgcbbnmjomhngaa
open Go.RowKit Go.Shelf Go.Maps

attribute [local go_sem] Oper.semAt_some

theorem infoIdV : (Try.prog.info? 32).map (fun i => (i.zero, i.size, i.bytes)) = some (some (.int .u64 0), 1, 8) := by kernel_rfl
theorem irow_shape {w : World} {B n : Nat} {e : TypeId} {v : Value} {xs : List Value} (h : w.ownsRow B e 1 v n xs) : ∃ ad c, v = .slice ad n c ∧ n ≤ c ∧ (ad = none → n = 0 ∧ c = 0) := by
  rcases h.2 with ⟨rfl, rfl⟩ | ⟨g, cap, cur, rfl, _, _, hc, _⟩
  · exact ⟨none, 0, rfl, Nat.le_refl _, fun _ => ⟨rfl, rfl⟩⟩
  · exact ⟨_, _, rfl, hc, fun h => by cases h⟩
theorem irow_block {W : World} {base n : Nat} {e : TypeId} {v : Value} {xs : List Value} (h : W.ownsRow base e 1 v n xs) : ∀ r, v.ownBlock = some r → base ≤ r ∧ r < W.heap.size ∧ ∃ cur, W.heap[r]? = some (.cells cur e (0, 0)) := by
  intro r hr
  rcases h.2 with ⟨rfl, _⟩ | ⟨g, cap, cur, rfl, hb, hg, _⟩
  · cases hr
  · cases hr
    exact ⟨hb, (Array.getElem?_eq_some_iff.1 hg).1, cur, hg⟩
theorem irow_moved {w w' : World} {e : TypeId} {B n z : Nat} {v : Value} {xs : List Value} (h : w.ownsRow B e z v n xs) (hb : ∀ g, v.ownBlock = some g → w'.heap[g]? = w.heap[g]?) : w'.ownsRow B e z v n xs := by
  refine ⟨h.1, ?_⟩
  rcases h.2 with h0 | ⟨g, cap, cur, rfl, h1, h2, h3⟩
  · exact .inl h0
  · exact .inr ⟨g, cap, cur, rfl, h1, by rw [hb g rfl]; exact h2, h3⟩
theorem ikeepsFrom_turn {X : Nat → Prop} {W W' : World} {B : Nat} (h : Turn X W W') (hX : ∀ k o, X k → B ≤ k → W.heap[k]? = some o → o.isCells = true) : KeepsFrom B W W' :=
  ⟨h.size, fun k o hB hk ho => (h.block k (Array.getElem?_eq_some_iff.1 hk).1 (fun hx => by rw [hX k o hx hB hk] at ho; cases ho)).trans hk⟩
/-- the Froms of the pairs that lead to t -/
def srcL (l : List Pr) (t : Nat) : List Nat := (l.filter fun p => p.2 == t).map (·.1)
theorem srcL_app (l m : List Pr) (t : Nat) : srcL (l ++ m) t = srcL l t ++ srcL m t := by simp [srcL]
theorem srcL_len (l : List Pr) (t : Nat) : (srcL l t).length ≤ l.length := by
  unfold srcL
  rw [List.length_map]
  exact List.length_filter_le _ _
abbrev idV (x : Nat) : Value := .int .u64 (x : Int)
/-- what stands while ids are gathered in box F -/
def SrcI (F t : Nat) (w3 : World) (pre : List Pr) (W : World) : Prop :=
  Turn (fun k => k = F) w3 W ∧ pre.length ≤ 65536 ∧ ∃ v, Boxed W F 45 v ∧ W.ownsRow w3.heap.size 32 1 v (srcL pre t).length ((srcL pre t).map idV)
theorem srcI_own (F t : Nat) (w3 : World) (hF : F < w3.heap.size) : OwnFrom w3.heap.size (SrcI F t w3) := by
  rintro pre X Y row ⟨hT, hp, v, h3, h4⟩ hgr hr
  refine ⟨vturn_own (β := List Pr) pre X Y row hT hgr hr, hp, v, h3.kept hgr (fun e => by have := (hr F e.symm).1; omega), irow_moved h4 (fun q hq => ?_)⟩
  obtain ⟨_, hlt, cur, hc⟩ := irow_block h4 q hq
  refine hgr.block q hlt (fun e => ?_)
  obtain ⟨_, o, ho, hoc⟩ := hr q e.symm
  rw [hc] at ho
  cases ho
  cases hoc

set_option maxRecDepth 100000 in
set_option maxHeartbeats 8000000 in
theorem sources_any (w : World) (a : Option Addr) (n c t : Nat) (b : List UInt8) (hb : Bytes w a n b) (hnil : a = none → n = 0) (hcap : n ≤ c) (hn : n ≤ 1000000000) :
    Calls Try.prog 19 #[.slice a n c, .int .u64 (t : Int)] w fun e w' => ∃ v, e = .returned v ∧ w'.ownsRow w.heap.size 32 1 v (srcL (eachL b) t).length ((srcL (eachL b) t).map idV) ∧ Below w.heap.size w w' := by
  obtain ⟨w0, hw0⟩ : ∃ w0, w0 = (w.alloc (.cells #[.int .u64 (t : Int)] 32)).alloc (.cells #[.slice none 0 0] 45) := ⟨_, rfl⟩
  have hB0 : Below w.heap.size w w0 := by rw [hw0]; exact ((Below.refl _ w).alloc (Nat.le_refl _) _).alloc (by simp) _
  have hs0 : w0.heap.size = w.heap.size + 2 := by rw [hw0]; simp
  have bt0 : Boxed w0 w.heap.size 32 (.int .u64 (t : Int)) := by rw [hw0]; exact (Boxed.new w _ _).alloc _
  have bf0 : Boxed w0 (w.heap.size + 1) 45 (.slice none 0 0) := by
    rw [hw0]
    have := Boxed.new (w.alloc (.cells #[.int .u64 (t : Int)] 32)) 45 (.slice none 0 0)
    rwa [World.size_alloc] at this
  have he := each_any w0 a n c b (vbytes_below hb hB0) hnil hcap hn
  have HW0 : Hid (Below w.heap.size w w0 ∧ w0.heap.size = w.heap.size + 2 ∧ Boxed w0 w.heap.size 32 (.int .u64 (t : Int)) ∧ Boxed w0 (w.heap.size + 1) 45 (.slice none 0 0)) := ⟨hB0, hs0, bt0, bf0⟩
  clear hB0 hs0 bt0 bf0 hb hnil
  refine (callsIn_wide (n := 5)).1 ?_
  refine callsIn_of_wp_marks Try.func19 rfl trivial ?_ rfl
  simp only [Try.ntmps19, List.size_toArray, List.length_cons, List.length_nil, Nat.reduceAdd, Nat.reduceSub, Array.replicate_succ, Array.replicate_zero, List.push_toArray, List.append_toArray, List.nil_append, List.cons_append]
  refine wpIn_wide.2 ?_
  go_wp2_with (go_at_call 15; rw [← hw0]; refine he.mono ?_; clear he; rintro e w3 ⟨Bx, G, v, rfl, hE, hBx, hG, hB3⟩)
  have H3 : Hid (EachAt w3 Bx G v (eachL b) ∧ w0.heap.size ≤ Bx ∧ w0.heap.size ≤ G ∧ Below w.heap.size w w3 ∧ Boxed w3 w.heap.size 32 (.int .u64 (t : Int)) ∧ Boxed w3 (w.heap.size + 1) 45 (.slice none 0 0) ∧ w.heap.size + 2 ≤ w3.heap.size) := by
    have hs := HW0.out.2.1
    have h3 := hB3.size
    exact ⟨hE, hBx, hG, HW0.out.1.trans (hB3.mono HW0.out.1.size), (hB3.block _ (by omega)).trans HW0.out.2.2.1, (hB3.block _ (by omega)).trans HW0.out.2.2.2, by omega⟩
  have HS : Hid (w0.heap.size = w.heap.size + 2) := HW0.out.2.1
  clear hE hBx hG hB3 HW0 hw0
  generalize hL : eachL b = L at *
  have HLb : Hid (eachL b = L) := hL
  clear hL
  obtain ⟨i0, hii, hzz0, hzz1, hzz2⟩ := info_parts infoIdV
  refine (wpIn_wide (n := 5)).1 ?_
  refine range_boxed (w := w3) rfl (by omega) (gf := 33) (lb := #[.pointer (some ⟨Bx, 0, none⟩)]) rfl trivial (enters_of Try.func33 (by kernel_rfl) rfl)
    (each_tells w3 Bx G v L H3.out.1 4 (by omega)) (fun _ => rfl) (fun k hk => hk.elim (fun e => by rw [e]; exact H3.out.1.box.lt) (fun e => by rw [e]; exact H3.out.1.glt))
    (SrcI (w.heap.size + 1) t w3) (fun _ _ _ => False)
    (srcI_own _ _ _ (by have := H3.out.2.2.2.2.2.2; omega)) ?ix (fun _ _ _ _ _ _ h _ _ => h) ⟨Turn.refl _ _, Nat.zero_le _, _, H3.out.2.2.2.2.2.1, World.ownsRow_nil _ _ _ _⟩
    (fun x => .cells #[.int .u64 (x.1 : Int), .int .u64 (x.2 : Int)] 47) ?act ?assign ?body ?done ?stop
  case assign =>
    intro l x b W K hb hK
    unfold prE
    gi_wp2
    exact hK
  case ix => exact fun c pre X Y row h _ _ => h.elim
  case body =>
    rintro l pre ⟨x, y⟩ bx W hl3 hb3 (hbx : BoxV W bx x y) ⟨hTW, hpl, v, bv, hrow⟩ hx
    have hs3 := H3.out.2.2.2.2.2.2
    have hsW := hTW.size
    have btW : Boxed W w.heap.size 32 (.int .u64 (t : Int)) := (hTW.block _ (by omega) (by omega)).trans H3.out.2.2.2.2.1
    obtain ⟨ga, gc, rfl, _⟩ := irow_shape hrow
    have hlen : pre.length + 1 ≤ 65536 := by
      have h1 := (List.getElem?_eq_some_iff.1 hx).1
      have h2 := H3.out.1.len
      omega
    have hsl := srcL_len pre t
    have cp := hbx.cell
    obtain ⟨cp0, cp1⟩ := cp
    have ct := btW.cell
    have cf := bv.cell
    have ff := bv.frozen
    by_cases hyt : y = t
    · have e1 : ((y : Int) == (t : Int)) = true := by simp [hyt]
      have HE : Hid (srcL (pre ++ [(x, y)]) t = srcL pre t ++ [x]) := (by rw [srcL_app]; simp [srcL, hyt] : srcL (pre ++ [(x, y)]) t = srcL pre t ++ [x])
      have H : Hid (Turn (fun k => k = w.heap.size + 1) w3 W ∧ Boxed W (w.heap.size + 1) 45 (.slice ga (srcL pre t).length gc) ∧ W.ownsRow w3.heap.size 32 1 (.slice ga (srcL pre t).length gc) (srcL pre t).length ((srcL pre t).map idV) ∧ pre.length + 1 ≤ 65536) := ⟨hTW, bv, hrow, hlen⟩
      have HBX : Hid (Boxed W (w.heap.size + 1) 45 (.slice ga (srcL pre t).length gc)) := bv
      have hrow' := hrow.alloc (.cells #[.int .u64 (x : Int)] 32)
      clear hTW hrow bv hbx btW hx hyt
      generalize hPL : (srcL pre t).length = PL at *
      gi_wp2_with (gi_at_builtin; refine wpListIn_append_own _ rfl _ _ 45 rfl w3.heap.size 32 i0 (.int .u64 0) 1 8 Try.underlying45 hii hzz0 hzz1 hzz2 rfl (by decide) _ PL _ rfl hrow' ⟨W.heap.size, 0, none⟩ 1 1 [.int .u64 (x : Int)] rfl rfl (cell_one_new _ _ _) (by simp [Value.oneCell']) (by unfold maxLen; omega) (by omega) (by simp; omega) ?_; intro v' w5 hown5 hgr5 _; have hvo : (Value.slice ga PL gc).ownBlock ≠ some (w.heap.size + 1) := (fun e => by have := (irow_block hrow' _ e).1; omega); have b5 : Boxed w5 (w.heap.size + 1) 45 (.slice ga PL gc) := (HBX.out.alloc (.cells #[.int .u64 (x : Int)] 32)).kept hgr5 (fun e => hvo e.symm); have c5 := b5.cell; have f5 := b5.frozen; obtain ⟨ga5, gc5, hv5, _⟩ := irow_shape hown5; subst hv5; have H5 : Hid (Boxed w5 (w.heap.size + 1) 45 (.slice ga PL gc) ∧ w5.ownsRow w3.heap.size 32 1 (.slice ga5 (PL + 1) gc5) (PL + 1) ((srcL pre t).map idV ++ [.int .u64 (x : Int)]) ∧ (W.alloc (.cells #[.int .u64 (x : Int)] 32)).grownBy w5 (Value.slice ga PL gc).ownBlock) := ⟨b5, hown5, hgr5⟩; clear b5 hown5 hgr5)
      obtain ⟨b5, hown5, hgr5⟩ := H5.out
      obtain ⟨hTW, bv, hrow, _⟩ := H.out
      have hT5 : Turn (fun k => k = w.heap.size + 1 ∨ (Value.slice ga PL gc).ownBlock = some k) W (w5.setCell ⟨w.heap.size + 1, 0, none⟩ (.slice ga5 (PL + 1) gc5)) :=
        ((Turn.of_below _ ((Below.refl _ W).alloc (Nat.le_refl _) (.cells #[.int .u64 (x : Int)] 32))).trans (Turn.of_grownBy (Fp := fun k => (Value.slice ga PL gc).ownBlock = some k) hgr5 (fun k e => .inl e)) (fun _ _ e => .inr e)).trans (turn_setCell w5 (w.heap.size + 1) 0 _) (fun _ _ e => .inl e)
      have hvB : ∀ k, (Value.slice ga PL gc).ownBlock = some k → w3.heap.size ≤ k := fun k e => (irow_block hrow k e).1
      have hbl := H3.out.1.box.lt
      have hgl := H3.out.1.glt
      have hb0 := H3.out.2.1
      have hg0 := H3.out.2.2.1
      have hs0 := HS.out
      refine ⟨ikeepsFrom_turn hT5 (fun q o hq hB ho => ?_), ⟨hT5.size, fun q hq => hT5.block q (by omega) (by rintro (e | e); omega; (have := hvB q e; omega))⟩, hTW.trans hT5 (fun q hq e => by rcases e with e | e; exact e; (have := hvB q e; omega)), by simp; omega, _, b5.set _, ?_⟩
      · rcases hq with e | e
        · omega
        · obtain ⟨_, _, cur, hc⟩ := irow_block hrow q e
          rw [hc] at ho; cases ho; rfl
      · rw [HE.out, List.length_append, hPL, List.map_append]
        refine irow_moved hown5 (fun q hq => ?_)
        have := (irow_block hown5 q hq).1
        exact Below.heap_setCell _ _ _ _ (by show q ≠ w.heap.size + 1; omega)
    · have e1 : ((y : Int) == (t : Int)) = false := by simp; omega
      have HE : Hid (srcL (pre ++ [(x, y)]) t = srcL pre t) := (by rw [srcL_app]; simp [srcL, hyt] : srcL (pre ++ [(x, y)]) t = srcL pre t)
      have HG : Hid (KeepsFrom w3.heap.size W W ∧ Keep (fun k => k = Bx ∨ k = G) W W ∧ SrcI (w.heap.size + 1) t w3 (pre ++ [(x, y)]) W) := by
        refine ⟨ikeepsFrom_turn (Turn.refl (fun _ => False) W) (fun q o hq => hq.elim), Keep.refl _ _, hTW, by simp; omega, _, bv, ?_⟩
        rw [HE.out]
        exact hrow
      clear hTW hrow bv hbx btW hx hyt HE
      gi_wp2
      exact HG.out
  case done =>
    rintro D xs W hD rfl ⟨hTW, hpl, v, bv, hrow⟩ hK
    have hs3 := H3.out.2.2.2.2.2.2
    have cf := bv.cell
    have HD : Hid (w3.heap.size ≤ D ∧ W.heap[D]? = some (.deferred (some [])) ∧ Turn (fun k => k = w.heap.size + 1) w3 W ∧ W.ownsRow w3.heap.size 32 1 v (srcL xs t).length ((srcL xs t).map idV)) := ⟨hD, hK, hTW, hrow⟩
    clear hTW hK bv hrow
    go_wp2_with fail
    obtain ⟨hD, hK, hTW, hrow⟩ := HD.out
    refine vfin_m (v := v) hK ?_ ?_
    · simp [results, Try.results19, go_sem]
    have hfin := (vturn_put (.deferred none) hTW hD).below (B := w.heap.size) (by have := H3.out.2.2.2.1.size; omega) (fun k e => by omega)
    refine ⟨v, rfl, ?_, H3.out.2.2.2.1.trans hfin⟩
    rw [HLb.out]
    have hr2 : (W.putObj D (.deferred none)).ownsRow w3.heap.size 32 1 v (srcL xs t).length ((srcL xs t).map idV) := irow_moved hrow (fun q hq => by
      obtain ⟨_, _, cur, hc⟩ := irow_block hrow q hq
      exact World.putObj_heap_other (fun e => by subst e; rw [hK] at hc; cases hc))
    refine ⟨hr2.1, hr2.2.imp id ?_⟩
    rintro ⟨g, cap, cur, h1, h2, h3⟩
    exact ⟨g, cap, cur, h1, by omega, h3⟩
  case stop => exact fun D c pre W hD h hK => h.elim
end Go.Proofs.Ytgcbbnmjomhngaa
