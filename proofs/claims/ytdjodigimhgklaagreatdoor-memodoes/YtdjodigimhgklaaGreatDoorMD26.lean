import Derived.Test.YtdjodigimhgklaaGreatDoorMD24
import Derived.Test.YtdjodigimhgklaaGreatDoorMD23
/- The memo's news: those of a run's pairs that it does not have. -/
namespace Go.Proofs.YtdjodigimhgklaaGreatDoor
open Go.RowKit Go.Shelf Go.Maps

attribute [local go_sem] Oper.semAt_some

/-- one pair more: is it known, new, or unlike what is known? -/
def newsS (ps : List Pr) (acc : List Pr) (p : Pr) : Option (List Pr) := match lookP ps p.1 with
  | none => some (acc ++ [p])
  | some y => if y = p.2 then some acc else none
/-- those of a run's pairs that are new; none: one is unlike what is known -/
def newsR (ps : List Pr) : List Pr → List Pr → Option (List Pr)
  | acc, [] => some acc
  | acc, p :: r => (newsS ps acc p).bind fun acc => newsR ps acc r
theorem newsR_app (ps : List Pr) : ∀ (a b acc : List Pr), newsR ps acc (a ++ b) = (newsR ps acc a).bind fun acc => newsR ps acc b
  | [], b, acc => rfl
  | p :: r, b, acc => by
    simp only [List.cons_append, newsR]
    cases newsS ps acc p with
    | none => rfl
    | some z => exact newsR_app ps r b z
theorem newsR_snoc (ps a : List Pr) (p : Pr) : newsR ps [] (a ++ [p]) = (newsR ps [] a).bind fun acc => newsS ps acc p := by
  rw [newsR_app]
  congr 1
  funext acc
  simp [newsR]
theorem newsR_stop {ps L a : List Pr} (h : newsR ps [] a = none) (hp : a <+: L) : newsR ps [] L = none := by
  obtain ⟨b, rfl⟩ := hp
  rw [newsR_app, h]
  rfl
theorem newsR_len (ps : List Pr) : ∀ (l acc out : List Pr), newsR ps acc l = some out → out.length ≤ acc.length + l.length
  | [], acc, out, h => by cases h; simp
  | p :: r, acc, out, h => by
    simp only [newsR] at h
    cases hs : newsS ps acc p with
    | none => rw [hs] at h; cases h
    | some z =>
      rw [hs] at h
      have := newsR_len ps r z out h
      have hz : z.length ≤ acc.length + 1 := by
        unfold newsS at hs
        split at hs
        · cases hs; simp
        · split at hs
          · cases hs; omega
          · cases hs
      simp only [List.length_cons]
      omega
/-- what news answers -/
def NewsA (w : World) (ps L : List Pr) (e : Ending) (w' : World) : Prop :=
  Below w.heap.size w w' ∧ ((newsR ps [] L = none ∧ e = .returned (.tuple #[.slice none 0 0, .int .i64 5])) ∨
    ∃ out ad cp, newsR ps [] L = some out ∧ e = .returned (.tuple #[.slice ad out.length cp, .int .i64 0]) ∧ w'.ownsRow w.heap.size 39 2 (.slice ad out.length cp) out.length (prCells out))
theorem res_two {n D p q : Nat} {f : Func} {W : World} {u1 u2 : Value} {tmps : Array Value} {P : Ending → World → Prop} (hf : f.results = #[ResultVar.cell 4 36, ResultVar.cell 5 29]) (ha1 : tmps[4]?.getD undef = .pointer (some ⟨p, 0, none⟩)) (ha2 : tmps[5]?.getD undef = .pointer (some ⟨q, 0, none⟩))
    (h1 : Boxed W p 36 u1) (h2 : Boxed W q 29 u2) (hK : W.heap[D]? = some (.deferred (some []))) (hp : p ≠ D) (hq : q ≠ D) (hP : P (.returned (.tuple #[u1, u2])) (W.putObj D (.deferred none))) :
    bodyPostM Fence.wide n Tryz.prog f P Exit.ret { tmps := tmps, defers := [{ target := .collected D, args := #[] }] } W := by
  have c1 := (show Boxed (W.putObj D (.deferred none)) p 36 u1 from (World.putObj_heap_other hp).trans h1).cell
  have c2 := (show Boxed (W.putObj D (.deferred none)) q 29 u2 from (World.putObj_heap_other hq).trans h2).cell
  refine ⟨by simp, .inl ⟨_, _, rfl, run_takeDeferred hK, ?_⟩⟩
  exact ⟨_, by simp [results, hf, go_sem, ha1, ha2, c1, c2], hP⟩
/-- what stands while new pairs are gathered in box F -/
def NewI (F : Nat) (ps L : List Pr) (w3 : World) (pre : List Pr) (W : World) : Prop :=
  Turn (fun k => k = F) w3 W ∧ pre <+: L ∧ ∃ acc v, newsR ps [] pre = some acc ∧ Boxed W F 36 v ∧ W.ownsRow w3.heap.size 39 2 v acc.length (prCells acc)
theorem newI_own (F : Nat) (ps L : List Pr) (w3 : World) (hF : F < w3.heap.size) : OwnFrom w3.heap.size (NewI F ps L w3) := by
  rintro pre X Y row ⟨hT, hp, acc, v, ha, h3, h4⟩ hgr hr
  refine ⟨vturn_own (β := List Pr) pre X Y row hT hgr hr, hp, acc, v, ha, h3.kept hgr (fun e => by have := (hr F e.symm).1; omega), row_movedV h4 (fun q hq => ?_)⟩
  obtain ⟨_, hlt, cur, hc⟩ := row_blockV h4 q hq
  refine hgr.block q hlt (fun e => ?_)
  obtain ⟨_, o, ho, hoc⟩ := hr q e.symm
  rw [hc] at ho
  cases ho
  cases hoc
theorem pre_snoc {L pre : List Pr} {x : Pr} (h : pre <+: L) (hx : L[pre.length]? = some x) : pre ++ [x] <+: L := by
  obtain ⟨b, rfl⟩ := h
  rw [List.getElem?_append_right (Nat.le_refl _), Nat.sub_self] at hx
  cases b with
  | nil => cases hx
  | cons y r => cases hx; exact ⟨r, by simp⟩

set_option maxRecDepth 100000 in
set_option maxHeartbeats 8000000 in
theorem news_anyY (w : World) (m d j : Nat) (g : Me) (vr : Value) (pa : Option Addr) (pc : Nat) (F : Nat → Prop) (h : MeAt w m d j g vr pa pc F) (a : Option Addr) (n c : Nat) (b : List UInt8) (hb : Bytes w a n b) (hnil : a = none → n = 0) (hcap : n ≤ c) (hn : n ≤ 1000000000) :
    Calls Tryz.prog 42 #[.pointer (some ⟨m, 0, none⟩), .slice a n c] w (NewsA w g.ps (eachL b)) := by
  have hmx : Tryz.prog.follows .mixedOrders = true := by kernel_rfl
  obtain ⟨w0, hw0⟩ : ∃ w0, w0 = (((w.alloc (.cells #[.pointer (some ⟨m, 0, none⟩)] 28)).alloc (.cells #[.slice none 0 0] 36)).alloc (.cells #[.int .i64 0] 29)).alloc (.cells #[.slice none 0 0] 36) := ⟨_, rfl⟩
  have hB0 : Below w.heap.size w w0 := by rw [hw0]; exact ((((Below.refl _ w).alloc (Nat.le_refl _) _).alloc (by simp) _).alloc (by simp; omega) _).alloc (by simp; omega) _
  have hs0 : w0.heap.size = w.heap.size + 4 := by rw [hw0]; simp
  have bm0 : Boxed w0 w.heap.size 28 (.pointer (some ⟨m, 0, none⟩)) := by rw [hw0]; exact (((Boxed.new w _ _).alloc _).alloc _).alloc _
  have b10 : Boxed w0 (w.heap.size + 1) 36 (.slice none 0 0) := by
    rw [hw0]
    have := ((Boxed.new (w.alloc (.cells #[.pointer (some ⟨m, 0, none⟩)] 28)) 36 (.slice none 0 0)).alloc (.cells #[.int .i64 0] 29)).alloc (.cells #[.slice none 0 0] 36)
    rwa [World.size_alloc] at this
  have b20 : Boxed w0 (w.heap.size + 2) 29 (.int .i64 0) := by
    rw [hw0]
    have := (Boxed.new ((w.alloc (.cells #[.pointer (some ⟨m, 0, none⟩)] 28)).alloc (.cells #[.slice none 0 0] 36)) 29 (.int .i64 0)).alloc (.cells #[.slice none 0 0] 36)
    rwa [World.size_alloc, World.size_alloc] at this
  have b30 : Boxed w0 (w.heap.size + 3) 36 (.slice none 0 0) := by
    rw [hw0]
    have := Boxed.new (((w.alloc (.cells #[.pointer (some ⟨m, 0, none⟩)] 28)).alloc (.cells #[.slice none 0 0] 36)).alloc (.cells #[.int .i64 0] 29)) 36 (.slice none 0 0)
    rwa [World.size_alloc, World.size_alloc, World.size_alloc] at this
  have he := veach_any w0 a n c b (vbytes_below hb hB0) hnil hcap hn
  have HW0 : Hid (Below w.heap.size w w0 ∧ w0.heap.size = w.heap.size + 4 ∧ Boxed w0 w.heap.size 28 (.pointer (some ⟨m, 0, none⟩)) ∧ Boxed w0 (w.heap.size + 1) 36 (.slice none 0 0) ∧ Boxed w0 (w.heap.size + 2) 29 (.int .i64 0) ∧ Boxed w0 (w.heap.size + 3) 36 (.slice none 0 0)) := ⟨hB0, hs0, bm0, b10, b20, b30⟩
  have HM : Hid (MeAt w m d j g vr pa pc F) := h
  clear hB0 hs0 bm0 b10 b20 b30 hb hnil h
  refine (callsIn_wide (n := 5)).1 ?_
  refine callsIn_of_wp_marks Tryz.func42 rfl trivial ?_ rfl
  simp only [Tryz.ntmps42, List.size_toArray, List.length_cons, List.length_nil, Nat.reduceAdd, Nat.reduceSub, Array.replicate_succ, Array.replicate_zero, List.push_toArray, List.append_toArray, List.nil_append, List.cons_append]
  refine wpIn_wide.2 ?_
  go_wp2_with (go_at_call 87; rw [← hw0]; refine he.mono ?_; clear he; rintro e w3 ⟨Bx, G, v, rfl, hE, hBx, hG, hB3⟩)
  have H3 : Hid (EachAt w3 Bx G v (eachL b) ∧ w0.heap.size ≤ Bx ∧ w0.heap.size ≤ G ∧ Below w.heap.size w w3 ∧ Boxed w3 w.heap.size 28 (.pointer (some ⟨m, 0, none⟩)) ∧ Boxed w3 (w.heap.size + 1) 36 (.slice none 0 0) ∧ Boxed w3 (w.heap.size + 2) 29 (.int .i64 0) ∧ Boxed w3 (w.heap.size + 3) 36 (.slice none 0 0) ∧ w.heap.size + 4 ≤ w3.heap.size) := by
    have hs := HW0.out.2.1
    have h3 := hB3.size
    exact ⟨hE, hBx, hG, HW0.out.1.trans (hB3.mono HW0.out.1.size), (hB3.block _ (by omega)).trans HW0.out.2.2.1, (hB3.block _ (by omega)).trans HW0.out.2.2.2.1, (hB3.block _ (by omega)).trans HW0.out.2.2.2.2.1, (hB3.block _ (by omega)).trans HW0.out.2.2.2.2.2, by omega⟩
  have HS : Hid (w0.heap.size = w.heap.size + 4) := HW0.out.2.1
  clear hE hBx hG hB3 HW0 hw0
  generalize eachL b = L at *
  obtain ⟨i0, hii, hzz0, hzz1, hzz2⟩ := info_parts infoPr
  refine (wpIn_wide (n := 5)).1 ?_
  refine range_boxed (w := w3) rfl (by omega) (gf := 130) (lb := #[.pointer (some ⟨Bx, 0, none⟩)]) rfl trivial (enters_of Tryz.func130 (by kernel_rfl) rfl)
    (veach_tells w3 Bx G v L H3.out.1 4 (by omega)) (fun _ => rfl) (fun k hk => hk.elim (fun e => by rw [e]; exact H3.out.1.box.lt) (fun e => by rw [e]; exact H3.out.1.glt))
    (NewI (w.heap.size + 3) g.ps L w3)
    (fun c _ W => c = .ret ∧ newsR g.ps [] L = none ∧ Boxed W (w.heap.size + 1) 36 (.slice none 0 0) ∧ Boxed W (w.heap.size + 2) 29 (.int .i64 5) ∧ Turn (fun k => k = w.heap.size + 3 ∨ k = w.heap.size + 1 ∨ k = w.heap.size + 2) w3 W)
    (newI_own _ _ _ _ (by have := H3.out.2.2.2.2.2.2.2.2; omega)) ?ix (fun _ _ _ _ _ _ h _ _ => h) ⟨Turn.refl _ _, List.nil_prefix, [], _, rfl, H3.out.2.2.2.2.2.2.2.1, World.ownsRow_nil _ _ _ _⟩
    (fun x => .cells #[.int .u64 (x.1 : Int), .int .u64 (x.2 : Int)] 39) ?act ?assign ?body ?done ?stop
  case assign =>
    intro l x b W K hb hK
    unfold prE
    gi_wp2
    exact hK
  case ix =>
    rintro c pre X Y row ⟨h1, h2, h3, h4, hT⟩ hg hr
    have hs3 := H3.out.2.2.2.2.2.2.2.2
    exact ⟨h1, h2, vbox_own (β := Unit) (w3 := w3) (by omega) (fun _ => .slice none 0 0) () X Y row h3 hg hr, vbox_own (β := Unit) (w3 := w3) (by omega) (fun _ => .int .i64 5) () X Y row h4 hg hr, vturn_own (β := Unit) () X Y row hT hg hr⟩
  case body =>
    rintro l pre ⟨x, y⟩ bx W hl3 hb3 (hbx : BoxV W bx x y) ⟨hTW, hpre, acc, v, hacc, bv, hrow⟩ hx
    have hs3 := H3.out.2.2.2.2.2.2.2.2
    have hsW := hTW.size
    have bmW : Boxed W w.heap.size 28 (.pointer (some ⟨m, 0, none⟩)) := (hTW.block _ (by omega) (by omega)).trans H3.out.2.2.2.2.1
    have b1W : Boxed W (w.heap.size + 1) 36 (.slice none 0 0) := (hTW.block _ (by omega) (by omega)).trans H3.out.2.2.2.2.2.1
    have b2W : Boxed W (w.heap.size + 2) 29 (.int .i64 0) := (hTW.block _ (by omega) (by omega)).trans H3.out.2.2.2.2.2.2.1
    obtain ⟨ga, gc, rfl, _⟩ := row_shapeV hrow
    have hlen : acc.length + 1 ≤ 65536 := by
      have h1 := (List.getElem?_eq_some_iff.1 hx).1
      have h2 := H3.out.1.len
      have h3 := newsR_len g.ps pre [] acc hacc
      simp only [List.length_nil] at h3
      omega
    have hBW : Below w.heap.size w W := H3.out.2.2.2.1.trans (hTW.below (by omega) (fun k e => by omega))
    have hst := standin_any W m d j g vr pa pc F (HM.out.below (hBW.mono (Nat.le_refl _))) x
    have hpx := pre_snoc hpre hx
    have cp := hbx.cell
    obtain ⟨cp0, cp1⟩ := cp
    have cm := bmW.cell
    have HN : Hid (newsR g.ps [] (pre ++ [(x, y)]) = newsS g.ps acc (x, y) ∧ pre ++ [(x, y)] <+: L) := ⟨by rw [newsR_snoc, hacc]; rfl, hpx⟩
    have H : Hid (Turn (fun k => k = w.heap.size + 3) w3 W ∧ Boxed W (w.heap.size + 3) 36 (.slice ga acc.length gc) ∧ W.ownsRow w3.heap.size 39 2 (.slice ga acc.length gc) acc.length (prCells acc) ∧ acc.length + 1 ≤ 65536 ∧ BoxV W bx x y ∧ Boxed W (w.heap.size + 1) 36 (.slice none 0 0) ∧ Boxed W (w.heap.size + 2) 29 (.int .i64 0)) := ⟨hTW, bv, hrow, hlen, hbx, b1W, b2W⟩
    clear hTW hrow bv hbx hx hpre hacc hpx bmW b1W b2W hBW
    have HB4 : Hid (∀ W4, Below W.heap.size W W4 → BoxV W4 bx x y ∧ Boxed W4 (w.heap.size + 3) 36 (.slice ga acc.length gc) ∧ Boxed W4 (w.heap.size + 1) 36 (.slice none 0 0) ∧ Boxed W4 (w.heap.size + 2) 29 (.int .i64 0) ∧ W4.ownsRow w3.heap.size 39 2 (.slice ga acc.length gc) acc.length (prCells acc)) := fun W4 h4 => ⟨H.out.2.2.2.2.1.below h4 H.out.2.2.2.2.1.lt, (h4.block _ H.out.2.1.lt).trans H.out.2.1, (h4.block _ H.out.2.2.2.2.2.1.lt).trans H.out.2.2.2.2.2.1, (h4.block _ H.out.2.2.2.2.2.2.lt).trans H.out.2.2.2.2.2.2, row_keptV H.out.2.2.1 h4⟩
    have hbl := H3.out.1.box.lt
    have hgl := H3.out.1.glt
    have hb0 := H3.out.2.1
    have hg0 := H3.out.2.2.1
    have hs0 := HS.out
    cases hlk : lookP g.ps x with
    | none =>
      rw [hlk] at hst
      have HE : Hid (newsR g.ps [] (pre ++ [(x, y)]) = some (acc ++ [(x, y)]) ∧ pre ++ [(x, y)] <+: L) := ⟨by rw [HN.out.1]; simp only [newsS, hlk], HN.out.2⟩
      simp only [stdV, Option.getD_none, Option.isSome_none] at hst
      clear hlk HN
      generalize hPL : acc.length = PL at *
      gi_wp2_with first
        | (gi_at_builtin; refine wpListIn_append_own _ rfl _ _ 36 rfl w3.heap.size 39 i0 _ 2 16 Tryz.underlying36 hii hzz0 hzz1 hzz2 rfl (by decide) _ PL _ rfl hrow' ⟨W4.heap.size, 0, none⟩ 1 1 [.int .u64 (x : Int), .int .u64 (y : Int)] rfl rfl (cells_pr_new W4 (x, y)) (by simp [Value.oneCell']) (by unfold maxLen; omega) (by omega) (by simp; omega) ?_; intro v' w5 hown5 hgr5 _; have hvo : (Value.slice ga PL gc).ownBlock ≠ some (w.heap.size + 3) := (fun e => by have := (row_blockV hrow' _ e).1; omega); have b5 : Boxed w5 (w.heap.size + 3) 36 (.slice ga PL gc) := (HQ.out.1.alloc (.cells #[.int .u64 (x : Int), .int .u64 (y : Int)] 39)).kept hgr5 (fun e => hvo e.symm); have c5 := b5.cell; have f5 := b5.frozen; obtain ⟨ga5, gc5, hv5, _⟩ := row_shapeV hown5; subst hv5; have H5 : Hid (Boxed w5 (w.heap.size + 3) 36 (.slice ga PL gc) ∧ w5.ownsRow w3.heap.size 39 2 (.slice ga5 (PL + 1) gc5) (PL + 1) (prCells acc ++ [.int .u64 (x : Int), .int .u64 (y : Int)]) ∧ (W4.alloc (.cells #[.int .u64 (x : Int), .int .u64 (y : Int)] 39)).grownBy w5 (Value.slice ga PL gc).ownBlock) := ⟨b5, hown5, hgr5⟩; clear b5 hown5 hgr5)
        | (refine ⟨trivial, ?_⟩; gi_at_call 27; refine (callsIn_wide.2 hst).mono ?_; clear hst; rintro e W4 ⟨rfl, hB4⟩; have h4s := hB4.size; obtain ⟨q0, q1, q2, q3, q4⟩ := HB4.out W4 hB4; obtain ⟨e0, e1⟩ := q0.cell; have e2 := q1.cell; have e3 := q1.frozen; have HQ : Hid (Boxed W4 (w.heap.size + 3) 36 (.slice ga PL gc) ∧ W4.ownsRow w3.heap.size 39 2 (.slice ga PL gc) PL (prCells acc) ∧ Below W.heap.size W W4) := ⟨q1, q4, hB4⟩; have hrow' := row_keptV q4 ((Below.refl _ W4).alloc (Nat.le_refl _) (.cells #[.int .u64 (x : Int), .int .u64 (y : Int)] 39)); clear q0 q1 q2 q3 q4 hB4)
      obtain ⟨b5, hown5, hgr5⟩ := H5.out
      obtain ⟨hTW, _⟩ := H.out
      obtain ⟨_, hrow, hB4⟩ := HQ.out
      have hT5 : Turn (fun k => k = w.heap.size + 3 ∨ (Value.slice ga PL gc).ownBlock = some k) W (w5.setCell ⟨w.heap.size + 3, 0, none⟩ (.slice ga5 (PL + 1) gc5)) :=
        (((Turn.of_below _ (hB4.trans (((Below.refl _ W4).alloc (Nat.le_refl _) (.cells #[.int .u64 (x : Int), .int .u64 (y : Int)] 39)).mono hB4.size))).trans (Turn.of_grownBy (Fp := fun k => (Value.slice ga PL gc).ownBlock = some k) hgr5 (fun k e => .inl e)) (fun _ _ e => .inr e)).trans (turn_setCell w5 (w.heap.size + 3) 0 _) (fun _ _ e => .inl e))
      have hvB : ∀ k, (Value.slice ga PL gc).ownBlock = some k → w3.heap.size ≤ k := fun k e => (row_blockV hrow k e).1
      refine ⟨ikeepsFrom_turn hT5 (fun q o hq hB ho => ?_), ⟨hT5.size, fun q hq => hT5.block q (by omega) (by rintro (e | e); omega; (have := hvB q e; omega))⟩, hTW.trans hT5 (fun q hq e => by rcases e with e | e; exact e; (have := hvB q e; omega)), HE.out.2, acc ++ [(x, y)], _, HE.out.1, b5.set _, ?_⟩
      · rcases hq with e | e
        · omega
        · have hq1 := H.out.2.2.1
          obtain ⟨_, _, cur, hc⟩ := row_blockV hq1 q e
          rw [hc] at ho; cases ho; rfl
      · rw [List.length_append, hPL, prCells_append]
        refine row_movedV hown5 (fun q hq => ?_)
        have := (row_blockV hown5 q hq).1
        exact Below.heap_setCell _ _ _ _ (by show q ≠ w.heap.size + 3; omega)
    | some z =>
      rw [hlk] at hst
      simp only [stdV, Option.getD_some, Option.isSome_some] at hst
      by_cases hzy : z = y
      · have i5 : ((z : Int) != (y : Int)) = false := by simp [hzy]
        have HE : Hid (newsR g.ps [] (pre ++ [(x, y)]) = some acc ∧ pre ++ [(x, y)] <+: L) := ⟨by rw [HN.out.1]; simp only [newsS, hlk, if_pos hzy], HN.out.2⟩
        clear hlk HN hzy
        generalize hPL : acc.length = PL at *
        gi_wp2_with (refine ⟨trivial, ?_⟩; gi_at_call 27; refine (callsIn_wide.2 hst).mono ?_; clear hst; rintro e W4 ⟨rfl, hB4⟩; obtain ⟨q0, q1, q2, q3, q4⟩ := HB4.out W4 hB4; have e0 := q0.cell.1; have e1 := q0.cell.2; have HQ : Hid (Boxed W4 (w.heap.size + 3) 36 (.slice ga PL gc) ∧ W4.ownsRow w3.heap.size 39 2 (.slice ga PL gc) PL (prCells acc) ∧ Below W.heap.size W W4) := ⟨q1, q4, hB4⟩; clear q0 q1 q2 q3 q4 hB4)
        obtain ⟨q1, q4, hB4⟩ := HQ.out
        have h4s := hB4.size
        have HZ : Hid (KeepsFrom w3.heap.size W W4 ∧ Keep (fun k => k = Bx ∨ k = G) W W4 ∧ NewI (w.heap.size + 3) g.ps L w3 (pre ++ [(x, y)]) W4) := by
          have hT4 := Turn.of_below (fun k => k = w.heap.size + 3) hB4
          exact ⟨vkeeps_turn hT4 (fun k e => by omega), ⟨hB4.size, fun q hq => hB4.block q (by omega)⟩, H.out.1.trans hT4 (fun _ _ e => e), HE.out.2, acc, _, HE.out.1, q1, by rw [hPL]; exact q4⟩
        exact HZ.out
      · have i5 : ((z : Int) != (y : Int)) = true := by simp; omega
        have HE : Hid (newsR g.ps [] L = none) := newsR_stop (by rw [HN.out.1]; simp only [newsS, hlk, if_neg hzy]) HN.out.2
        clear hlk HN hzy
        generalize hPL : acc.length = PL at *
        gi_wp2_with (refine ⟨trivial, ?_⟩; gi_at_call 27; refine (callsIn_wide.2 hst).mono ?_; clear hst; rintro e W4 ⟨rfl, hB4⟩; obtain ⟨q0, q1, q2, q3, q4⟩ := HB4.out W4 hB4; have e0 := q0.cell.1; have e1 := q0.cell.2; have e2 := q2.frozen; have e3 := q3.frozen; have e4 := q2.cell; have e5 := q3.cell; have HQ : Hid (Boxed W4 (w.heap.size + 1) 36 (.slice none 0 0) ∧ Boxed W4 (w.heap.size + 2) 29 (.int .i64 0) ∧ Below W.heap.size W W4) := ⟨q2, q3, hB4⟩; clear q0 q1 q2 q3 q4 hB4)
        obtain ⟨q2, q3, hB4⟩ := HQ.out
        have h4s := hB4.size
        have HZ : Hid (KeepsFrom w3.heap.size W ((W4.setCell ⟨w.heap.size + 1, 0, none⟩ (.slice none 0 0)).setCell ⟨w.heap.size + 2, 0, none⟩ (.int .i64 5)) ∧ Code.ret = Code.ret ∧ newsR g.ps [] L = none ∧ Boxed ((W4.setCell ⟨w.heap.size + 1, 0, none⟩ (.slice none 0 0)).setCell ⟨w.heap.size + 2, 0, none⟩ (.int .i64 5)) (w.heap.size + 1) 36 (.slice none 0 0) ∧ Boxed ((W4.setCell ⟨w.heap.size + 1, 0, none⟩ (.slice none 0 0)).setCell ⟨w.heap.size + 2, 0, none⟩ (.int .i64 5)) (w.heap.size + 2) 29 (.int .i64 5) ∧ Turn (fun k => k = w.heap.size + 3 ∨ k = w.heap.size + 1 ∨ k = w.heap.size + 2) w3 ((W4.setCell ⟨w.heap.size + 1, 0, none⟩ (.slice none 0 0)).setCell ⟨w.heap.size + 2, 0, none⟩ (.int .i64 5))) := by
          have hT1 := turn_setCell W4 (w.heap.size + 1) 0 (.slice none 0 0)
          have hT2 := turn_setCell (W4.setCell ⟨w.heap.size + 1, 0, none⟩ (.slice none 0 0)) (w.heap.size + 2) 0 (.int .i64 5)
          have hT3 : Turn (fun k => k = w.heap.size + 3 ∨ k = w.heap.size + 1 ∨ k = w.heap.size + 2) W ((W4.setCell ⟨w.heap.size + 1, 0, none⟩ (.slice none 0 0)).setCell ⟨w.heap.size + 2, 0, none⟩ (.int .i64 5)) :=
            (Turn.of_below _ hB4).trans ((hT1.wide (Gp := fun k => k = w.heap.size + 3 ∨ k = w.heap.size + 1 ∨ k = w.heap.size + 2) (fun k e => .inr (.inl e))).trans (hT2.wide (Gp := fun k => k = w.heap.size + 3 ∨ k = w.heap.size + 1 ∨ k = w.heap.size + 2) (fun k e => .inr (.inr e))) (fun _ _ e => e)) (fun _ _ e => e)
          have hs1 := hT1.size
          exact ⟨vkeeps_turn hT3 (fun k e => by omega), rfl, HE.out, (hT2.block _ (by omega) (by omega)).trans (q2.set _), Boxed.set (W := W4.setCell ⟨w.heap.size + 1, 0, none⟩ (.slice none 0 0)) (v := .int .i64 0) _ ((hT1.block _ (by omega) (by omega)).trans q3), (H.out.1.wide (fun k e => .inl e)).trans hT3 (fun _ _ e => e)⟩
        exact ⟨HZ.out.1, rfl, HZ.out.2.2⟩
  case done =>
    rintro D xs W hD rfl ⟨hTW, hpre, acc, v, hacc, bv, hrow⟩ hK
    have hs3 := H3.out.2.2.2.2.2.2.2.2
    have cf := bv.cell
    have b1W : Boxed W (w.heap.size + 1) 36 (.slice none 0 0) := (hTW.block _ (by omega) (by omega)).trans H3.out.2.2.2.2.2.1
    have b2W : Boxed W (w.heap.size + 2) 29 (.int .i64 0) := (hTW.block _ (by omega) (by omega)).trans H3.out.2.2.2.2.2.2.1
    have f1 := b1W.frozen
    have f2 := b2W.frozen
    have c1 := b1W.cell
    have c2 := b2W.cell
    obtain ⟨ga, gc, rfl, _⟩ := row_shapeV hrow
    have HD : Hid (w3.heap.size ≤ D ∧ W.heap[D]? = some (.deferred (some [])) ∧ Turn (fun k => k = w.heap.size + 3) w3 W ∧ W.ownsRow w3.heap.size 39 2 (.slice ga acc.length gc) acc.length (prCells acc) ∧ newsR g.ps [] xs = some acc ∧ Boxed W (w.heap.size + 1) 36 (.slice none 0 0) ∧ Boxed W (w.heap.size + 2) 29 (.int .i64 0)) := ⟨hD, hK, hTW, hrow, hacc, b1W, b2W⟩
    clear hTW hK bv hrow hacc hpre b1W b2W
    generalize hAL : acc.length = AL at *
    go_wp2_with fail
    obtain ⟨hD, hK, hTW, hrow, hacc, b1W, b2W⟩ := HD.out
    have hT1 := turn_setCell W (w.heap.size + 1) 0 (.slice ga AL gc)
    have hT2 := turn_setCell (W.setCell ⟨w.heap.size + 1, 0, none⟩ (.slice ga AL gc)) (w.heap.size + 2) 0 (.int .i64 0)
    have hsW := hTW.size
    have hs1 := hT1.size
    have d1 : Boxed ((W.setCell ⟨w.heap.size + 1, 0, none⟩ (.slice ga AL gc)).setCell ⟨w.heap.size + 2, 0, none⟩ (.int .i64 0)) (w.heap.size + 1) 36 (.slice ga AL gc) := (hT2.block _ (by omega) (by omega)).trans (b1W.set _)
    have d2 : Boxed ((W.setCell ⟨w.heap.size + 1, 0, none⟩ (.slice ga AL gc)).setCell ⟨w.heap.size + 2, 0, none⟩ (.int .i64 0)) (w.heap.size + 2) 29 (.int .i64 0) := Boxed.set (W := W.setCell ⟨w.heap.size + 1, 0, none⟩ (.slice ga AL gc)) (v := .int .i64 0) _ ((hT1.block _ (by omega) (by omega)).trans b2W)
    have hDl := (Array.getElem?_eq_some_iff.1 hK).1
    have hK2 : ((W.setCell ⟨w.heap.size + 1, 0, none⟩ (.slice ga AL gc)).setCell ⟨w.heap.size + 2, 0, none⟩ (.int .i64 0)).heap[D]? = some (.deferred (some [])) := ((hT2.block _ (by omega) (by omega)).trans (hT1.block _ hDl (by omega))).trans hK
    refine res_two (p := w.heap.size + 1) (q := w.heap.size + 2) rfl rfl rfl d1 d2 hK2 (by omega) (by omega) ?_
    have hfin : Below w.heap.size w (((W.setCell ⟨w.heap.size + 1, 0, none⟩ (.slice ga AL gc)).setCell ⟨w.heap.size + 2, 0, none⟩ (.int .i64 0)).putObj D (.deferred none)) := by
      have hB : Below w.heap.size w W := H3.out.2.2.2.1.trans (hTW.below (by omega) (fun k e => by omega))
      exact H3.out.2.2.2.1.trans ((vturn_put (.deferred none) ((hTW.wide (Gp := fun k => k = w.heap.size + 3 ∨ k = w.heap.size + 1 ∨ k = w.heap.size + 2) (fun k e => .inl e)).trans ((hT1.wide (Gp := fun k => k = w.heap.size + 3 ∨ k = w.heap.size + 1 ∨ k = w.heap.size + 2) (fun k e => .inr (.inl e))).trans (hT2.wide (Gp := fun k => k = w.heap.size + 3 ∨ k = w.heap.size + 1 ∨ k = w.heap.size + 2) (fun k e => .inr (.inr e))) (fun _ _ e => e)) (fun _ _ e => e)) hD).below (by omega) (fun k e => by omega))
    refine ⟨hfin, .inr ⟨acc, ga, gc, hacc, by rw [hAL], ?_⟩⟩
    rw [hAL]
    refine row_baseV (base := w3.heap.size) (row_movedV hrow fun q hq => ?_) (by omega)
    have hb := row_blockV hrow q hq
    have hne : q ≠ D := fun e => by
      obtain ⟨_, _, cur, hc⟩ := hb
      rw [e, hK] at hc
      cases hc
    exact (World.putObj_heap_other hne).trans ((hT2.block _ (by omega) (by omega)).trans (hT1.block _ (by omega) (by omega)))
  case stop =>
    rintro D c pre W hD ⟨rfl, hno, b1, b2, hT⟩ hK
    have hs3 := H3.out.2.2.2.2.2.2.2.2
    have HF : Hid (Boxed W (w.heap.size + 1) 36 (.slice none 0 0) ∧ Boxed W (w.heap.size + 2) 29 (.int .i64 5) ∧ W.heap[D]? = some (.deferred (some [])) ∧ w3.heap.size ≤ D ∧ newsR g.ps [] L = none ∧ Turn (fun k => k = w.heap.size + 3 ∨ k = w.heap.size + 1 ∨ k = w.heap.size + 2) w3 W) := ⟨b1, b2, hK, hD, hno, hT⟩
    clear b1 b2 hK hno hT
    refine (wpIn_wide (n := 5)).2 ?_
    go_wp2_with fail
    refine res_two (p := w.heap.size + 1) (q := w.heap.size + 2) rfl rfl rfl HF.out.1 HF.out.2.1 HF.out.2.2.1 (by omega) (by omega) ?_
    exact ⟨H3.out.2.2.2.1.trans ((vturn_put (.deferred none) HF.out.2.2.2.2.2 HF.out.2.2.2.1).below (by omega) (fun k e => by omega)), .inl ⟨HF.out.2.2.2.2.1, rfl⟩⟩
end Go.Proofs.YtdjodigimhgklaaGreatDoor
