import Derived.Test.YtfkepoibgmljkaaB20
import Derived.Test.YtfkepoibgmljkaaB09
/- What Each tells: the pairs, in order. -/
namespace Go.Proofs.Ytfkepoibgmljkaa
open Go.RowKit Go.Shelf Go.Maps

attribute [local go_sem] Oper.semAt_some

/-- the pairs that Each tells of bytes -/
def eachL (b : List UInt8) : List Pr := (pairsR b).getD []
/-- what Each's closure holds -/
structure EachAt (w : World) (Bx G : Nat) (v : Value) (L : List Pr) : Prop where
  box : Boxed w Bx 25 v
  glt : G < w.heap.size
  row : (L = [] ∧ v = .slice none 0 0) ∨ (v = .slice (some ⟨G, 0, none⟩) L.length L.length ∧ RowV w G L)
  len : L.length ≤ 65536
theorem EachAt.kept {w w' : World} {Bx G : Nat} {v : Value} {L : List Pr} (h : EachAt w Bx G v L) (hs : w.heap.size ≤ w'.heap.size) (h1 : w'.heap[Bx]? = w.heap[Bx]?) (h2 : w'.heap[G]? = w.heap[G]?) : EachAt w' Bx G v L :=
  ⟨h1.trans h.box, Nat.lt_of_lt_of_le h.glt hs, h.row.imp id (fun ⟨e, r⟩ => ⟨e, h2.trans r⟩), h.len⟩
theorem EachAt.below {w w' : World} {Bx G : Nat} {v : Value} {L : List Pr} (h : EachAt w Bx G v L) (hB : Below w.heap.size w w') : EachAt w' Bx G v L :=
  h.kept hB.size (hB.block _ h.box.lt) (hB.block _ h.glt)

set_option maxHeartbeats 1000000 in
theorem veach_any (w : World) (a : Option Addr) (n c : Nat) (b : List UInt8) (hb : Bytes w a n b) (hnil : a = none → n = 0) (hcap : n ≤ c) (hn : n ≤ 1000000000) :
    Calls Try.prog 13 #[.slice a n c] w fun e w' => ∃ Bx G v, e = .returned (.func (.func 30) #[] #[.pointer (some ⟨Bx, 0, none⟩)]) ∧ EachAt w' Bx G v (eachL b) ∧ w.heap.size ≤ Bx ∧ w.heap.size ≤ G ∧ Below w.heap.size w w' := by
  have hp := pairs_any w a n c b hb hnil hcap hn
  go_enter Try.func13, Try.ntmps13
  go_wp2_with fail
  refine hp.mono ?_
  rintro e w1 ⟨v, er, rfl, hE, hB⟩
  rcases hE with ⟨h1, rfl, rfl⟩ | ⟨l, G, h1, rfl, rfl, hG, hR⟩
  · have HB : Hid (Below w.heap.size w w1 ∧ eachL b = []) := ⟨hB, by unfold eachL; rw [h1]; rfl⟩
    clear h1 hB hp
    go_wp2
    go_ret
    refine ⟨w1.heap.size, w1.heap.size, .slice none 0 0, rfl, ⟨Boxed.new w1 _ _, by simp, .inl ⟨HB.out.2, rfl⟩, by rw [HB.out.2]; exact Nat.zero_le _⟩, HB.out.1.size, HB.out.1.size, HB.out.1.alloc HB.out.1.size _⟩
  · have HB : Hid (Below w.heap.size w w1 ∧ eachL b = l ∧ w.heap.size ≤ G ∧ RowV w1 G l ∧ l.length ≤ 65536) := ⟨hB, by unfold eachL; rw [h1]; rfl, hG, hR, (pairs_good h1).1.len⟩
    clear h1 hB hR hG hp
    go_wp2
    go_ret
    have hs := HB.out.1.size
    refine ⟨w1.heap.size, G, .slice (some ⟨G, 0, none⟩) l.length l.length, rfl, ?_, hs, HB.out.2.2.1, HB.out.1.alloc hs _⟩
    rw [HB.out.2.1]
    exact ⟨Boxed.new w1 _ _, by have := HB.out.2.2.2.1.lt; simp; omega, .inr ⟨rfl, HB.out.2.2.2.1.below ((Below.refl _ w1).alloc (Nat.le_refl _) _) HB.out.2.2.2.1.lt⟩, HB.out.2.2.2.2⟩

abbrev prE (x : Pr) : Array Value := #[.agg #[.int .u64 (x.1 : Int), .int .u64 (x.2 : Int)]]
set_option maxRecDepth 100000 in
set_option maxHeartbeats 4000000 in
theorem veach_tells (w : World) (Bx G : Nat) (v : Value) (L : List Pr) (h : EachAt w Bx G v L) (n : Nat) (hn : 1 ≤ n) :
    TellsB Fence.wide n Try.prog 30 #[.pointer (some ⟨Bx, 0, none⟩)] prE (fun pre x _ => L[pre.length]? = some x) (fun k => k = Bx ∨ k = G) (fun xs => xs = L) w := by
  intro l J Jx W hW hJg hJxg hY h0
  have hE := h.below hW
  obtain ⟨ad, cp, rfl, had⟩ : ∃ ad cp, v = .slice ad L.length cp ∧ (L.length = 0 ∨ ad = some ⟨G, 0, none⟩) := by
    rcases h.row with ⟨e, e2⟩ | ⟨e, _⟩
    · exact ⟨none, 0, by rw [e2, e]; rfl, .inl (by rw [e]; rfl)⟩
    · exact ⟨_, _, e, .inr rfl⟩
  have HE : Hid (EachAt W Bx G (.slice ad L.length cp) L) := hE
  have HY : Hid (∀ pre x W1, J pre W1 → L[pre.length]? = some x → YieldAt Fence.wide (n - 1) Try.prog l (prE x) W1 fun e W' => (e = .returned (.bool true) ∧ J (pre ++ [x]) W' ∧ Keep (fun k => k = Bx ∨ k = G) W1 W') ∨ (e = .returned (.bool false) ∧ Jx (pre ++ [x]) W')) := hY
  have H0 : Hid (J [] W ∧ (∀ s X Y, J s X → X.grownBy Y none → J s Y)) := ⟨h0, hJg⟩
  have cB := hE.box.cell
  obtain ⟨N, hN⟩ : ∃ N, N = L.length := ⟨_, rfl⟩
  have HN : Hid (N = L.length ∧ N ≤ 65536) := ⟨hN, by rw [hN]; exact h.len⟩
  rw [← hN] at cB had
  have hN2 : N ≤ 65536 := by rw [hN]; exact h.len
  have HAd : Hid (N = 0 ∨ ad = some ⟨G, 0, none⟩) := had
  clear hN hY h0 hJg hJxg h hW hE had
  refine callsIn_of_wp Try.func30 rfl trivial ?_ rfl
  simp only [Try.ntmps30, List.size_toArray, List.length_cons, List.length_nil, Nat.reduceAdd, Nat.reduceSub, Array.replicate_succ, Array.replicate_zero, List.push_toArray, List.append_toArray, List.nil_append, List.cons_append]
  gi_wp2
  gi_loopw [7] (fun i wr => ∃ (k : Nat), k ≤ N ∧ i = .int .i64 (k : Int) ∧ Hid (J (L.take k) wr ∧ Keep (fun k => k = Bx ∨ k = G) W wr)) (fun i _ => N - (intOf i).toNat)
  case atStart => exact ⟨0, Nat.zero_le _, rfl, by rw [List.take_zero]; exact H0.out.1, Keep.refl _ _⟩
  case round =>
    obtain ⟨k, hk, rfl, H⟩ := hrel
    by_cases hlt : k < N
    · obtain ⟨⟨x, y⟩, hx⟩ : ∃ x, L[k]? = some x := ⟨_, List.getElem?_eq_getElem (by rw [← HN.out.1]; exact hlt)⟩
      obtain rfl := HAd.out.resolve_left (by omega)
      have hrow : RowV wr G L := by
        rcases HE.out.row with ⟨e, _⟩ | ⟨_, r⟩
        · rw [e] at hx; simp at hx
        · exact (H.out.2.2 G (.inr rfl)).trans r
      obtain ⟨q1, q2⟩ := hrow.cell hx
      have i5 : (k : Int) < (N : Int) := by omega
      have HT : Hid (L.take k ++ [(x, y)] = L.take (k + 1)) := (by rw [List.take_add_one, hx]; rfl : L.take k ++ [(x, y)] = L.take (k + 1))
      have hga : wr.grownBy (wr.alloc (.cells #[.int .u64 (x : Int), .int .u64 (y : Int)] 32)) none := World.grownBy_alloc wr _ none
      have hY1 := HY.out (L.take k) (x, y) _ (H0.out.2 _ _ _ H.out.1 hga) (by rw [List.length_take, Nat.min_eq_left (by rw [← HN.out.1]; exact hk)]; exact hx)
      have HK : Hid (Keep (fun k => k = Bx ∨ k = G) W (wr.alloc (.cells #[.int .u64 (x : Int), .int .u64 (y : Int)] 32))) := H.out.2.trans ⟨hga.size, fun j hj => hga.block j (by
        have h1 := H.out.2.1
        rcases hj with rfl | rfl
        · exact Nat.lt_of_lt_of_le HE.out.box.lt h1
        · exact Nat.lt_of_lt_of_le HE.out.glt h1) (by simp)⟩
      clear hx hrow hga
      obtain ⟨fn, tmps, assign, body, hy, hR⟩ := hY1
      simp only [prE] at hy q1 q2
      gi_wp2_with fail
      refine hR.mono ?_
      clear hR
      rintro e W3 (⟨rfl, hJ3, hk3⟩ | ⟨rfl, hJ3⟩)
      · have HF : Hid (J (L.take (k + 1)) W3 ∧ Keep (fun k => k = Bx ∨ k = G) W W3) := ⟨by rw [← HT.out]; exact hJ3, HK.out.trans hk3⟩
        clear hJ3 hk3 hy
        gi_wp2
        go_roundw
        case rel => exact ⟨k + 1, by omega, by go_num, HF⟩
        case measure => simp [intOf]; omega
      · have HF : Hid (Jx (L.take k ++ [(x, y)]) W3) := hJ3
        clear hJ3 hy
        gi_wp2
        refine bodyPost_ret (results_none rfl _ _ _) rfl ?_
        exact ⟨⟨_, rfl⟩, .inr ⟨_, HF.out⟩⟩
    · obtain rfl : k = N := by omega
      have HJ : Hid (J L wr) := (by have := H.out.1; rwa [List.take_of_length_le (by rw [← HN.out.1]; exact Nat.le_refl _)] at this : J L wr)
      gi_wp2
      go_end0
      exact ⟨⟨_, rfl⟩, .inl ⟨L, rfl, HJ.out⟩⟩
end Go.Proofs.Ytfkepoibgmljkaa

/- A range over a function whose body may leave it, where the assignment of the values that are handed in makes a box for them (a struct's own variable). Of no program; no law of the library says it. -/
namespace Go.Proofs.Ytfkepoibgmljkaa
open Go.RowKit Go.Shelf

theorem range_boxed {α : Type} {F : Fence} {n : Nat} {P : Program} {g : Operand} {ps : Array Tmp} {assign body : Code} {Q : Exit → Act → World → Prop} {a : Act} {w : World}
    (hro : F.round = none) (h1 : 1 ≤ n) {gf : Nat} {lb : Array Value} (hg : a.eval g = .func (.func gf) #[] lb) (hFg : F.fn gf) (eg : ∀ args w, (callFunc gf args).run P w = .ok (.enter gf args) w)
    {encs : α → Array Value} {Px : List α → α → World → Prop} {Kb : Nat → Prop} {S : List α → Prop} (hit : TellsB F (n - 1) P gf lb encs Px Kb S w) (hps : ∀ x, (encs x).size = ps.size) (hKb : ∀ k, Kb k → k < w.heap.size)
    (I : List α → World → Prop) (Ix : Code → List α → World → Prop) (hI : OwnFrom w.heap.size I) (hIx : ∀ c, OwnFrom w.heap.size (Ix c)) (hPx : ∀ pre x, OwnFrom w.heap.size (fun (_ : Unit) W => Px pre x W)) (h0 : I [] w) (ob : α → Obj) (a₁ : α → Nat → Act)
    (hassign : ∀ (l : Nat) (x : α) (b : Nat) (W : World) (K : Act → World → Prop), W.heap.size = b → K (a₁ x b) (W.alloc (ob x)) →
      assign.wpIn (F.inRound l) (n - 1 - 1) P (Exit.then K (fun _ _ _ => False)) { tmps := (ps.zip (encs x)).foldl (fun t (p, v) => t.setIfInBounds p v) a.tmps, defers := [] } W)
    (hbody : ∀ (l : Nat) (pre : List α) (x : α) (bx : Nat) (W : World), w.heap.size ≤ l → w.heap.size ≤ bx → W.heap[bx]? = some (ob x) → I pre W → Px pre x W → body.wpIn (F.inRound l) (n - 1 - 1) P (bothPost w.heap.size Kb I Ix (pre ++ [x]) W) (a₁ x bx) W)
    (hdone : ∀ (D : Nat) (xs : List α) (W : World), w.heap.size ≤ D → S xs → I xs W → W.heap[D]? = some (.deferred (some [])) → Q .normal { a with defers := { target := .collected D, args := #[] } :: a.defers } W)
    (hstop : ∀ (D : Nat) (c : Code) (pre : List α) (W : World), w.heap.size ≤ D → Ix c pre W → W.heap[D]? = some (.deferred (some [])) → c.wpIn F n P Q { a with defers := { target := .collected D, args := #[] } :: a.defers } W) :
    (Code.rangeFunc g ps assign body).wpIn F n P Q a w := by
  refine wpIn_rangeFunc fun fn hfn => ?_
  rw [hro]
  let R : LoopState → Option Code → Loop := fun st pe => { state := st, pending := pe, fn := fn, tmps := a.tmps, params := ps, assign := assign, body := body, defers := w.heap.size }
  let D := w.heap.size
  let L := w.heap.size + 1
  let W0 := (w.alloc (.deferred (some []))).alloc (.loop (R .ready none))
  have hD0 : W0.heap[D]? = some (.deferred (some [])) := (Below.heap_alloc _ _ _ (by simp [D])).trans (World.alloc_heap_new w _)
  have hL0 : W0.heap[L]? = some (.loop (R .ready none)) := by
    have := World.alloc_heap_new (w.alloc (.deferred (some []))) (.loop (R .ready none))
    rwa [World.size_alloc] at this
  have hB0 : Below w.heap.size w W0 := ((Below.refl _ w).alloc (Nat.le_refl _) _).alloc (by simp) _
  have hI0 : I [] W0 := hI.alloc _ (hI.alloc _ h0)
  have nL : ¬ Kb L := fun h => by have := hKb _ h; omega
  have hKal : ∀ (x : α) (X : World), w.heap.size ≤ X.heap.size → Keep Kb X (X.alloc (ob x)) := fun x X hX => ⟨by simp, fun k hk => Below.heap_alloc _ _ _ (by have := hKb k hk; omega)⟩
  refine ⟨L, [{ target := .collected D, args := #[] }], W0, { target := .fn (.func gf) lb, args := #[.func (.yield L) #[] #[]] }, W0, gf, #[.func (.yield L) #[] #[]] ++ lb, W0, run_enterLoop_outer _ _ _ _ _, ?_, ?_, ?_, fun _ => h1, ?_⟩
  · simp only [resolve, hg]
    simp [go_sem]
  · intro f' hf'
    simp [Target.leads] at hf'
    exact hf' ▸ hFg
  · simp [invoke, go_sem, eg]
  · let J : List α → World → Prop := fun pre W => I pre W ∧ W.heap[L]? = some (.loop (R .ready none)) ∧ W.heap[D]? = some (.deferred (some []))
    let Jx : List α → World → Prop := fun pre W => ∃ c, Ix c pre W ∧ W.heap[L]? = some (.loop (R .done (some c))) ∧ W.heap[D]? = some (.deferred (some []))
    have lt_of : ∀ {W : World} {k : Nat} {o : Obj}, W.heap[k]? = some o → k < W.heap.size := fun h => (Array.getElem?_eq_some_iff.1 h).1
    have hJg : ∀ s X Y, J s X → X.grownBy Y none → J s Y := fun s X Y hs hgr =>
      ⟨hI s X Y none hs.1 hgr (by simp), (hgr.block _ (lt_of hs.2.1) (by simp)).trans hs.2.1, (hgr.block _ (lt_of hs.2.2) (by simp)).trans hs.2.2⟩
    have hJxg : ∀ s X Y, Jx s X → X.grownBy Y none → Jx s Y := fun s X Y ⟨c, hs⟩ hgr =>
      ⟨c, hIx c s X Y none hs.1 hgr (by simp), (hgr.block _ (lt_of hs.2.1) (by simp)).trans hs.2.1, (hgr.block _ (lt_of hs.2.2) (by simp)).trans hs.2.2⟩
    have round : ∀ pre x W1, J pre W1 → Px pre x W1 → YieldAt F (n - 1 - 1) P L (encs x) W1 fun e W' => (e = .returned (.bool true) ∧ J (pre ++ [x]) W' ∧ Keep Kb W1 W') ∨ (e = .returned (.bool false) ∧ Jx (pre ++ [x]) W') := by
      intro pre x W1 hJ hx
      have hLlt := lt_of hJ.2.1
      have hlt1 : w.heap.size ≤ W1.heap.size := by omega
      have hDlt := lt_of hJ.2.2
      have hLa : (W1.alloc (ob x)).heap[L]? = some (.loop (R .ready none)) := (Below.heap_alloc _ _ _ hLlt).trans hJ.2.1
      have hDa : (W1.alloc (ob x)).heap[D]? = some (.deferred (some [])) := (Below.heap_alloc _ _ _ hDlt).trans hJ.2.2
      have hbx : ((W1.alloc (ob x)).putObj L (.loop { R .ready none with state := .busy })).heap[W1.heap.size]? = some (ob x) := (World.putObj_heap_other (by omega)).trans (World.alloc_heap_new W1 _)
      refine ⟨fn, _, assign, body, run_yield hJ.2.1 (hps x), roundIn_of_wpIn hfn (hassign L x W1.heap.size W1 _ rfl ⟨_, run_beginRound hLa rfl, ?_⟩)⟩
      refine wpIn_mono (hbody L pre x W1.heap.size _ (by omega) (by omega) hbx (hI.putObj _ (hI.alloc _ hJ.1) (by omega) hLa rfl) ((hPx pre x).putObj (s := ()) _ ((hPx pre x).alloc (s := ()) _ hx) (by omega) hLa rfl)) ?_
      have fin : ∀ (jump : Option Code) (W3 : World), KeepsFrom w.heap.size ((W1.alloc (ob x)).putObj L (.loop { R .ready none with state := .busy })) W3 →
          (Instr.endRound L jump).run P W3 = .ok (.bool jump.isNone) (W3.putObj L (.loop (R (if jump.isNone then .ready else .done) jump))) ∧
          (W3.putObj L (.loop (R (if jump.isNone then .ready else .done) jump))).heap[L]? = some (.loop (R (if jump.isNone then .ready else .done) jump)) ∧
          (W3.putObj L (.loop (R (if jump.isNone then .ready else .done) jump))).heap[D]? = some (.deferred (some [])) ∧
          W3.heap[L]? = some (.loop (R .busy none)) := fun jump W3 hk3 => by
        have hL3 : W3.heap[L]? = some (.loop (R .busy none)) := hk3.same L (.loop (R .busy none)) (by omega) (World.putObj_heap_same (lt_of hLa)) rfl
        have hD3 := hk3.same D (.deferred (some [])) (Nat.le_refl _) ((World.putObj_heap_other (by omega)).trans hDa) rfl
        exact ⟨run_endRound jump hL3, World.putObj_heap_same (lt_of hL3), (World.putObj_heap_other (by omega)).trans hD3, hL3⟩
      rintro e a3 W3 hp
      cases e with
      | normal =>
        obtain ⟨hkf, hkb, hi3⟩ := hp
        obtain ⟨hr, hl4, hd4, hL3⟩ := fin none W3 hkf
        exact ⟨_, _, hr, .inl ⟨rfl, ⟨hI.putObj _ hi3 (by omega) hL3 rfl, hl4, hd4⟩, (((hKal x W1 hlt1).trans (Keep.put _ nL)).trans hkb).trans (Keep.put _ nL)⟩⟩
      | ret =>
        obtain ⟨hkf, hi3⟩ := hp
        obtain ⟨hr, hl4, hd4, hL3⟩ := fin (some .ret) W3 hkf
        exact ⟨_, _, hr, .inr ⟨rfl, ⟨.ret, (hIx _).putObj _ hi3 (by omega) hL3 rfl, hl4, hd4⟩⟩⟩
      | exit id =>
        obtain ⟨hkf, hi3⟩ := hp
        obtain ⟨hr, hl4, hd4, hL3⟩ := fin (some (.exit id)) W3 hkf
        exact ⟨_, _, hr, .inr ⟨rfl, ⟨.exit id, (hIx _).putObj _ hi3 (by omega) hL3 rfl, hl4, hd4⟩⟩⟩
      | goto t => exact hp.elim
      | panic ch => exact hp.elim
      | outgrown => exact hp.elim
    refine (hit L J Jx W0 hB0 hJg hJxg round ⟨hI0, hL0, hD0⟩).mono ?_
    rintro e W2 ⟨⟨v, rfl⟩, (⟨xs, hS, hi, hL, hD⟩ | ⟨pre, c, hi, hL, hD⟩)⟩
    · exact ⟨none, _, run_endLoop hL (by simp [R]), hdone D xs _ (Nat.le_refl _) hS (hI.putObj _ hi (by omega) hL rfl) ((World.putObj_heap_other (by omega)).trans hD)⟩
    · exact ⟨some c, _, run_endLoop hL (by simp [R]), hstop D c pre _ (Nat.le_refl _) ((hIx c).putObj _ hi (by omega) hL rfl) ((World.putObj_heap_other (by omega)).trans hD)⟩

end Go.Proofs.Ytfkepoibgmljkaa
