import Derived.RangeFuncNested
import Derived.RangeFuncBound
import Derived.RangeFuncCalls
import Derived.RangeFuncLeaves
import Derived.RangeFuncWrites
import Derived.Test.YtggnglgehobglaaGreatDoorP04
/- A range over a function that goes through a text, whose body may speak of how much was drawn (gend.py, out of URange). Of no program; no law of the library says it. -/
namespace Go.Proofs.YtggnglgehobglaaGreatDoor
open Go.RowKit Go.Shelf

def AbidesD {β : Type} (B : Nat) (J : β → World → Prop) : Prop :=
  ∀ s W W' row, J s W → W.grownBy W' row → W'.drawn = W.drawn → (∀ r, row = some r → B ≤ r ∧ ∃ o : Obj, W.heap[r]? = some o ∧ o.isWalk = true) → J s W'
def OwnD {β : Type} (B : Nat) (I : β → World → Prop) : Prop :=
  ∀ s W W' row, I s W → W.grownBy W' row → W'.drawn = W.drawn → (∀ r, row = some r → B ≤ r ∧ ∃ o : Obj, W.heap[r]? = some o ∧ o.isCells = false) → I s W'
theorem OwnD.putObj {β : Type} {B : Nat} {I : β → World → Prop} (h : OwnD B I) {s : β} {W : World} {l : Nat} {o : Obj} (o' : Obj) (hs : I s W) (hB : B ≤ l) (hl : W.heap[l]? = some o) (ho : o.isCells = false) : I s (W.putObj l o') :=
  h s W _ (some l) hs (grownBy_putObj' W l o') rfl (fun r e => by cases e; exact ⟨hB, o, hl, ho⟩)
theorem OwnD.alloc {β : Type} {B : Nat} {I : β → World → Prop} (h : OwnD B I) {s : β} {W : World} (o : Obj) (hs : I s W) : I s (W.alloc o) :=
  h s W _ none hs (World.grownBy_alloc W o none) rfl (fun r e => by cases e)
def TellsD {α : Type} (F : Fence) (n : Nat) (P : Program) (gf : Nat) (lb : Array Value) (encs : α → Array Value) (B : Nat) (S Sp : List α → Prop) (w : World) : Prop :=
  ∀ (l : Nat) (J Jx : List α → World → Prop) (W : World), Below w.heap.size w W → AbidesD W.heap.size J →
    (∀ pre x W1, J pre W1 → Sp (pre ++ [x]) → YieldAt F (n - 1) P l (encs x) W1 fun e W' => (e = .returned (.bool true) ∧ J (pre ++ [x]) W' ∧ KpB B W1 W') ∨ (e = .returned (.bool false) ∧ Jx (pre ++ [x]) W')) →
    J [] W → CallsIn F n P gf (#[.func (.yield l) #[] #[]] ++ lb) W fun e W' => (∃ v, e = .returned v) ∧ ((∃ xs, S xs ∧ J xs W') ∨ (∃ pre, Sp pre ∧ Jx pre W'))

/-- how a round may be left -/
def postD {α : Type} (B : Nat) (I : List α → World → Prop) (Ix : Code → List α → World → Prop) (xs : List α) (W : World) : Exit → Act → World → Prop
  | .normal, _, W' => KeepsOthers W W' ∧ W'.heap[B]? = W.heap[B]? ∧ I xs W'
  | .ret, _, W' => KeepsOthers W W' ∧ Ix .ret xs W'
  | .exit id, _, W' => KeepsOthers W W' ∧ Ix (.exit id) xs W'
  | _, _, _ => False

theorem others_walksD {W W' : World} (h : KeepsOthers W W') : KeepsWalks W W' := ⟨h.size, fun k o hk ho => h.same k o hk (by cases o <;> first | rfl | cases ho)⟩

theorem range_d {α : Type} {F : Fence} {n : Nat} {P : Program} {g : Operand} {ps : Array Tmp} {assign body : Code} {Q : Exit → Act → World → Prop} {a : Act} {w : World}
    (hro : F.round = none) (h1 : 1 ≤ n) {gf : Nat} {lb : Array Value} (hg : a.eval g = .func (.func gf) #[] lb) (hFg : F.fn gf) (eg : ∀ args w, (callFunc gf args).run P w = .ok (.enter gf args) w)
    {encs : α → Array Value} {B : Nat} {S Sp : List α → Prop} (hit : TellsD F (n - 1) P gf lb encs B S Sp w) (hps : ∀ x, (encs x).size = ps.size) (hB : B < w.heap.size)
    (I : List α → World → Prop) (Ix : Code → List α → World → Prop) (hI : OwnD w.heap.size I) (hIx : ∀ c, OwnD w.heap.size (Ix c)) (h0 : I [] w) (a₁ : α → Act)
    (hassign : ∀ (l : Nat) (x : α) (W : World) (K : Act → World → Prop), K (a₁ x) W →
      assign.wpIn (F.inRound l) (n - 1 - 1) P (Exit.then K (fun _ _ _ => False)) { tmps := (ps.zip (encs x)).foldl (fun t (p, v) => t.setIfInBounds p v) a.tmps, defers := [] } W)
    (hbody : ∀ (l : Nat) (pre : List α) (x : α) (W : World), w.heap.size ≤ l → I pre W → Sp (pre ++ [x]) → body.wpIn (F.inRound l) (n - 1 - 1) P (postD B I Ix (pre ++ [x]) W) (a₁ x) W)
    (hdone : ∀ (D : Nat) (xs : List α) (W : World), w.heap.size ≤ D → S xs → I xs W → W.heap[D]? = some (.deferred (some [])) → Q .normal { a with defers := { target := .collected D, args := #[] } :: a.defers } W)
    (hstop : ∀ (D : Nat) (c : Code) (pre : List α) (W : World), w.heap.size ≤ D → Sp pre → Ix c pre W → W.heap[D]? = some (.deferred (some [])) → c.wpIn F n P Q { a with defers := { target := .collected D, args := #[] } :: a.defers } W) :
    (Code.rangeFunc g ps assign body).wpIn F n P Q a w := by
  refine wpIn_rangeFunc fun fn hfn => ?_
  rw [hro]
  let R : LoopState → Option Code → Loop := fun st pe => { state := st, pending := pe, fn := fn, tmps := a.tmps, params := ps, assign := assign, body := body, defers := w.heap.size }
  let D := w.heap.size
  let L := w.heap.size + 1
  let W0 := (w.alloc (.deferred (some []))).alloc (.loop (R .ready none))
  have hD0 : W0.heap[D]? = some (.deferred (some [])) := (Below.heap_alloc _ _ _ (by simp [D])).trans (World.alloc_heap_new w _)
  have hL0 : W0.heap[L]? = some (.loop (R .ready none)) := by
    have := World.alloc_heap_new (w.alloc (.deferred (some []))) (.loop (R .ready none))
    rwa [World.size_alloc] at this
  have hB0 : Below w.heap.size w W0 := ((Below.refl _ w).alloc (Nat.le_refl _) _).alloc (by simp) _
  have hs0 : W0.heap.size = w.heap.size + 2 := by simp [W0]
  have hI0 : I [] W0 := hI.alloc _ (hI.alloc _ h0)
  refine ⟨L, [{ target := .collected D, args := #[] }], W0, { target := .fn (.func gf) lb, args := #[.func (.yield L) #[] #[]] }, W0, gf, #[.func (.yield L) #[] #[]] ++ lb, W0, run_enterLoop_outer _ _ _ _ _, ?_, ?_, ?_, fun _ => h1, ?_⟩
  · simp only [resolve, hg]
    simp [go_sem]
  · intro f' hf'
    simp [Target.leads] at hf'
    exact hf' ▸ hFg
  · simp [invoke, go_sem, eg]
  · let J : List α → World → Prop := fun pre W => I pre W ∧ W.heap[L]? = some (.loop (R .ready none)) ∧ W.heap[D]? = some (.deferred (some []))
    let Jx : List α → World → Prop := fun pre W => ∃ c, Ix c pre W ∧ W.heap[L]? = some (.loop (R .done (some c))) ∧ W.heap[D]? = some (.deferred (some []))
    have lt_of : ∀ {W : World} {k : Nat} {o : Obj}, W.heap[k]? = some o → k < W.heap.size := fun h => (Array.getElem?_eq_some_iff.1 h).1
    have hJg : AbidesD W0.heap.size J := fun s X Y row hs hgr hdr hr =>
      ⟨hI s X Y row hs.1 hgr hdr (fun r e => by
        obtain ⟨hb, o, ho, hw⟩ := hr r e
        exact ⟨by omega, o, ho, by cases o <;> first | rfl | cases hw⟩), (hgr.block _ (lt_of hs.2.1) (fun e => by have := (hr L e.symm).1; omega)).trans hs.2.1, (hgr.block _ (lt_of hs.2.2) (fun e => by have := (hr D e.symm).1; omega)).trans hs.2.2⟩
    have hBL : B ≠ L := by omega
    have round : ∀ pre x W1, J pre W1 → Sp (pre ++ [x]) → YieldAt F (n - 1 - 1) P L (encs x) W1 fun e W' => (e = .returned (.bool true) ∧ J (pre ++ [x]) W' ∧ KpB B W1 W') ∨ (e = .returned (.bool false) ∧ Jx (pre ++ [x]) W') := by
      intro pre x W1 hJ hx
      refine ⟨fn, _, assign, body, run_yield hJ.2.1 (hps x), roundIn_of_wpIn hfn (hassign L x W1 _ ⟨_, run_beginRound hJ.2.1 rfl, ?_⟩)⟩
      have hLlt := lt_of hJ.2.1
      refine wpIn_mono (hbody L pre x _ (by omega) (hI.putObj _ hJ.1 (by omega) hJ.2.1 rfl) hx) ?_
      have fin : ∀ (jump : Option Code) (W3 : World), KeepsOthers (W1.putObj L (.loop { R .ready none with state := .busy })) W3 →
          (Instr.endRound L jump).run P W3 = .ok (.bool jump.isNone) (W3.putObj L (.loop (R (if jump.isNone then .ready else .done) jump))) ∧
          (W3.putObj L (.loop (R (if jump.isNone then .ready else .done) jump))).heap[L]? = some (.loop (R (if jump.isNone then .ready else .done) jump)) ∧
          (W3.putObj L (.loop (R (if jump.isNone then .ready else .done) jump))).heap[D]? = some (.deferred (some [])) ∧
          W3.heap[L]? = some (.loop (R .busy none)) := fun jump W3 hk3 => by
        have hL3 : W3.heap[L]? = some (.loop (R .busy none)) := hk3.same L (.loop (R .busy none)) (World.putObj_heap_same hLlt) rfl
        have hD3 := hk3.same D (.deferred (some [])) ((World.putObj_heap_other (by omega)).trans hJ.2.2) rfl
        exact ⟨run_endRound jump hL3, World.putObj_heap_same (lt_of hL3), (World.putObj_heap_other (by omega)).trans hD3, hL3⟩
      rintro e a3 W3 hp
      cases e with
      | normal =>
        obtain ⟨hkf, hkb, hi3⟩ := hp
        obtain ⟨hr, hl4, hd4, hL3⟩ := fin none W3 hkf
        refine ⟨_, _, hr, .inl ⟨rfl, ⟨hI.putObj _ hi3 (by omega) hL3 rfl, hl4, hd4⟩, ?_⟩⟩
        refine ⟨((KeepsWalks.putObj _ hJ.2.1 rfl).trans (others_walksD hkf)).trans (KeepsWalks.putObj _ hL3 rfl), ?_⟩
        rw [World.putObj_heap_other hBL, hkb, World.putObj_heap_other hBL]
      | ret =>
        obtain ⟨hkf, hi3⟩ := hp
        obtain ⟨hr, hl4, hd4, hL3⟩ := fin (some .ret) W3 hkf
        exact ⟨_, _, hr, .inr ⟨rfl, ⟨.ret, (hIx _).putObj _ hi3 (by omega) hL3 rfl, hl4, hd4⟩⟩⟩
      | exit id =>
        obtain ⟨hkf, hi3⟩ := hp
        obtain ⟨hr, hl4, hd4, hL3⟩ := fin (some (.exit id)) W3 hkf
        exact ⟨_, _, hr, .inr ⟨rfl, ⟨.exit id, (hIx _).putObj _ hi3 (by omega) hL3 rfl, hl4, hd4⟩⟩⟩
      | goto t => exact hp.elim
      | panic ch => exact hp.elim
      | outgrown => exact hp.elim
    refine (hit L J Jx W0 hB0 hJg round ⟨hI0, hL0, hD0⟩).mono ?_
    rintro e W2 ⟨⟨v, rfl⟩, (⟨xs, hS, hi, hL, hD⟩ | ⟨pre, hSp, c, hi, hL, hD⟩)⟩
    · exact ⟨none, _, run_endLoop hL (by simp [R]), hdone D xs _ (Nat.le_refl _) hS (hI.putObj _ hi (by omega) hL rfl) ((World.putObj_heap_other (by omega)).trans hD)⟩
    · exact ⟨some c, _, run_endLoop hL (by simp [R]), hstop D c pre _ (Nat.le_refl _) hSp ((hIx c).putObj _ hi (by omega) hL rfl) ((World.putObj_heap_other (by omega)).trans hD)⟩
end Go.Proofs.YtggnglgehobglaaGreatDoor

/- What pieces tells, to a body that may speak of how much was drawn (gend.py, out of NPieces). -/
namespace Go.Proofs.YtggnglgehobglaaGreatDoor
open Go.RowKit Go.Shelf

attribute [local go_sem] Oper.semAt_some

theorem PInv.nextD {s : ByteArray} {B it : Nat} {J : List (Pc s) → World → Prop} {b p : Nat} {pre : List (Pc s)} {wr : World} (h : PInv s B it J b p pre wr) (hJ : AbidesD it J) (hit : wr.heap[it]? = some (.stringIter s p)) (p' : Nat) :
    J pre (wr.putObj it (.stringIter s p')) ∧ Boxed (wr.putObj it (.stringIter s p')) B 9 (.string s) :=
  ⟨hJ pre wr _ (some it) h.j (grownBy_putObj' wr it _) rfl (fun r e => by cases e; exact ⟨Nat.le_refl _, _, hit, rfl⟩), (World.putObj_heap_other h.ne).trans h.box⟩

set_option maxRecDepth 100000 in
set_option maxHeartbeats 4000000 in
theorem pieces_tellsD (s : ByteArray) (hs : s.size ≤ maxLen) (w : World) (B : Nat) (hB : Boxed w B 9 (.string s)) (n : Nat) (hn : 1 ≤ n) :
    TellsD Fence.wide n Tryz.prog 94 #[.pointer (some ⟨B, 0, none⟩)] Pc.encs B (fun xs : List (Pc s) => xs.map Pc.at = pcs (bs s)) (fun pre : List (Pc s) => ∃ rest, pre.map Pc.at ++ rest = pcs (bs s)) w := by
  intro l J Jx W hW hJ hY h0
  have hs' : s.size ≤ 9223372036854775807 := by unfold maxLen at hs; omega
  have hBW : Boxed W B 9 (.string s) := (hW.block B hB.lt).trans hB
  have cB := hBW.cell
  refine callsIn_of_wp Tryz.func94 rfl trivial ?_ rfl
  simp only [Tryz.ntmps94, List.size_toArray, List.length_cons, List.length_nil, Nat.reduceAdd, Nat.reduceSub, Array.replicate_succ, Array.replicate_zero, List.push_toArray, List.append_toArray, List.nil_append, List.cons_append]
  by_cases hz : s.toList = []
  · gi_wp2
    refine bodyPost_ret (results_none rfl _ _ _) rfl ?_
    exact ⟨⟨_, rfl⟩, .inl ⟨[], by rw [toList_bs] at hz; rw [hz]; rfl, h0⟩⟩
  · have b1 : s.toList.isEmpty = false := by simpa using hz
    have hBlt := hBW.lt
    have H0 : Hid (PInv s B W.heap.size J 0 0 [] (W.iter s 0)) :=
      ⟨hJ [] W _ none h0 (World.grownBy_alloc W _ none) rfl (fun r e => by cases e), hBW.alloc _, by rw [toList_bs] at hz; simp [pcs, parts, hz], Nat.ne_of_lt hBlt⟩
    have HJ : Hid (AbidesD W.heap.size J) := hJ
    have HY : Hid (∀ pre x W1, J pre W1 → (∃ rest, (pre ++ [x]).map Pc.at ++ rest = pcs (bs s)) → YieldAt Fence.wide (n - 1) Tryz.prog l (Pc.encs x) W1 fun e W' => (e = .returned (.bool true) ∧ J (pre ++ [x]) W' ∧ KpB B W1 W') ∨ (e = .returned (.bool false) ∧ Jx (pre ++ [x]) W')) := hY
    clear hY hJ h0 hW hz
    gi_wp2
    gi_loopw [3] (fun v wr => ∃ (b p : Nat) (pre : List (Pc s)), b ≤ p ∧ p ≤ s.size ∧ v = .int .i64 (b : Int) ∧ wr.heap[W.heap.size]? = some (.stringIter s p) ∧ Hid (PInv s B W.heap.size J b p pre wr)) (fun _ wr => s.size - wr.iterPos W.heap.size)
    case atStart => exact ⟨0, 0, [], Nat.le_refl _, Nat.zero_le _, rfl, World.iter_heap _ _ _, H0⟩
    case round =>
      clear H0 cB
      obtain ⟨b, p, pre, hb, hp, rfl, hit, H⟩ := hrel
      by_cases hlt : p < s.size
      · obtain ⟨r, hr⟩ : ∃ r, r = (dec ((bs s).drop p)).1 := ⟨_, rfl⟩
        obtain ⟨d, hd⟩ : ∃ d, d = (dec ((bs s).drop p)).2 := ⟨_, rfl⟩
        have hne : (bs s).drop p ≠ [] := fun e => by
          have := congrArg List.length e
          rw [List.length_drop, bs_len] at this; simp at this; omega
        have hd1 : 1 ≤ d := by rw [hd]; exact dec_pos _
        have hd2 : p + d ≤ s.size := by
          have := dec_le _ hne
          rw [← hd, List.length_drop, bs_len] at this; omega
        have hdec : Utf8.decode s p = (r, d) := by rw [decode_dec, hr, hd]; rfl
        have hrle : r ≤ 2147483647 := by have := decode_le s p; rw [hdec] at this; exact this
        have hnx := run_next_at (P := Tryz.prog) wr W.heap.size s p hit hlt
        rw [hdec] at hnx
        have H2 := H.out.nextD HJ.out hit (p + d)
        have hit2 : (wr.putObj W.heap.size (.stringIter s (p + d))).heap[W.heap.size]? = some (.stringIter s (p + d)) := World.putObj_heap_same (Array.getElem?_eq_some_iff.1 hit).1
        have Hpos : Hid (wr.iterPos W.heap.size = p) := iterPos_of hit
        simp only at hnx
        obtain ⟨W2, hW2⟩ : ∃ W2, W2 = wr.putObj W.heap.size (.stringIter s (p + d)) := ⟨_, rfl⟩
        rw [← hW2] at hnx H2 hit2
        have Hn : Hid ((bs s).drop p ≠ []) := hne
        have Hr : Hid (r = (dec ((bs s).drop p)).1) := hr
        have Hd : Hid (d = (dec ((bs s).drop p)).2) := hd
        have HH2 : Hid (J pre W2 ∧ Boxed W2 B 9 (.string s)) := H2
        have cB := H2.2.cell
        clear hne hr hd hdec hW2 H2 hit
        by_cases h47 : r = 47
        · subst h47
          simp only [show ((47 : Nat) : Int) = 47 from rfl] at hnx
          have hxb : b + (s.extract b p).size ≤ s.size := by simp; omega
          have HS := H.out.stroke hb hlt Hr.out.symm Hd.out ⟨(b, s.extract b p), hxb⟩ rfl
          have hlen : ∃ rest, (pre ++ [(⟨(b, s.extract b p), hxb⟩ : Pc s)]).map Pc.at ++ rest = pcs (bs s) := ⟨_, HS.2.symm⟩
          have hY2 := HY.out pre ⟨(b, s.extract b p), hxb⟩ W2 HH2.out.1 hlen
          have HS' : Hid (pcs (bs s) = (pre ++ [(⟨(b, s.extract b p), hxb⟩ : Pc s)]).map Pc.at ++ offs (p + 1) (cutS (((bs s).take (p + 1)).drop (p + 1)) ((bs s).drop (p + 1)))) := HS.2
          have hd1' := HS.1
          clear HS hlen
          obtain ⟨fn, tmps, assign, body, hy, hR⟩ := hY2
          simp only [Pc.encs] at hy
          gi_wp2
          refine hR.mono ?_
          rintro e W3 (⟨rfl, hJ3, hk3⟩ | ⟨rfl, hJx3⟩)
          · have hit3 : W3.heap[W.heap.size]? = some (.stringIter s (p + 1)) := by rw [← hd1']; exact hk3.walks.same _ _ hit2 rfl
            have HI : Hid (PInv s B W.heap.size J (p + 1) (p + 1) (pre ++ [⟨(b, s.extract b p), hxb⟩]) W3) := ⟨hJ3, hk3.same.trans HH2.out.2, HS'.out, H.out.ne⟩
            clear hy hR hJ3 hk3 hnx cB hit2
            gi_wp2
            go_roundw
            case rel => exact ⟨p + 1, p + 1, _, Nat.le_refl _, by omega, by simp, hit3, HI⟩
            case measure => rw [Hpos.out, iterPos_of hit3]; omega
          · clear hy hR hnx cB hit2
            gi_wp2
            refine bodyPost_ret (results_none rfl _ _ _) rfl ?_
            exact ⟨⟨_, rfl⟩, .inr ⟨_, ⟨_, HS'.out.symm⟩, hJx3⟩⟩
        · have i47 : ¬ (r : Int) = 47 := by omega
          have HI : Hid (PInv s B W.heap.size J b (p + d) pre W2) := H.out.pass hb hlt (by rw [← Hr.out]; exact h47) Hd.out hd2 HH2.out
          gi_wp2
          go_roundw
          case rel => exact ⟨b, p + d, pre, by omega, hd2, rfl, hit2, HI⟩
          case measure => rw [Hpos.out, iterPos_of hit2]; omega
      · obtain rfl : p = s.size := by omega
        have hnx := run_next_over (P := Tryz.prog) wr W.heap.size s s.size hit hlt
        have cB := H.out.box.cell
        have hxb : b + (s.extract b s.size).size ≤ s.size := by simp; omega
        have HS := H.out.last ⟨(b, s.extract b s.size), hxb⟩ rfl
        have hlen : ∃ rest, (pre ++ [(⟨(b, s.extract b s.size), hxb⟩ : Pc s)]).map Pc.at ++ rest = pcs (bs s) := ⟨[], by rw [HS]; simp⟩
        have hY2 := HY.out pre ⟨(b, s.extract b s.size), hxb⟩ wr H.out.j hlen
        have HS' : Hid ((pre ++ [(⟨(b, s.extract b s.size), hxb⟩ : Pc s)]).map Pc.at = pcs (bs s)) := HS
        clear HS hlen
        obtain ⟨fn, tmps, assign, body, hy, hR⟩ := hY2
        simp only [Pc.encs] at hy
        gi_wp2
        refine hR.mono ?_
        rintro e W3 (⟨rfl, hJ3, hk3⟩ | ⟨rfl, hJx3⟩)
        · clear hy hR hnx cB
          gi_wp2
          go_end0
          exact ⟨⟨_, rfl⟩, .inl ⟨_, HS'.out, hJ3⟩⟩
        · clear hy hR hnx cB
          gi_wp2
          go_end0
          exact ⟨⟨_, rfl⟩, .inr ⟨_, ⟨[], by rw [HS'.out]; simp⟩, hJx3⟩⟩
end Go.Proofs.YtggnglgehobglaaGreatDoor
