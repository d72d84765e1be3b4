import Derived.RangeFuncNested
import Derived.RangeFuncBound
import Derived.RangeFuncCalls
import Derived.RangeFuncLeaves
import Derived.Shelf.Abstract
import Derived.Shelf.RegionOpen
import Derived.WalkKit
import Derived.OwnWalkIn
import Derived.TacticsInMore
import Derived.LoopNIn
import Derived.LoopIn
import Derived.RangeFuncWrites
import Derived.Test.YtggnglgehobglaaGreatDoorP03
/- What pieces tells: what stands between the strokes, each with its place. -/
namespace Go.Proofs.YtggnglgehobglaaGreatDoor
open Go.RowKit Go.Shelf

attribute [local go_sem] Oper.semAt_some

/-- a piece as the loop's body is handed it -/
abbrev Pc (s : ByteArray) : Type := { x : Nat × ByteArray // x.1 + x.2.size ≤ s.size }
abbrev Pc.encs {s : ByteArray} (x : Pc s) : Array Value := #[.int .i64 (x.1.1 : Int), .string x.1.2]
def Pc.at {s : ByteArray} (x : Pc s) : Nat × List UInt8 := (x.1.1, bs x.1.2)

theorem npieces_any (s : ByteArray) (w : World) : Calls Tryz.prog 72 #[.string s] w fun e w' => e = .returned (.func (.func 94) #[] #[.pointer (some ⟨w.heap.size, 0, none⟩)]) ∧ w' = w.alloc (.cells #[.string s] 9) := by
  go_enter Tryz.func72, Tryz.ntmps72
  go_wp2
  go_ret
  exact ⟨rfl, rfl⟩

/-- what the rounds keep: walks, and the block that holds the path -/
structure KpB (B : Nat) (W W' : World) : Prop where
  walks : KeepsWalks W W'
  same : W'.heap[B]? = W.heap[B]?
theorem KpB.t {B : Nat} {X Y Z : World} (h : KpB B X Y) (k : KpB B Y Z) : KpB B X Z := ⟨h.walks.trans k.walks, k.same.trans h.same⟩

theorem cut_step (l : List UInt8) (b p d : Nat) (hb : b ≤ p) (hd : p + d ≤ l.length) (h : ∀ k, k < d → l.getD (p + k) 0 ≠ 47) : cutS ((l.take p).drop b) (l.drop p) = cutS ((l.take (p + d)).drop b) (l.drop (p + d)) := by
  have e1 : l.drop p = (l.drop p).take d ++ l.drop (p + d) := by rw [← List.drop_drop, List.take_append_drop]
  rw [e1, cutS_run]
  · congr 1
    rw [List.take_add, List.drop_append_of_le_length (by rw [List.length_take]; omega)]
  · intro hm
    obtain ⟨k, hk, e⟩ := List.getElem_of_mem hm
    rw [List.length_take, List.length_drop] at hk
    refine h k (by omega) ?_
    rw [List.getElem_take, List.getElem_drop] at e
    rw [List.getD_eq_getElem?_getD, List.getElem?_eq_getElem (by omega), Option.getD_some, e]

theorem offs_len (b : Nat) (ns : List (List UInt8)) : (offs b ns).length = ns.length := by
  induction ns generalizing b with
  | nil => rfl
  | cons n r ih => simp [offs, ih]
theorem pcs_len (l : List UInt8) : (pcs l).length = (parts l).length := offs_len _ _

/-- what holds between two rounds of the loop over the runes -/
structure PInv (s : ByteArray) (B it : Nat) (J : List (Pc s) → World → Prop) (b p : Nat) (pre : List (Pc s)) (wr : World) : Prop where
  j : J pre wr
  box : Boxed wr B 9 (.string s)
  said : pcs (bs s) = pre.map Pc.at ++ offs b (cutS (((bs s).take p).drop b) ((bs s).drop p))
  ne : B ≠ it

theorem PInv.next {s : ByteArray} {B it : Nat} {J : List (Pc s) → World → Prop} {b p : Nat} {pre : List (Pc s)} {wr : World} (h : PInv s B it J b p pre wr) (hJ : AbidesFrom it J) (hit : wr.heap[it]? = some (.stringIter s p)) (p' : Nat) :
    J pre (wr.putObj it (.stringIter s p')) ∧ Boxed (wr.putObj it (.stringIter s p')) B 9 (.string s) :=
  ⟨hJ pre wr _ (some it) h.j (grownBy_putObj' wr it _) (fun r e => by cases e; exact ⟨Nat.le_refl _, _, hit, rfl⟩), (World.putObj_heap_other h.ne).trans h.box⟩

theorem bs_getD (s : ByteArray) (p : Nat) (c : UInt8) (t : List UInt8) (h : (bs s).drop p = c :: t) : (bs s).getD p 0 = c := by
  rw [List.getD_eq_getElem?_getD]
  have := congrArg (fun l => l[0]?) h
  simp at this
  rw [this]; rfl

/-- a rune that is no stroke -/
theorem PInv.pass {s : ByteArray} {B it : Nat} {J : List (Pc s) → World → Prop} {b p d : Nat} {pre : List (Pc s)} {wr w2 : World} (h : PInv s B it J b p pre wr) (hb : b ≤ p) (hlt : p < s.size) (hr : (dec ((bs s).drop p)).1 ≠ 47) (hd : d = (dec ((bs s).drop p)).2) (hd2 : p + d ≤ s.size) (h2 : J pre w2 ∧ Boxed w2 B 9 (.string s)) :
    PInv s B it J b (p + d) pre w2 := by
  refine ⟨h2.1, h2.2, ?_, h.ne⟩
  rw [h.said, cut_step (bs s) b p d hb (by rw [bs_len]; exact hd2)]
  intro k hk e
  by_cases h0 : 0 < k
  · have := dec_inner ((bs s).drop p) k h0 (by rw [← hd]; exact hk)
    rw [List.getD_eq_getElem?_getD, List.getElem?_drop, ← List.getD_eq_getElem?_getD, e] at this
    exact absurd this (by decide)
  · obtain rfl : k = 0 := by omega
    rw [Nat.add_zero] at e
    cases hl : (bs s).drop p with
    | nil => have := congrArg List.length hl; rw [List.length_drop, bs_len] at this; simp at this; omega
    | cons c t =>
      rw [hl] at hr
      exact hr ((dec_slash c t).2 ((bs_getD s p c t hl).symm.trans e))

/-- a stroke: a piece is told -/
theorem PInv.stroke {s : ByteArray} {B it : Nat} {J : List (Pc s) → World → Prop} {b p d : Nat} {pre : List (Pc s)} {wr : World} (h : PInv s B it J b p pre wr) (hb : b ≤ p) (hlt : p < s.size) (hr : (dec ((bs s).drop p)).1 = 47) (hd : d = (dec ((bs s).drop p)).2) (x : Pc s) (hx : x.1 = (b, s.extract b p)) :
    d = 1 ∧ pcs (bs s) = (pre ++ [x]).map Pc.at ++ offs (p + 1) (cutS (((bs s).take (p + 1)).drop (p + 1)) ((bs s).drop (p + 1))) := by
  cases hl : (bs s).drop p with
  | nil => have := congrArg List.length hl; rw [List.length_drop, bs_len] at this; simp at this; omega
  | cons c t =>
    rw [hl] at hr hd
    have hc := (dec_slash c t).1 hr
    subst hc
    have h1 : d = 1 := by rw [hd, dec_ascii _ _ (by decide)]
    have ht : (bs s).drop (p + 1) = t := by rw [← List.drop_drop, hl]; rfl
    refine ⟨h1, ?_⟩
    have e2 : ((bs s).take (p + 1)).drop (p + 1) = [] := List.drop_eq_nil_of_le (by rw [List.length_take]; omega)
    rw [h.said, hl, cutS, if_pos rfl, offs, ht, e2, List.map_append, List.append_assoc]
    congr 1
    have e1 : Pc.at x = (b, ((bs s).take p).drop b) := by unfold Pc.at; rw [hx, bs_extract]
    simp only [List.map_cons, List.map_nil, List.singleton_append, e1]
    congr 2
    rw [List.length_drop, List.length_take, bs_len]; omega

/-- the last piece -/
theorem PInv.last {s : ByteArray} {B it : Nat} {J : List (Pc s) → World → Prop} {b : Nat} {pre : List (Pc s)} {wr : World} (h : PInv s B it J b s.size pre wr) (x : Pc s) (hx : x.1 = (b, s.extract b s.size)) : (pre ++ [x]).map Pc.at = pcs (bs s) := by
  have e2 : (bs s).drop s.size = [] := List.drop_eq_nil_of_le (by rw [bs_len]; exact Nat.le_refl _)
  rw [h.said, e2, List.map_append]
  simp [offs, cutS, Pc.at, hx, bs_extract]

set_option maxRecDepth 100000 in
set_option maxHeartbeats 4000000 in
theorem pieces_stops (s : ByteArray) (hs : s.size ≤ maxLen) (w : World) (B : Nat) (hB : Boxed w B 9 (.string s)) (n : Nat) (hn : 1 ≤ n) :
    SeqStopsK Fence.wide n Tryz.prog 94 #[.pointer (some ⟨B, 0, none⟩)] Pc.encs (KpB B) (fun xs : List (Pc s) => xs.map Pc.at = pcs (bs s)) (fun pre : List (Pc s) => ∃ rest, pre.map Pc.at ++ rest = pcs (bs s)) (pcs (bs s)).length w := by
  intro l J Jx W hW hJ hJx hY h0
  have hs' : s.size ≤ 9223372036854775807 := by unfold maxLen at hs; omega
  have hBW : Boxed W B 9 (.string s) := (hW.block B hB.lt).trans hB
  have cB := hBW.cell
  refine callsIn_of_wp Tryz.func94 rfl trivial ?_ rfl
  simp only [Tryz.ntmps94, List.size_toArray, List.length_cons, List.length_nil, Nat.reduceAdd, Nat.reduceSub, Array.replicate_succ, Array.replicate_zero, List.push_toArray, List.append_toArray, List.nil_append, List.cons_append]
  by_cases hz : s.toList = []
  · gi_wp2
    refine bodyPost_ret (results_none rfl _ _ _) rfl ?_
    exact ⟨⟨_, rfl⟩, .inl ⟨[], by rw [toList_bs] at hz; rw [hz]; rfl, h0⟩⟩
  · have b1 : s.toList.isEmpty = false := by simpa using hz
    have hBlt := hBW.lt
    have H0 : Hid (PInv s B W.heap.size J 0 0 [] (W.iter s 0)) :=
      ⟨hJ [] W _ none h0 (World.grownBy_alloc W _ none) (fun r e => by cases e), hBW.alloc _, by rw [toList_bs] at hz; simp [pcs, parts, hz], Nat.ne_of_lt hBlt⟩
    have HJ : Hid (AbidesFrom W.heap.size J) := hJ
    have HY : Hid (∀ pre x W1, J pre W1 → pre.length < (pcs (bs s)).length → YieldAt Fence.wide (n - 1) Tryz.prog l (Pc.encs x) W1 fun e W' => (e = .returned (.bool true) ∧ J (pre ++ [x]) W' ∧ KpB B W1 W') ∨ (e = .returned (.bool false) ∧ Jx (pre ++ [x]) W')) := hY
    clear hY hJ hJx h0 hW hz
    gi_wp2
    gi_loopw [3] (fun v wr => ∃ (b p : Nat) (pre : List (Pc s)), b ≤ p ∧ p ≤ s.size ∧ v = .int .i64 (b : Int) ∧ wr.heap[W.heap.size]? = some (.stringIter s p) ∧ Hid (PInv s B W.heap.size J b p pre wr)) (fun _ wr => s.size - wr.iterPos W.heap.size)
    case atStart => exact ⟨0, 0, [], Nat.le_refl _, Nat.zero_le _, rfl, World.iter_heap _ _ _, H0⟩
    case round =>
      clear H0 cB
      obtain ⟨b, p, pre, hb, hp, rfl, hit, H⟩ := hrel
      by_cases hlt : p < s.size
      · obtain ⟨r, hr⟩ : ∃ r, r = (dec ((bs s).drop p)).1 := ⟨_, rfl⟩
        obtain ⟨d, hd⟩ : ∃ d, d = (dec ((bs s).drop p)).2 := ⟨_, rfl⟩
        have hne : (bs s).drop p ≠ [] := fun e => by
          have := congrArg List.length e
          rw [List.length_drop, bs_len] at this; simp at this; omega
        have hd1 : 1 ≤ d := by rw [hd]; exact dec_pos _
        have hd2 : p + d ≤ s.size := by
          have := dec_le _ hne
          rw [← hd, List.length_drop, bs_len] at this; omega
        have hdec : Utf8.decode s p = (r, d) := by rw [decode_dec, hr, hd]; rfl
        have hrle : r ≤ 2147483647 := by have := decode_le s p; rw [hdec] at this; exact this
        have hnx := run_next_at (P := Tryz.prog) wr W.heap.size s p hit hlt
        rw [hdec] at hnx
        have H2 := H.out.next HJ.out hit (p + d)
        have hit2 : (wr.putObj W.heap.size (.stringIter s (p + d))).heap[W.heap.size]? = some (.stringIter s (p + d)) := World.putObj_heap_same (Array.getElem?_eq_some_iff.1 hit).1
        have Hpos : Hid (wr.iterPos W.heap.size = p) := iterPos_of hit
        simp only at hnx
        obtain ⟨W2, hW2⟩ : ∃ W2, W2 = wr.putObj W.heap.size (.stringIter s (p + d)) := ⟨_, rfl⟩
        rw [← hW2] at hnx H2 hit2
        have Hn : Hid ((bs s).drop p ≠ []) := hne
        have Hr : Hid (r = (dec ((bs s).drop p)).1) := hr
        have Hd : Hid (d = (dec ((bs s).drop p)).2) := hd
        have HH2 : Hid (J pre W2 ∧ Boxed W2 B 9 (.string s)) := H2
        have cB := H2.2.cell
        clear hne hr hd hdec hW2 H2 hit
        by_cases h47 : r = 47
        · subst h47
          simp only [show ((47 : Nat) : Int) = 47 from rfl] at hnx
          have hxb : b + (s.extract b p).size ≤ s.size := by simp; omega
          have HS := H.out.stroke hb hlt Hr.out.symm Hd.out ⟨(b, s.extract b p), hxb⟩ rfl
          have hlen : pre.length < (pcs (bs s)).length := by
            rw [HS.2]; simp
          have hY2 := HY.out pre ⟨(b, s.extract b p), hxb⟩ W2 HH2.out.1 hlen
          have HS' : Hid (pcs (bs s) = (pre ++ [(⟨(b, s.extract b p), hxb⟩ : Pc s)]).map Pc.at ++ offs (p + 1) (cutS (((bs s).take (p + 1)).drop (p + 1)) ((bs s).drop (p + 1)))) := HS.2
          have hd1' := HS.1
          clear HS hlen
          obtain ⟨fn, tmps, assign, body, hy, hR⟩ := hY2
          simp only [Pc.encs] at hy
          gi_wp2
          refine hR.mono ?_
          rintro e W3 (⟨rfl, hJ3, hk3⟩ | ⟨rfl, hJx3⟩)
          · have hit3 : W3.heap[W.heap.size]? = some (.stringIter s (p + 1)) := by rw [← hd1']; exact hk3.walks.same _ _ hit2 rfl
            have HI : Hid (PInv s B W.heap.size J (p + 1) (p + 1) (pre ++ [⟨(b, s.extract b p), hxb⟩]) W3) := ⟨hJ3, hk3.same.trans HH2.out.2, HS'.out, H.out.ne⟩
            clear hy hR hJ3 hk3 hnx cB hit2
            gi_wp2
            go_roundw
            case rel => exact ⟨p + 1, p + 1, _, Nat.le_refl _, by omega, by simp, hit3, HI⟩
            case measure => rw [Hpos.out, iterPos_of hit3]; omega
          · clear hy hR hnx cB hit2
            gi_wp2
            refine bodyPost_ret (results_none rfl _ _ _) rfl ?_
            exact ⟨⟨_, rfl⟩, .inr ⟨_, ⟨_, HS'.out.symm⟩, hJx3⟩⟩
        · have i47 : ¬ (r : Int) = 47 := by omega
          have HI : Hid (PInv s B W.heap.size J b (p + d) pre W2) := H.out.pass hb hlt (by rw [← Hr.out]; exact h47) Hd.out hd2 HH2.out
          gi_wp2
          go_roundw
          case rel => exact ⟨b, p + d, pre, by omega, hd2, rfl, hit2, HI⟩
          case measure => rw [Hpos.out, iterPos_of hit2]; omega
      · obtain rfl : p = s.size := by omega
        have hnx := run_next_over (P := Tryz.prog) wr W.heap.size s s.size hit hlt
        have cB := H.out.box.cell
        have hxb : b + (s.extract b s.size).size ≤ s.size := by simp; omega
        have HS := H.out.last ⟨(b, s.extract b s.size), hxb⟩ rfl
        have hlen : pre.length < (pcs (bs s)).length := by rw [← HS]; simp
        have hY2 := HY.out pre ⟨(b, s.extract b s.size), hxb⟩ wr H.out.j hlen
        have HS' : Hid ((pre ++ [(⟨(b, s.extract b s.size), hxb⟩ : Pc s)]).map Pc.at = pcs (bs s)) := HS
        clear HS hlen
        obtain ⟨fn, tmps, assign, body, hy, hR⟩ := hY2
        simp only [Pc.encs] at hy
        gi_wp2
        refine hR.mono ?_
        rintro e W3 (⟨rfl, hJ3, hk3⟩ | ⟨rfl, hJx3⟩)
        · clear hy hR hnx cB
          gi_wp2
          go_end0
          exact ⟨⟨_, rfl⟩, .inl ⟨_, HS'.out, hJ3⟩⟩
        · clear hy hR hnx cB
          gi_wp2
          go_end0
          exact ⟨⟨_, rfl⟩, .inr ⟨_, ⟨[], by rw [HS'.out]; simp⟩, hJx3⟩⟩
end Go.Proofs.YtggnglgehobglaaGreatDoor
