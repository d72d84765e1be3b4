import Derived.Test.YtggnglgehobglaaGreatDoorP34
import Derived.Test.YtggnglgehobglaaGreatDoorP14
import Derived.RangeFuncNested
import Derived.RangeFuncBound
import Derived.RangeFuncCalls
import Derived.RangeFuncLeaves
import Derived.Shelf.Abstract
import Derived.Shelf.RegionOpen
import Derived.WalkKit
import Derived.OwnWalkIn
import Derived.TacticsInMore
import Derived.LoopNIn
import Derived.LoopIn
import Derived.RangeFuncWrites
import Derived.Test.YtggnglgehobglaaGreatDoorP36
import Derived.Test.YtggnglgehobglaaGreatDoorP09
/- The walk of the law's wakes. -/
namespace Go.Proofs.YtggnglgehobglaaGreatDoor
open Go.RowKit Go.Shelf Go.Maps

attribute [local go_sem] Oper.semAt_some

def rsW : List Ru := [(3, [97], [98, 47, 99]), (2, [97, 47, 120], [])]
theorem wake_good : GoodU rsW 2 := fun j r hj hr => by
  match j, hr with
  | 0, hr => cases hr; decide +kernel
  | 1, hr => cases hr; decide +kernel
  | j + 2, _ => omega
theorem wake_keys {ks : List (List UInt8)} (h : KeyL (tabL rsW) ks) : ks = [[97], [97, 47, 120]] ∨ ks = [[97, 47, 120], [97]] := by
  have hm : ∀ x, x ∈ ks ↔ x ∈ [[97], [97, 47, 120]] := fun x => by
    rw [h.mem]
    show (setT (setT (fun _ => none) [97] (3, [97], [98, 47, 99])) [97, 47, 120] (2, [97, 47, 120], []) x).isSome = true ↔ _
    unfold setT
    by_cases h1 : x = [97, 47, 120]
    · simp [h1]
    · by_cases h2 : x = [97]
      · simp [h2]
      · simp [h1, h2]
  have hp : ks.Perm [[97], [97, 47, 120]] := (List.perm_ext_iff_of_nodup h.nd (by decide)).2 hm
  have hl := hp.length_eq
  match ks, hl, h.nd, hm with
  | [x, y], _, hn, hm =>
    have h1 := (hm x).1 (by simp)
    have h2 := (hm y).1 (by simp)
    have h3 : x ≠ y := by simpa using hn
    simp only [List.mem_cons, List.not_mem_nil, or_false] at h1 h2
    rcases h1 with rfl | rfl <;> rcases h2 with rfl | rfl
    · exact absurd rfl h3
    · exact .inl rfl
    · exact .inr rfl
    · exact absurd rfl h3
theorem wake_img {ks : List (List UInt8)} (h : KeyL (tabL rsW) ks) : thr [97, 47, 121] (imgL (formT (tabL rsW) ks) [97, 47, 121]) = ([98, 47, 99, 47, 121], 0) ∧ thr [97, 47, 120, 47, 122] (imgL (formT (tabL rsW) ks) [97, 47, 120, 47, 122]) = ([], 4) := by
  rcases wake_keys h with rfl | rfl
  · exact ⟨by decide +kernel, by decide +kernel⟩
  · exact ⟨by decide +kernel, by decide +kernel⟩
theorem wake_new {w : World} {e : Ending} (h : NewR rsW 2 e w) : ∃ m ks, e = .returned (.tuple #[.pointer (some ⟨m, 0, none⟩), .agg #[.int .i64 0, .int .i64 0]]) ∧ MpAt w m (formT (tabL rsW) ks) ∧ KeyL (tabL rsW) ks := by
  rcases h with ⟨h, _⟩ | ⟨_, k, r, hr, hb, _⟩ | ⟨_, _, h⟩
  · omega
  · exfalso
    have hk : k < 2 := (List.getElem?_eq_some_iff.1 hr).1
    exact hb (wake_good k r hk hr)
  · exact h
theorem eqF (w : World) (a b c d : Int) : (binOp .eql 45 (.agg #[.int .i64 a, .int .i64 b]) (.agg #[.int .i64 c, .int .i64 d])).run Tryz.prog w = .ok (.bool (a == c && b == d)) w := by
  have u3 := Tryz.underlying3
  have u4 := Tryz.underlying25
  have hS : Tryz.prog.underlying 45 = some (.struct (Tryz.prog.fieldsOf 45)) := by kernel_rfl
  have hp : Tryz.prog.stoodInHeld 45 = false := by kernel_rfl
  rw [run_eql_struct, show (10000 : Nat) = 9999 + 1 from rfl, run_equalIn_agg w 9999 45 _ _ hS hp]
  simp only [Program.fieldsOf, Tryz.underlying45]
  go_simp
  cases h1 : (a == c) <;> cases h2 : (b == d) <;> simp_all
theorem wake_rus (w : World) : Rus (w.alloc (.cells #[.int .i64 3, .string ⟨#[97]⟩, .string ⟨#[98, 47, 99]⟩, .int .i64 2, .string ⟨#[97, 47, 120]⟩, .string ⟨#[]⟩] 31)) (some ⟨w.heap.size, 0, none⟩) 2 rsW := by
  refine ⟨rfl, fun _ => ⟨_, 0, rfl, fun j x hx => ?_⟩⟩
  have h : (w.alloc (.cells #[.int .i64 3, .string ⟨#[97]⟩, .string ⟨#[98, 47, 99]⟩, .int .i64 2, .string ⟨#[97, 47, 120]⟩, .string ⟨#[]⟩] 31)).heap[w.heap.size]? = some (.cells #[.int .i64 3, .string ⟨#[97]⟩, .string ⟨#[98, 47, 99]⟩, .int .i64 2, .string ⟨#[97, 47, 120]⟩, .string ⟨#[]⟩] 31 (0, 0)) := World.alloc_heap_new w _
  match j, hx with
  | 0, hx => cases hx; refine ⟨?_, ?_, ?_⟩ <;> (simp only [World.cell?, h]; rfl)
  | 1, hx => cases hx; refine ⟨?_, ?_, ?_⟩ <;> (simp only [World.cell?, h]; rfl)
  | j + 2, hx => simp [rsW] at hx
set_option maxRecDepth 100000 in
set_option maxHeartbeats 4000000 in
theorem wakes14_any (w : World) : Calls Tryz.prog 6 #[] w fun e w' => e = .returned (.bool true) ∧ Below w.heap.size w w' := by
  have hnw := new_any (w.alloc (.cells #[.int .i64 3, .string ⟨#[97]⟩, .string ⟨#[98, 47, 99]⟩, .int .i64 2, .string ⟨#[97, 47, 120]⟩, .string ⟨#[]⟩] 31)) (some ⟨w.heap.size, 0, none⟩) 2 2 rsW (wake_rus w) (Nat.le_refl _) (by omega) (fun r hr => by
    simp only [rsW, List.mem_cons, List.not_mem_nil, or_false] at hr
    rcases hr with rfl | rfl <;> simp)
  have hef := fun W => eqF W 0 0 0 0
  have H0 : Hid (Below w.heap.size w (w.alloc (.cells #[.int .i64 3, .string ⟨#[97]⟩, .string ⟨#[98, 47, 99]⟩, .int .i64 2, .string ⟨#[97, 47, 120]⟩, .string ⟨#[]⟩] 31))) := (Below.refl _ w).alloc (Nat.le_refl _) _
  go_enter Tryz.func6, Tryz.ntmps6
  go_wp2_with fail
  refine hnw.mono ?_
  clear hnw
  rintro e w1 ⟨hN, hB1⟩
  obtain ⟨m, ks, rfl, hM, hK⟩ := wake_new hN
  clear hN
  obtain ⟨j1, j2⟩ := wake_img hK
  have H1 : Hid (Below w.heap.size w w1) := H0.out.trans (hB1.mono H0.out.size)
  have H2 : Hid (Below w.heap.size w (w1.alloc (.cells #[.int .i64 0, .int .i64 0] 45)) ∧ BoxF (w1.alloc (.cells #[.int .i64 0, .int .i64 0] 45)) w1.heap.size 0 0) := ⟨H1.out.alloc H1.out.size _, BoxF.new w1 0 0⟩
  have hM2 := hM.below ((Below.refl _ w1).alloc (Nat.le_refl _) (.cells #[.int .i64 0, .int .i64 0] 45))
  have hi1 := Iimage_any _ m _ ⟨#[97, 47, 121]⟩ hM2 (by decide)
  have hi2 := fun W hW => Iimage_any W m _ ⟨#[97, 47, 120, 47, 122]⟩ (hM2.below hW) (by decide)
  rw [show bs ⟨#[97, 47, 121]⟩ = [97, 47, 121] from rfl, j1] at hi1
  rw [show bs ⟨#[97, 47, 120, 47, 122]⟩ = [97, 47, 120, 47, 122] from rfl, j2] at hi2
  clear hM hM2 hK j1 j2 hB1 H0
  go_wp2_with fail
  refine hi1.mono ?_
  clear hi1
  generalize w1.alloc (.cells #[.int .i64 0, .int .i64 0] 45) = w2 at *
  rintro e w3 ⟨rfl, hB3⟩
  have hi3 := hi2 w3 hB3
  clear hi2
  have H3 : Hid (Below w.heap.size w w3 ∧ BoxF w3 w1.heap.size 0 0) := ⟨H2.out.1.trans (hB3.mono H2.out.1.size), H2.out.2.below hB3 H2.out.2.lt⟩
  clear hB3 H2
  generalize w1.heap.size = bf at *
  go_wp2_with fail
  refine hi3.mono ?_
  clear hi3
  rintro e w4 ⟨rfl, hB4⟩
  have H4 : Hid (Below w.heap.size w w4 ∧ BoxF w4 bf 0 0) := ⟨H3.out.1.trans (hB4.mono H3.out.1.size), H3.out.2.below hB4 H3.out.2.lt⟩
  clear hB4 H3
  obtain ⟨c0, c1⟩ := H4.out.2.cell
  have hbq : ((mk [98, 47, 99, 47, 121]).toList == [98, 47, 99, 47, 121]) = true := by
    rw [toList_bs, bs_mk]
    rfl
  go_wp2
  go_ret
  exact ⟨by rw [← hbq]; rfl, H4.out.1⟩
end Go.Proofs.YtggnglgehobglaaGreatDoor

/- What Lines tells: line by line, each with its number. -/
namespace Go.Proofs.YtggnglgehobglaaGreatDoor
open Go.RowKit Go.Shelf

attribute [local go_sem] Oper.semAt_some

/-- a line as the loop's body is handed it -/
abbrev Ln (s : ByteArray) : Type := { x : Nat × ByteArray // x.1 ≤ s.size ∧ x.2.size ≤ s.size ∧ (10 : UInt8) ∉ bs x.2 }
abbrev Ln.encs {s : ByteArray} (x : Ln s) : Array Value := #[.int .i64 (x.1.1 : Int), .string x.1.2]
def Ln.at {s : ByteArray} (x : Ln s) : Nat × List UInt8 := (x.1.1, bs x.1.2)

theorem lines_any (s : ByteArray) (w : World) : Calls Tryz.prog 48 #[.string s] w fun e w' => e = .returned (.func (.func 69) #[] #[.pointer (some ⟨w.heap.size, 0, none⟩)]) ∧ w' = w.alloc (.cells #[.string s] 9) := by
  go_enter Tryz.func48, Tryz.ntmps48
  go_wp2
  go_ret
  exact ⟨rfl, rfl⟩

/-- what the rounds keep: walks, and the block that holds the text -/
structure KpL (B : Nat) (W W' : World) : Prop where
  walks : KeepsWalks W W'
  same : W'.heap[B]? = W.heap[B]?
theorem KpL.t {B : Nat} {X Y Z : World} (h : KpL B X Y) (k : KpL B Y Z) : KpL B X Z := ⟨h.walks.trans k.walks, k.same.trans h.same⟩

/-- what holds between two rounds of the loop over the runes -/
structure LInv (s : ByteArray) (B it : Nat) (J : List (Ln s) → World → Prop) (b k p : Nat) (pre : List (Ln s)) (wr : World) : Prop where
  j : J pre wr
  box : Boxed wr B 9 (.string s)
  said : nums 0 (linesL (bs s)) = pre.map Ln.at ++ nums k (cutN (((bs s).take p).drop b) ((bs s).drop p))
  free : (10 : UInt8) ∉ ((bs s).take p).drop b
  ne : B ≠ it
theorem LInv.next {s : ByteArray} {B it : Nat} {J : List (Ln s) → World → Prop} {b k p : Nat} {pre : List (Ln s)} {wr : World} (h : LInv s B it J b k p pre wr) (hJ : AbidesFrom it J) (hit : wr.heap[it]? = some (.stringIter s p)) (p' : Nat) :
    J pre (wr.putObj it (.stringIter s p')) ∧ Boxed (wr.putObj it (.stringIter s p')) B 9 (.string s) :=
  ⟨hJ pre wr _ (some it) h.j (grownBy_putObj' wr it _) (fun r e => by cases e; exact ⟨Nat.le_refl _, _, hit, rfl⟩), (World.putObj_heap_other h.ne).trans h.box⟩
theorem take_step (l : List UInt8) (b p d : Nat) (hb : b ≤ p) (hp : p ≤ l.length) : (l.take (p + d)).drop b = (l.take p).drop b ++ (l.drop p).take d := by
  rw [List.take_add, List.drop_append_of_le_length (by rw [List.length_take]; omega)]
theorem LInv.pass {s : ByteArray} {B it : Nat} {J : List (Ln s) → World → Prop} {b k p d : Nat} {pre : List (Ln s)} {wr W2 : World} (h : LInv s B it J b k p pre wr) (hb : b ≤ p) (hp : p ≤ s.size) (hne : (bs s).drop p ≠ []) (hr : (dec ((bs s).drop p)).1 ≠ 10) (hd : d = (dec ((bs s).drop p)).2) (h2 : J pre W2 ∧ Boxed W2 B 9 (.string s)) :
    LInv s B it J b k (p + d) pre W2 := by
  have hf : (10 : UInt8) ∉ ((bs s).drop p).take d := by rw [hd]; exact piece_ten _ hne hr
  have e := take_step (bs s) b p d hb (by rw [bs_len]; exact hp)
  refine ⟨h2.1, h2.2, ?_, ?_, h.ne⟩
  · rw [h.said, e]
    congr 2
    have e1 : (bs s).drop p = ((bs s).drop p).take d ++ (bs s).drop (p + d) := by rw [← List.drop_drop, List.take_append_drop]
    conv => lhs; rw [e1]
    rw [cutN_run _ _ _ hf]
  · rw [e, List.mem_append]
    rintro (hm | hm)
    · exact h.free hm
    · exact hf hm
theorem LInv.line {s : ByteArray} {B it : Nat} {J : List (Ln s) → World → Prop} {b k p : Nat} {pre : List (Ln s)} {wr : World} (h : LInv s B it J b k p pre wr) (hne : (bs s).drop p ≠ []) (hr : (dec ((bs s).drop p)).1 = 10) (x : Ln s) (hx : x.1 = (k, s.extract b p)) :
    nums 0 (linesL (bs s)) = (pre ++ [x]).map Ln.at ++ nums (k + 1) (cutN (((bs s).take (p + 1)).drop (p + 1)) ((bs s).drop (p + 1))) ∧ (10 : UInt8) ∉ ((bs s).take (p + 1)).drop (p + 1) := by
  obtain ⟨_, t, ht⟩ := dec_ten _ hne hr
  have e2 : ((bs s).take (p + 1)).drop (p + 1) = [] := List.drop_eq_nil_of_le (by rw [List.length_take]; omega)
  have et : (bs s).drop (p + 1) = t := by rw [← List.drop_drop, ht]; rfl
  refine ⟨?_, by rw [e2]; simp⟩
  rw [h.said, ht, cutN, if_pos rfl, nums, e2, et, List.map_append, List.append_assoc]
  congr 1
  simp only [List.map_cons, List.map_nil, List.singleton_append]
  congr 1
  unfold Ln.at; rw [hx, bs_extract]
theorem LInv.last {s : ByteArray} {B it : Nat} {J : List (Ln s) → World → Prop} {b k : Nat} {pre : List (Ln s)} {wr : World} (h : LInv s B it J b k s.size pre wr) (hb : b < s.size) (x : Ln s) (hx : x.1 = (k, s.extract b s.size)) : (pre ++ [x]).map Ln.at = nums 0 (linesL (bs s)) := by
  have e2 : (bs s).drop s.size = [] := List.drop_eq_nil_of_le (by rw [bs_len]; exact Nat.le_refl _)
  have ne : ((bs s).take s.size).drop b ≠ [] := fun e => by
    have := congrArg List.length e
    rw [List.length_drop, List.length_take, bs_len, List.length_nil] at this; omega
  rw [h.said, e2, cutN, if_neg ne, nums, nums, List.map_append]
  congr 1
  simp only [List.map_cons, List.map_nil]
  congr 1
  unfold Ln.at; rw [hx, bs_extract]
theorem LInv.over {s : ByteArray} {B it : Nat} {J : List (Ln s) → World → Prop} {b k : Nat} {pre : List (Ln s)} {wr : World} (h : LInv s B it J b k s.size pre wr) (hb : ¬ b < s.size) : pre.map Ln.at = nums 0 (linesL (bs s)) := by
  have e2 : (bs s).drop s.size = [] := List.drop_eq_nil_of_le (by rw [bs_len]; exact Nat.le_refl _)
  have ne : ((bs s).take s.size).drop b = [] := List.drop_eq_nil_of_le (by rw [List.length_take, bs_len]; omega)
  rw [h.said, e2, cutN, if_pos ne, nums, List.append_nil]

set_option maxRecDepth 100000 in
set_option maxHeartbeats 4000000 in
theorem lines_told (s : ByteArray) (hs : s.size ≤ maxLen) (w : World) (B : Nat) (hB : Boxed w B 9 (.string s)) (n : Nat) (hn : 1 ≤ n)
    (l : Nat) (J Jx : List (Ln s) → World → Prop) (W : World) (hW : Below w.heap.size w W) (hJ : AbidesFrom W.heap.size J)
    (hY : ∀ pre x W1, J pre W1 → (∃ rest, (pre ++ [x]).map Ln.at ++ rest = nums 0 (linesL (bs s))) → YieldAt Fence.wide (n - 1) Tryz.prog l (Ln.encs x) W1 fun e W' => (e = .returned (.bool true) ∧ J (pre ++ [x]) W' ∧ KpL B W1 W') ∨ (e = .returned (.bool false) ∧ Jx (pre ++ [x]) W')) (h0 : J [] W) :
    CallsIn Fence.wide n Tryz.prog 69 (#[.func (.yield l) #[] #[]] ++ #[.pointer (some ⟨B, 0, none⟩)]) W fun e W' => (∃ v, e = .returned v) ∧ ((∃ xs : List (Ln s), xs.map Ln.at = nums 0 (linesL (bs s)) ∧ J xs W') ∨ (∃ pre : List (Ln s), (∃ rest, pre.map Ln.at ++ rest = nums 0 (linesL (bs s))) ∧ Jx pre W')) := by
  have hs' : s.size ≤ 9223372036854775807 := by unfold maxLen at hs; omega
  have hBW : Boxed W B 9 (.string s) := (hW.block B hB.lt).trans hB
  have cB := hBW.cell
  refine callsIn_of_wp Tryz.func69 rfl trivial ?_ rfl
  simp only [Tryz.ntmps69, List.size_toArray, List.length_cons, List.length_nil, Nat.reduceAdd, Nat.reduceSub, Array.replicate_succ, Array.replicate_zero, List.push_toArray, List.append_toArray, List.nil_append, List.cons_append]
  have hBlt := hBW.lt
  have H0 : Hid (LInv s B W.heap.size J 0 0 0 [] (W.iter s 0)) :=
    ⟨hJ [] W _ none h0 (World.grownBy_alloc W _ none) (fun r e => by cases e), hBW.alloc _, by simp [linesL], by simp, Nat.ne_of_lt hBlt⟩
  have HJ : Hid (AbidesFrom W.heap.size J) := hJ
  have HY : Hid (∀ pre x W1, J pre W1 → (∃ rest, (pre ++ [x]).map Ln.at ++ rest = nums 0 (linesL (bs s))) → YieldAt Fence.wide (n - 1) Tryz.prog l (Ln.encs x) W1 fun e W' => (e = .returned (.bool true) ∧ J (pre ++ [x]) W' ∧ KpL B W1 W') ∨ (e = .returned (.bool false) ∧ Jx (pre ++ [x]) W')) := hY
  clear hY hJ h0 hW
  gi_wp2
  gi_loopw [3, 4] (fun v i wr => ∃ (b k p : Nat) (pre : List (Ln s)), b ≤ p ∧ p ≤ s.size ∧ k ≤ b ∧ v = .int .i64 (b : Int) ∧ i = .int .i64 (k : Int) ∧ wr.heap[W.heap.size]? = some (.stringIter s p) ∧ Hid (LInv s B W.heap.size J b k p pre wr)) (fun _ _ wr => s.size - wr.iterPos W.heap.size)
  case atStart => exact ⟨0, 0, 0, [], Nat.le_refl _, Nat.zero_le _, Nat.le_refl _, rfl, rfl, World.iter_heap _ _ _, H0⟩
  case round =>
    clear H0 cB
    obtain ⟨b, k, p, pre, hb, hp, hk, rfl, rfl, hit, H⟩ := hrel
    by_cases hlt : p < s.size
    · obtain ⟨r, d, hdec, hd, hd1, hd2, hrle, hne, _, _⟩ := rune_at s p hlt
      have hnx := run_next_at (P := Tryz.prog) wr W.heap.size s p hit hlt
      rw [hdec] at hnx
      have H2 := H.out.next HJ.out hit (p + d)
      have hit2 : (wr.putObj W.heap.size (.stringIter s (p + d))).heap[W.heap.size]? = some (.stringIter s (p + d)) := World.putObj_heap_same (Array.getElem?_eq_some_iff.1 hit).1
      have Hpos : Hid (wr.iterPos W.heap.size = p) := iterPos_of hit
      simp only at hnx
      obtain ⟨W2, hW2⟩ : ∃ W2, W2 = wr.putObj W.heap.size (.stringIter s (p + d)) := ⟨_, rfl⟩
      rw [← hW2] at hnx H2 hit2
      have Hn : Hid ((bs s).drop p ≠ []) := hne
      have Hr : Hid ((dec ((bs s).drop p)).1 = r) := by show _ = _; rw [hd]
      have Hd : Hid (d = (dec ((bs s).drop p)).2) := by show _ = _; rw [hd]
      have HH2 : Hid (J pre W2 ∧ Boxed W2 B 9 (.string s)) := H2
      have cB := H2.2.cell
      clear hne hd hdec hW2 H2 hit
      by_cases h10 : r = 10
      · subst h10
        simp only [show ((10 : Nat) : Int) = 10 from rfl] at hnx
        have hd1' : d = 1 := by rw [Hd.out]; exact (dec_ten _ Hn.out Hr.out).1
        have hxb : k ≤ s.size ∧ (s.extract b p).size ≤ s.size ∧ (10 : UInt8) ∉ bs (s.extract b p) := ⟨by omega, by simp; omega, by rw [bs_extract]; exact H.out.free⟩
        have HS := H.out.line Hn.out Hr.out ⟨(k, s.extract b p), hxb⟩ rfl
        have hY2 := HY.out pre ⟨(k, s.extract b p), hxb⟩ W2 HH2.out.1 ⟨_, HS.1.symm⟩
        have HS' : Hid _ := HS
        have i3 : (b : Int) ≤ p := by omega
        have i4 : (p : Int) ≤ s.size := by omega
        clear HS
        obtain ⟨fn, tmps, assign, body, hy, hR⟩ := hY2
        simp only [Ln.encs] at hy
        gi_wp2
        refine hR.mono ?_
        rintro e W3 (⟨rfl, hJ3, hk3⟩ | ⟨rfl, hJx3⟩)
        · have hit3 : W3.heap[W.heap.size]? = some (.stringIter s (p + 1)) := by rw [← hd1']; exact hk3.walks.same _ _ hit2 rfl
          have HI : Hid (LInv s B W.heap.size J (p + 1) (k + 1) (p + 1) (pre ++ [⟨(k, s.extract b p), hxb⟩]) W3) := ⟨hJ3, hk3.same.trans HH2.out.2, HS'.out.1, HS'.out.2, H.out.ne⟩
          have i5 : (p : Int) + 1 ≤ 9223372036854775807 := by omega
          have i6 : (k : Int) + 1 ≤ 9223372036854775807 := by omega
          clear hy hR hJ3 hk3 hnx cB hit2
          gi_wp2
          go_roundw
          case rel => exact ⟨p + 1, k + 1, p + 1, _, Nat.le_refl _, by omega, by omega, by simp, by simp, hit3, HI⟩
          case measure => rw [Hpos.out, iterPos_of hit3]; omega
        · clear hy hR hnx cB hit2
          gi_wp2
          refine bodyPost_ret (results_none rfl _ _ _) rfl ?_
          exact ⟨⟨_, rfl⟩, .inr ⟨_, ⟨_, HS'.out.1.symm⟩, hJx3⟩⟩
      · have i10 : ¬ (r : Int) = 10 := by omega
        have HI : Hid (LInv s B W.heap.size J b k (p + d) pre W2) := H.out.pass hb hp Hn.out (by rw [Hr.out]; exact h10) Hd.out HH2.out
        gi_wp2
        go_roundw
        case rel => exact ⟨b, k, p + d, pre, by omega, hd2, hk, rfl, rfl, hit2, HI⟩
        case measure => rw [Hpos.out, iterPos_of hit2]; omega
    · obtain rfl : p = s.size := by omega
      have hnx := run_next_over (P := Tryz.prog) wr W.heap.size s s.size hit hlt
      have cB := H.out.box.cell
      by_cases hbs : b < s.size
      · have ib : (b : Int) < s.size := by omega
        have hxb : k ≤ s.size ∧ (s.extract b s.size).size ≤ s.size ∧ (10 : UInt8) ∉ bs (s.extract b s.size) := ⟨by omega, by simp, by rw [bs_extract]; exact H.out.free⟩
        have HS := H.out.last hbs ⟨(k, s.extract b s.size), hxb⟩ rfl
        have hY2 := HY.out pre ⟨(k, s.extract b s.size), hxb⟩ wr H.out.j ⟨[], by rw [HS]; simp⟩
        have HS' : Hid _ := HS
        have i3 : (b : Int) ≤ s.size := by omega
        clear HS
        obtain ⟨fn, tmps, assign, body, hy, hR⟩ := hY2
        simp only [Ln.encs] at hy
        gi_wp2
        refine hR.mono ?_
        rintro e W3 (⟨rfl, hJ3, hk3⟩ | ⟨rfl, hJx3⟩)
        · clear hy hR hnx cB
          gi_wp2
          go_end0
          exact ⟨⟨_, rfl⟩, .inl ⟨_, HS'.out, hJ3⟩⟩
        · clear hy hR hnx cB
          gi_wp2
          go_end0
          exact ⟨⟨_, rfl⟩, .inr ⟨_, ⟨[], by rw [HS'.out]; simp⟩, hJx3⟩⟩
      · have ib : ¬ (b : Int) < s.size := by omega
        have HS : Hid (pre.map Ln.at = nums 0 (linesL (bs s))) := H.out.over hbs
        have HJ2 : Hid (J pre wr) := H.out.j
        clear H
        gi_wp2
        go_end0
        exact ⟨⟨_, rfl⟩, .inl ⟨_, HS.out, HJ2.out⟩⟩
end Go.Proofs.YtggnglgehobglaaGreatDoor
