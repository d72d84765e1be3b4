import Derived.Test.YtggnglgehobglaaGreatDoorN04
/- What beginnings tells: the rows that a row's first names are. -/
namespace Go.Proofs.YtggnglgehobglaaGreatDoor
open Go.RowKit Go.Shelf

attribute [local go_sem] Oper.semAt_some

/-- the beginnings ahead of each stroke -/
def begS : List UInt8 → List UInt8 → List (List UInt8)
  | _, [] => []
  | a, c :: t => if c = 47 then a :: begS (a ++ [c]) t else begS (a ++ [c]) t
def begL (l : List UInt8) : List (List UInt8) := if l = [] then [] else [] :: begS [] l
theorem begS_run : ∀ (n a r : List UInt8), (47 : UInt8) ∉ n → begS a (n ++ r) = begS (a ++ n) r
  | [], a, r, _ => by simp
  | c :: t, a, r, h => by
    have hc : c ≠ 47 := fun e => h (by simp [e])
    simp only [List.cons_append, begS, if_neg hc]
    rw [begS_run t (a ++ [c]) r (fun e => h (by simp [e]))]
    simp
theorem beg_step (l : List UInt8) (p d : Nat) (hd : p + d ≤ l.length) (h : ∀ k, k < d → l.getD (p + k) 0 ≠ 47) : begS (l.take p) (l.drop p) = begS (l.take (p + d)) (l.drop (p + d)) := by
  have e1 : l.drop p = (l.drop p).take d ++ l.drop (p + d) := by rw [← List.drop_drop, List.take_append_drop]
  rw [e1, begS_run]
  · rw [List.take_add]
  · intro hm
    obtain ⟨k, hk, e⟩ := List.getElem_of_mem hm
    rw [List.length_take, List.length_drop] at hk
    refine h k (by omega) ?_
    rw [List.getElem_take, List.getElem_drop] at e
    rw [List.getD_eq_getElem?_getD, List.getElem?_eq_getElem (by omega), Option.getD_some, e]
theorem begS_len : ∀ (l a : List UInt8), (begS a l).length ≤ l.length
  | [], _ => Nat.le_refl _
  | c :: t, a => by
    simp only [begS]
    have := begS_len t (a ++ [c])
    split
    · simp only [List.length_cons]; omega
    · simp only [List.length_cons]; omega
theorem begL_len (l : List UInt8) : (begL l).length ≤ l.length + 1 := by
  unfold begL
  split
  · simp
  · have := begS_len l []
    simp only [List.length_cons]; omega
/-- a beginning as the loop's body is handed it -/
abbrev Bg (s : ByteArray) : Type := { x : ByteArray // x.size ≤ s.size }
abbrev Bg.encs {s : ByteArray} (x : Bg s) : Array Value := #[.string x.1]
def Bg.at {s : ByteArray} (x : Bg s) : List UInt8 := bs x.1
theorem begin_any (s : ByteArray) (w : World) : Calls Tryz.prog 61 #[.string s] w fun e w' => e = .returned (.func (.func 83) #[] #[.pointer (some ⟨w.heap.size, 0, none⟩)]) ∧ w' = w.alloc (.cells #[.string s] 9) := by
  go_enter Tryz.func61, Tryz.ntmps61
  go_wp2
  go_ret
  exact ⟨rfl, rfl⟩
/-- what holds between two rounds of the loop over the runes -/
structure BInv (s : ByteArray) (B it : Nat) (J : List (Bg s) → World → Prop) (p : Nat) (pre : List (Bg s)) (wr : World) : Prop where
  j : J pre wr
  box : Boxed wr B 9 (.string s)
  said : begL (bs s) = pre.map Bg.at ++ begS ((bs s).take p) ((bs s).drop p)
  ne : B ≠ it
theorem BInv.next {s : ByteArray} {B it : Nat} {J : List (Bg s) → World → Prop} {p : Nat} {pre : List (Bg s)} {wr : World} (h : BInv s B it J p pre wr) (hJ : AbidesFrom it J) (hit : wr.heap[it]? = some (.stringIter s p)) (p' : Nat) :
    J pre (wr.putObj it (.stringIter s p')) ∧ Boxed (wr.putObj it (.stringIter s p')) B 9 (.string s) :=
  ⟨hJ pre wr _ (some it) h.j (grownBy_putObj' wr it _) (fun r e => by cases e; exact ⟨Nat.le_refl _, _, hit, rfl⟩), (World.putObj_heap_other h.ne).trans h.box⟩
theorem BInv.pass {s : ByteArray} {B it : Nat} {J : List (Bg s) → World → Prop} {p d : Nat} {pre : List (Bg s)} {wr w2 : World} (h : BInv s B it J p pre wr) (hlt : p < s.size) (hr : (dec ((bs s).drop p)).1 ≠ 47) (hd : d = (dec ((bs s).drop p)).2) (hd2 : p + d ≤ s.size) (h2 : J pre w2 ∧ Boxed w2 B 9 (.string s)) :
    BInv s B it J (p + d) pre w2 := by
  refine ⟨h2.1, h2.2, ?_, h.ne⟩
  rw [h.said, beg_step (bs s) p d (by rw [bs_len]; exact hd2)]
  intro k hk e
  by_cases h0 : 0 < k
  · have := dec_inner ((bs s).drop p) k h0 (by rw [← hd]; exact hk)
    rw [List.getD_eq_getElem?_getD, List.getElem?_drop, ← List.getD_eq_getElem?_getD, e] at this
    exact absurd this (by decide)
  · obtain rfl : k = 0 := by omega
    rw [Nat.add_zero] at e
    cases hl : (bs s).drop p with
    | nil => have := congrArg List.length hl; rw [List.length_drop, bs_len] at this; simp at this; omega
    | cons c t =>
      rw [hl] at hr
      exact hr ((dec_slash c t).2 ((bs_getD s p c t hl).symm.trans e))
theorem BInv.stroke {s : ByteArray} {B it : Nat} {J : List (Bg s) → World → Prop} {p d : Nat} {pre : List (Bg s)} {wr : World} (h : BInv s B it J p pre wr) (hlt : p < s.size) (hr : (dec ((bs s).drop p)).1 = 47) (hd : d = (dec ((bs s).drop p)).2) (x : Bg s) (hx : x.1 = s.extract 0 p) :
    d = 1 ∧ begL (bs s) = (pre ++ [x]).map Bg.at ++ begS ((bs s).take (p + 1)) ((bs s).drop (p + 1)) := by
  cases hl : (bs s).drop p with
  | nil => have := congrArg List.length hl; rw [List.length_drop, bs_len] at this; simp at this; omega
  | cons c t =>
    rw [hl] at hr hd
    have hc := (dec_slash c t).1 hr
    subst hc
    have h1 : d = 1 := by rw [hd, dec_ascii _ _ (by decide)]
    have ht : (bs s).drop (p + 1) = t := by rw [← List.drop_drop, hl]; rfl
    have htk : (bs s).take (p + 1) = (bs s).take p ++ [47] := by
      rw [List.take_add, hl]; rfl
    refine ⟨h1, ?_⟩
    rw [h.said, hl, begS, if_pos rfl, ht, htk, List.map_append, List.append_assoc]
    have e1 : Bg.at x = (bs s).take p := by unfold Bg.at; rw [hx, bs_extract, List.drop_zero]
    simp [e1]

set_option maxRecDepth 100000 in
set_option maxHeartbeats 4000000 in
theorem begin_stops (s : ByteArray) (hs : s.size ≤ maxLen) (w : World) (B : Nat) (hB : Boxed w B 9 (.string s)) (n : Nat) (hn : 1 ≤ n) :
    SeqStopsK Fence.wide n Tryz.prog 83 #[.pointer (some ⟨B, 0, none⟩)] Bg.encs (KpB B) (fun xs : List (Bg s) => xs.map Bg.at = begL (bs s)) (fun pre : List (Bg s) => ∃ rest, pre.map Bg.at ++ rest = begL (bs s)) (begL (bs s)).length w := by
  intro l J Jx W hW hJ hJx hY h0
  have hs' : s.size ≤ 9223372036854775807 := by unfold maxLen at hs; omega
  have hBW : Boxed W B 9 (.string s) := (hW.block B hB.lt).trans hB
  have cB := hBW.cell
  refine callsIn_of_wp Tryz.func83 rfl trivial ?_ rfl
  simp only [Tryz.ntmps83, List.size_toArray, List.length_cons, List.length_nil, Nat.reduceAdd, Nat.reduceSub, Array.replicate_succ, Array.replicate_zero, List.push_toArray, List.append_toArray, List.nil_append, List.cons_append]
  by_cases hz : s.toList = []
  · have b1 : s.toList.isEmpty = true := by rw [hz]; rfl
    gi_wp2
    refine ⟨(fun f h => by cases h), ?_⟩
    gi_wp2
    refine bodyPost_ret (results_none rfl _ _ _) rfl ?_
    exact ⟨⟨_, rfl⟩, .inl ⟨[], by rw [toList_bs] at hz; rw [hz]; rfl, h0⟩⟩
  · have b1 : s.toList.isEmpty = false := by simpa using hz
    have hne0 : bs s ≠ [] := by rw [← toList_bs]; exact hz
    have hbl : begL (bs s) = [] :: begS [] (bs s) := by unfold begL; rw [if_neg hne0]
    have hBlt := hBW.lt
    have HJ : Hid (AbidesFrom W.heap.size J) := hJ
    have HY : Hid (∀ pre x W1, J pre W1 → pre.length < (begL (bs s)).length → YieldAt Fence.wide (n - 1) Tryz.prog l (Bg.encs x) W1 fun e W' => (e = .returned (.bool true) ∧ J (pre ++ [x]) W' ∧ KpB B W1 W') ∨ (e = .returned (.bool false) ∧ Jx (pre ++ [x]) W')) := hY
    have hY2 := hY [] ⟨⟨#[]⟩, Nat.zero_le _⟩ W h0 (by rw [hbl]; simp)
    obtain ⟨fn, tmps, assign, body, hy, hR⟩ := hY2
    simp only [Bg.encs] at hy
    have HBL : Hid (begL (bs s) = [] :: begS [] (bs s)) := hbl
    have HBW : Hid (Boxed W B 9 (.string s)) := hBW
    have HSz : Hid (∀ W3, KpB B W W3 → J [⟨⟨#[]⟩, Nat.zero_le _⟩] W3 → True) := fun _ _ _ => trivial
    clear hY hJ hJx h0 hW hz hbl hne0 HSz hBW
    gi_wp2
    refine hR.mono ?_
    rintro e W3 (⟨rfl, hJ3, hk3⟩ | ⟨rfl, hJx3⟩)
    · have hB3 : Boxed W3 B 9 (.string s) := hk3.same.trans HBW.out
      have cB3 := hB3.cell
      have hB3l := hB3.lt
      have H0 : Hid (BInv s B W3.heap.size J 0 [⟨⟨#[]⟩, Nat.zero_le _⟩] (W3.iter s 0)) :=
        ⟨HJ.out _ W3 _ none hJ3 (World.grownBy_alloc W3 _ none) (fun r e => by cases e), hB3.alloc _, by rw [HBL.out]; simp [Bg.at, bs], Nat.ne_of_lt hB3l⟩
      have HJ3 : Hid (AbidesFrom W3.heap.size J) := fun a X Y row h1 h2 h3 => HJ.out a X Y row h1 h2 (fun r e => ⟨Nat.le_trans hk3.walks.size (h3 r e).1, (h3 r e).2⟩)
      clear hy hR hJ3 hk3 cB hB3 HJ
      gi_wp2
      gi_loopw [] (fun wr => ∃ (p : Nat) (pre : List (Bg s)), p ≤ s.size ∧ wr.heap[W3.heap.size]? = some (.stringIter s p) ∧ Hid (BInv s B W3.heap.size J p pre wr)) (fun wr => s.size - wr.iterPos W3.heap.size)
      case atStart => exact ⟨0, _, Nat.zero_le _, World.iter_heap _ _ _, H0⟩
      case round =>
        clear H0 cB3
        obtain ⟨p, pre, hp, hit, H⟩ := hrel
        by_cases hlt : p < s.size
        · obtain ⟨r, hr⟩ : ∃ r, r = (dec ((bs s).drop p)).1 := ⟨_, rfl⟩
          obtain ⟨d, hd⟩ : ∃ d, d = (dec ((bs s).drop p)).2 := ⟨_, rfl⟩
          have hne : (bs s).drop p ≠ [] := fun e => by
            have := congrArg List.length e
            rw [List.length_drop, bs_len] at this; simp at this; omega
          have hd1 : 1 ≤ d := by rw [hd]; exact dec_pos _
          have hd2 : p + d ≤ s.size := by
            have := dec_le _ hne
            rw [← hd, List.length_drop, bs_len] at this; omega
          have hdec : Utf8.decode s p = (r, d) := by rw [decode_dec, hr, hd]; rfl
          have hrle : r ≤ 2147483647 := by have := decode_le s p; rw [hdec] at this; exact this
          have hnx := run_next_at (P := Tryz.prog) wr W3.heap.size s p hit hlt
          rw [hdec] at hnx
          have H2 := H.out.next HJ3.out hit (p + d)
          have hit2 : (wr.putObj W3.heap.size (.stringIter s (p + d))).heap[W3.heap.size]? = some (.stringIter s (p + d)) := World.putObj_heap_same (Array.getElem?_eq_some_iff.1 hit).1
          have Hpos : Hid (wr.iterPos W3.heap.size = p) := iterPos_of hit
          simp only at hnx
          obtain ⟨W2, hW2⟩ : ∃ W2, W2 = wr.putObj W3.heap.size (.stringIter s (p + d)) := ⟨_, rfl⟩
          rw [← hW2] at hnx H2 hit2
          have Hr : Hid (r = (dec ((bs s).drop p)).1) := hr
          have Hd : Hid (d = (dec ((bs s).drop p)).2) := hd
          have HH2 : Hid (J pre W2 ∧ Boxed W2 B 9 (.string s)) := H2
          have cB := H2.2.cell
          clear hne hr hd hdec hW2 H2 hit
          by_cases h47 : r = 47
          · subst h47
            simp only [show ((47 : Nat) : Int) = 47 from rfl] at hnx
            have hxb : (s.extract 0 p).size ≤ s.size := by simp; omega
            have HS := H.out.stroke hlt Hr.out.symm Hd.out ⟨s.extract 0 p, hxb⟩ rfl
            have hlen : pre.length < (begL (bs s)).length := by
              rw [HS.2]; simp
            have hY2 := HY.out pre ⟨s.extract 0 p, hxb⟩ W2 HH2.out.1 hlen
            have HS' : Hid (begL (bs s) = (pre ++ [(⟨s.extract 0 p, hxb⟩ : Bg s)]).map Bg.at ++ begS ((bs s).take (p + 1)) ((bs s).drop (p + 1))) := HS.2
            have hd1' := HS.1
            have i9 : (p : Int) ≤ s.size := by omega
            clear HS hlen
            obtain ⟨fn, tmps, assign, body, hy, hR⟩ := hY2
            simp only [Bg.encs] at hy
            gi_wp2
            refine hR.mono ?_
            rintro e W5 (⟨rfl, hJ5, hk5⟩ | ⟨rfl, hJx5⟩)
            · have hit5 : W5.heap[W3.heap.size]? = some (.stringIter s (p + 1)) := by rw [← hd1']; exact hk5.walks.same _ _ hit2 rfl
              have HI : Hid (BInv s B W3.heap.size J (p + 1) (pre ++ [⟨s.extract 0 p, hxb⟩]) W5) := ⟨hJ5, hk5.same.trans HH2.out.2, HS'.out, H.out.ne⟩
              clear hy hR hJ5 hk5 hnx cB hit2
              gi_wp2
              go_roundw
              case rel => exact ⟨p + 1, _, by omega, hit5, HI⟩
              case measure => rw [Hpos.out, iterPos_of hit5]; omega
            · clear hy hR hnx cB hit2
              gi_wp2
              refine bodyPost_ret (results_none rfl _ _ _) rfl ?_
              exact ⟨⟨_, rfl⟩, .inr ⟨_, ⟨_, HS'.out.symm⟩, hJx5⟩⟩
          · have i47 : ¬ (r : Int) = 47 := by omega
            have HI : Hid (BInv s B W3.heap.size J (p + d) pre W2) := H.out.pass hlt (by rw [← Hr.out]; exact h47) Hd.out hd2 HH2.out
            gi_wp2
            refine ⟨(fun f h => by cases h), ?_⟩
            gi_wp2
            go_roundw
            case rel => exact ⟨p + d, pre, hd2, hit2, HI⟩
            case measure => rw [Hpos.out, iterPos_of hit2]; omega
        · obtain rfl : p = s.size := by omega
          have hnx := run_next_over (P := Tryz.prog) wr W3.heap.size s s.size hit hlt
          have HS' : Hid (pre.map Bg.at = begL (bs s)) := by
            show _ = _
            rw [H.out.said, List.drop_eq_nil_of_le (by rw [bs_len]; exact Nat.le_refl _)]
            simp [begS]
          gi_wp2
          go_end0
          exact ⟨⟨_, rfl⟩, .inl ⟨_, HS'.out, H.out.j⟩⟩
    · clear hy hR cB
      gi_wp2
      refine bodyPost_ret (results_none rfl _ _ _) rfl ?_
      exact ⟨⟨_, rfl⟩, .inr ⟨_, ⟨begS [] (bs s), by rw [HBL.out]; simp [Bg.at, bs]⟩, hJx3⟩⟩
end Go.Proofs.YtggnglgehobglaaGreatDoor
