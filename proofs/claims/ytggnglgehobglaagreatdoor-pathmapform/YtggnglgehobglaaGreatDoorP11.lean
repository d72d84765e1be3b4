import Derived.Test.YtggnglgehobglaaGreatDoorP10
import Derived.Maps.OwnIn
import Derived.Carry
import Derived.Test.YtggnglgehobglaaGreatDoorP04
/- A table of rules by their Froms: what it is in memory, its answers, and tableOf. -/
namespace Go.Proofs.YtggnglgehobglaaGreatDoor
open Go.RowKit Go.Shelf Go.Maps

attribute [local go_sem] Oper.semAt_some

def rvT (v : Value) : Option (DataW Value × List MemPlace) := some (.held v, [])
theorem keyedT : Keyed Tryz.prog 9 := string_keyed Tryz.underlying9
theorem keyOfT (s : ByteArray) (hs : s.size ≤ maxLen) : keyOf Tryz.prog 9 (.string s) = some (.string (bs s)) := WideMaps.keyOf_string_mk (P := Tryz.prog) Tryz.underlying9 hs
theorem zeroRule (w : World) : (zeroValue 31).run Tryz.prog w = .ok (rv 0 ⟨#[]⟩ ⟨#[]⟩) w := by kernel_rfl
theorem keyNeT {l l' : List UInt8} (h : l' ≠ l) : (Lit.string l' : Lit) ≠ .string l := fun e => h (by cases e; rfl)
theorem ownsMap_keptT {w w' : World} {b n : Nat} {M : DataW Value} (h : w.ownsMap Tryz.prog 9 rvT b n M) (hk : w'.heap[b]? = w.heap[b]?) : w'.ownsMap Tryz.prog 9 rvT b n M := by
  obtain ⟨es, clock, hb, r⟩ := h
  exact ⟨es, clock, hk.trans hb, r⟩
theorem ownsMap_tightT {w : World} {b n : Nat} {M : DataW Value} (h : w.ownsMap Tryz.prog 9 rvT b n M) : w.ownsMap Tryz.prog 9 rvT b (size M) M := by
  obtain ⟨es, clock, h1, h2, h3, rfl⟩ := h
  exact ⟨es, clock, h1, h2, by simp [size, length_sorted], rfl⟩
/-- a table, plain: what stands at a From -/
abbrev Tb := List UInt8 → Option Ru
def setT (g : Tb) (l : List UInt8) (r : Ru) : Tb := fun k => if k = l then some r else g k
/-- block b is that table; it has at most n rules -/
def TbAt (w : World) (b : Nat) (g : Tb) (n : Nat) : Prop := ∃ M : DataW Value, w.ownsMap Tryz.prog 9 rvT b (size M) M ∧ size M ≤ n ∧ (∀ l, has M (.string l) = (g l).isSome) ∧ ∀ l, M.atKey (.string l) (.held (ruV noR)) = .held (ruV ((g l).getD noR))
theorem TbAt.lt {w : World} {b : Nat} {g : Tb} {n : Nat} (h : TbAt w b g n) : b < w.heap.size := by
  obtain ⟨M, h1, _⟩ := h
  exact h1.lt
theorem TbAt.kept {w w' : World} {b : Nat} {g : Tb} {n : Nat} (h : TbAt w b g n) (hk : w'.heap[b]? = w.heap[b]?) : TbAt w' b g n := by
  obtain ⟨M, h1, h2⟩ := h
  exact ⟨M, ownsMap_keptT h1 hk, h2⟩
theorem TbAt.below {w w' : World} {b : Nat} {g : Tb} {n : Nat} (h : TbAt w b g n) (hB : Below w.heap.size w w') : TbAt w' b g n := h.kept (hB.block b h.lt)
theorem TbAt.look {w : World} {b : Nat} {g : Tb} {n : Nat} (h : TbAt w b g n) (s : ByteArray) (hs : s.size ≤ maxLen) : (Instr.lookup 58 (.map (some b)) (.string s) true).run Tryz.prog w = .ok (.tuple #[ruV ((g (bs s)).getD noR), .bool (g (bs s)).isSome]) w := by
  obtain ⟨M, h1, _, h3, h4⟩ := h
  obtain ⟨u', ps, hrun, hu'⟩ := h1.look_ok keyedT Tryz.underlying58 (zeroRule w) (show rvT (rv 0 ⟨#[]⟩ ⟨#[]⟩) = some (.held (ruV noR), []) from rfl) (keyOfT s hs)
  rw [h4] at hu'
  simp only [rvT, Option.some.injEq, Prod.mk.injEq] at hu'
  obtain ⟨e, _⟩ := hu'
  have e2 : u' = ruV ((g (bs s)).getD noR) := by simpa using e
  rw [e2, h3] at hrun
  exact hrun
theorem TbAt.put {w : World} {b : Nat} {g : Tb} {n : Nat} (h : TbAt w b g n) (s : ByteArray) (hs : s.size ≤ maxLen) (hn : n < maxLen) (r : Ru) : ∃ w2, (Instr.mapUpdate 58 (.map (some b)) (.string s) (ruV r)).run Tryz.prog w = .ok () w2 ∧ TbAt w2 b (setT g (bs s) r) (n + 1) ∧ w.grownBy w2 (some b) := by
  obtain ⟨M, h1, h2, h3, h4⟩ := h
  obtain ⟨w2, hrun, own2, hg2⟩ := h1.update keyedT Tryz.underlying58 (by omega) (keyOfT s hs) (show rvT (ruV r) = some (.held (ruV r), []) from rfl)
  have hm := h1.isMap
  have htidy := h1.tidy keyedT
  refine ⟨w2, hrun, ⟨_, ownsMap_tightT own2, ?_, fun l => ?_, fun l => ?_⟩, hg2⟩
  · rw [size_put htidy]
    split <;> omega
  · by_cases e : l = bs s
    · subst e
      rw [has_put_same hm (show WideAt.IsKeyLit (.string (bs s)) from trivial)]
      simp [setT]
    · rw [has_put_other (keyNeT e), h3]
      simp [setT, e]
  · by_cases e : l = bs s
    · subst e
      rw [atKey_put_same hm (show WideAt.IsKeyLit (.string (bs s)) from trivial)]
      simp [setT]
    · rw [atKey_put_other (keyNeT e), h4]
      simp [setT, e]
theorem TbAt.new (w : World) : TbAt (w.alloc (.map #[] 0)) w.heap.size (fun _ => none) 0 := ⟨.map [], World.ownsMap_made w Tryz.prog 9 rvT, Nat.le_refl _, fun _ => rfl, fun _ => rfl⟩
/-- the table of rules: the last one of a From stands -/
def tabL : List Ru → Tb := fun rs => rs.foldl (fun g r => setT g r.2.1 r) (fun _ => none)
theorem tabL_step (rs : List Ru) (k : Nat) (r : Ru) (h : rs[k]? = some r) : tabL (rs.take (k + 1)) = setT (tabL (rs.take k)) r.2.1 r := by
  obtain ⟨hk, rfl⟩ := List.getElem?_eq_some_iff.1 h
  unfold tabL
  rw [List.take_succ_eq_append_getElem hk, List.foldl_append]
  rfl
set_option maxRecDepth 100000 in
set_option maxHeartbeats 4000000 in
theorem tableOf_any (w : World) (a : Option Addr) (n c : Nat) (rs : List Ru) (hl : Rus w a n rs) (hn : n ≤ 1000) (hs : ∀ r ∈ rs, r.2.1.length ≤ 1000000) :
    Calls Tryz.prog 47 #[.slice a n c] w fun e w' => ∃ b, e = .returned (.map (some b)) ∧ TbAt w' b (tabL rs) n ∧ w.heap.size ≤ b ∧ Below w.heap.size w w' := by
  have HL : Hid (Rus w a n rs ∧ ∀ r ∈ rs, r.2.1.length ≤ 1000000) := ⟨hl, hs⟩
  have hmm := @run_makeMap Tryz.prog
  have H0 : Hid (TbAt (w.alloc (.map #[] 0)) w.heap.size (fun _ => none) 0 ∧ Below w.heap.size w (w.alloc (.map #[] 0))) := ⟨TbAt.new w, (Below.refl _ w).alloc (Nat.le_refl _) _⟩
  clear hl hs
  go_enter Tryz.func47, Tryz.ntmps47
  go_wp2
  generalize w.alloc (.map #[] 0) = w1 at *
  generalize hmb : w.heap.size = mb at *
  have HMB : Hid (w.heap.size = mb) := hmb
  clear hmm hmb
  go_loopw [9] (fun v wr => ∃ k : Nat, k ≤ n ∧ v = .int .i64 (k : Int) ∧ Hid (TbAt wr mb (tabL (rs.take k)) k ∧ Below mb w wr)) (fun v _ => n - (intOf v).toNat)
  case atStart => exact ⟨0, Nat.zero_le _, rfl, H0.out⟩
  case round =>
    obtain ⟨k, hk, rfl, H⟩ := hrel
    by_cases hlt : k < n
    · obtain ⟨r, hr⟩ : ∃ r, rs[k]? = some r := ⟨_, List.getElem?_eq_getElem (by rw [HL.out.1.1]; exact hlt)⟩
      obtain ⟨b1, o1, hae, hc1⟩ := (HL.out.1.kept (by rw [HMB.out]; exact H.out.2)).2 (by omega)
      subst hae
      obtain ⟨q0, q1, q2⟩ := hc1 k r hr
      have hsz := HL.out.2 r (List.mem_of_getElem? hr)
      obtain ⟨f, hf⟩ : ∃ f, f = mk r.2.1 := ⟨_, rfl⟩
      obtain ⟨t, ht⟩ : ∃ t, t = mk r.2.2 := ⟨_, rfl⟩
      have hmkf : bs f = r.2.1 := by rw [hf, bs_mk]
      have hfs : f.size ≤ 1000000 := by rw [← bs_len, hmkf]; exact hsz
      have hbx : BoxR (wr.alloc (.cells #[.int .i64 r.1, .string f, .string t] 31)) wr.heap.size r.1 f t := BoxR.new wr r.1 f t
      obtain ⟨c0, c1, c2⟩ := hbx.cell
      have hB1 : Below mb w (wr.alloc (.cells #[.int .i64 r.1, .string f, .string t] 31)) := H.out.2.trans (((Below.refl _ wr).alloc (Nat.le_refl _) _).mono (by have := H.out.2.size; have := HMB.out; omega))
      have hT1 : TbAt (wr.alloc (.cells #[.int .i64 r.1, .string f, .string t] 31)) mb (tabL (rs.take k)) k := H.out.1.below ((Below.refl _ wr).alloc (Nat.le_refl _) _)
      obtain ⟨w3, hrun, hT3, hg3⟩ := hT1.put f (by unfold maxLen; omega) (by unfold maxLen; omega) r
      rw [hmkf, ← tabL_step rs k r hr] at hT3
      have hruv : ruV r = rv r.1 f t := by rw [hf, ht]
      rw [hruv] at hrun
      rw [← hf] at q1
      rw [← ht] at q2
      have HN : Hid (TbAt w3 mb (tabL (rs.take (k + 1))) (k + 1) ∧ Below mb w w3) := ⟨hT3, by
        refine ⟨hg3.os.trans hB1.os, hg3.tape.trans hB1.tape, hg3.output.trans hB1.output, Nat.le_trans hB1.size hg3.size, fun z hz => ?_⟩
        exact (hg3.block z (Nat.lt_of_lt_of_le (Nat.lt_of_lt_of_le hz (by have := HMB.out; omega)) (Nat.le_trans (Nat.le_refl _) hB1.size)) (fun e => by have := Option.some.inj e; omega)).trans (hB1.block z hz)⟩
      have i5 : (k : Int) < (n : Int) := by omega
      have i6 : ¬ n ≤ k := by omega
      generalize r.1 = kk at *
      clear hc1 hr hsz hf ht hmkf hbx hT1 hT3 hg3 hB1 H hruv
      go_wp2
      go_roundw
      case rel => exact ⟨k + 1, by omega, by simp, HN.out⟩
      case measure => simp [intOf]; omega
    · obtain rfl : k = n := by omega
      have i5 : ¬ (k : Int) < (k : Int) := by omega
      have HE : Hid (TbAt wr mb (tabL rs) k ∧ Below mb w wr) := by
        have h := H.out
        rw [List.take_of_length_le (by rw [HL.out.1.1]; exact Nat.le_refl _)] at h
        exact h
      clear H
      go_wp2
      go_ret
      exact ⟨mb, rfl, HE.out.1, Nat.le_of_eq HMB.out, by rw [HMB.out]; exact HE.out.2⟩
end Go.Proofs.YtggnglgehobglaaGreatDoor

/- What beginnings tells: the rows that a row's first names are. -/
namespace Go.Proofs.YtggnglgehobglaaGreatDoor
open Go.RowKit Go.Shelf

attribute [local go_sem] Oper.semAt_some

/-- the beginnings ahead of each stroke -/
def begS : List UInt8 → List UInt8 → List (List UInt8)
  | _, [] => []
  | a, c :: t => if c = 47 then a :: begS (a ++ [c]) t else begS (a ++ [c]) t
def begL (l : List UInt8) : List (List UInt8) := if l = [] then [] else [] :: begS [] l
theorem begS_run : ∀ (n a r : List UInt8), (47 : UInt8) ∉ n → begS a (n ++ r) = begS (a ++ n) r
  | [], a, r, _ => by simp
  | c :: t, a, r, h => by
    have hc : c ≠ 47 := fun e => h (by simp [e])
    simp only [List.cons_append, begS, if_neg hc]
    rw [begS_run t (a ++ [c]) r (fun e => h (by simp [e]))]
    simp
theorem beg_step (l : List UInt8) (p d : Nat) (hd : p + d ≤ l.length) (h : ∀ k, k < d → l.getD (p + k) 0 ≠ 47) : begS (l.take p) (l.drop p) = begS (l.take (p + d)) (l.drop (p + d)) := by
  have e1 : l.drop p = (l.drop p).take d ++ l.drop (p + d) := by rw [← List.drop_drop, List.take_append_drop]
  rw [e1, begS_run]
  · rw [List.take_add]
  · intro hm
    obtain ⟨k, hk, e⟩ := List.getElem_of_mem hm
    rw [List.length_take, List.length_drop] at hk
    refine h k (by omega) ?_
    rw [List.getElem_take, List.getElem_drop] at e
    rw [List.getD_eq_getElem?_getD, List.getElem?_eq_getElem (by omega), Option.getD_some, e]
theorem begS_len : ∀ (l a : List UInt8), (begS a l).length ≤ l.length
  | [], _ => Nat.le_refl _
  | c :: t, a => by
    simp only [begS]
    have := begS_len t (a ++ [c])
    split
    · simp only [List.length_cons]; omega
    · simp only [List.length_cons]; omega
theorem begL_len (l : List UInt8) : (begL l).length ≤ l.length + 1 := by
  unfold begL
  split
  · simp
  · have := begS_len l []
    simp only [List.length_cons]; omega
/-- a beginning as the loop's body is handed it -/
abbrev Bg (s : ByteArray) : Type := { x : ByteArray // x.size ≤ s.size }
abbrev Bg.encs {s : ByteArray} (x : Bg s) : Array Value := #[.string x.1]
def Bg.at {s : ByteArray} (x : Bg s) : List UInt8 := bs x.1
theorem begin_any (s : ByteArray) (w : World) : Calls Tryz.prog 61 #[.string s] w fun e w' => e = .returned (.func (.func 83) #[] #[.pointer (some ⟨w.heap.size, 0, none⟩)]) ∧ w' = w.alloc (.cells #[.string s] 9) := by
  go_enter Tryz.func61, Tryz.ntmps61
  go_wp2
  go_ret
  exact ⟨rfl, rfl⟩
/-- what holds between two rounds of the loop over the runes -/
structure BInv (s : ByteArray) (B it : Nat) (J : List (Bg s) → World → Prop) (p : Nat) (pre : List (Bg s)) (wr : World) : Prop where
  j : J pre wr
  box : Boxed wr B 9 (.string s)
  said : begL (bs s) = pre.map Bg.at ++ begS ((bs s).take p) ((bs s).drop p)
  ne : B ≠ it
theorem BInv.next {s : ByteArray} {B it : Nat} {J : List (Bg s) → World → Prop} {p : Nat} {pre : List (Bg s)} {wr : World} (h : BInv s B it J p pre wr) (hJ : AbidesFrom it J) (hit : wr.heap[it]? = some (.stringIter s p)) (p' : Nat) :
    J pre (wr.putObj it (.stringIter s p')) ∧ Boxed (wr.putObj it (.stringIter s p')) B 9 (.string s) :=
  ⟨hJ pre wr _ (some it) h.j (grownBy_putObj' wr it _) (fun r e => by cases e; exact ⟨Nat.le_refl _, _, hit, rfl⟩), (World.putObj_heap_other h.ne).trans h.box⟩
theorem BInv.pass {s : ByteArray} {B it : Nat} {J : List (Bg s) → World → Prop} {p d : Nat} {pre : List (Bg s)} {wr w2 : World} (h : BInv s B it J p pre wr) (hlt : p < s.size) (hr : (dec ((bs s).drop p)).1 ≠ 47) (hd : d = (dec ((bs s).drop p)).2) (hd2 : p + d ≤ s.size) (h2 : J pre w2 ∧ Boxed w2 B 9 (.string s)) :
    BInv s B it J (p + d) pre w2 := by
  refine ⟨h2.1, h2.2, ?_, h.ne⟩
  rw [h.said, beg_step (bs s) p d (by rw [bs_len]; exact hd2)]
  intro k hk e
  by_cases h0 : 0 < k
  · have := dec_inner ((bs s).drop p) k h0 (by rw [← hd]; exact hk)
    rw [List.getD_eq_getElem?_getD, List.getElem?_drop, ← List.getD_eq_getElem?_getD, e] at this
    exact absurd this (by decide)
  · obtain rfl : k = 0 := by omega
    rw [Nat.add_zero] at e
    cases hl : (bs s).drop p with
    | nil => have := congrArg List.length hl; rw [List.length_drop, bs_len] at this; simp at this; omega
    | cons c t =>
      rw [hl] at hr
      exact hr ((dec_slash c t).2 ((bs_getD s p c t hl).symm.trans e))
theorem BInv.stroke {s : ByteArray} {B it : Nat} {J : List (Bg s) → World → Prop} {p d : Nat} {pre : List (Bg s)} {wr : World} (h : BInv s B it J p pre wr) (hlt : p < s.size) (hr : (dec ((bs s).drop p)).1 = 47) (hd : d = (dec ((bs s).drop p)).2) (x : Bg s) (hx : x.1 = s.extract 0 p) :
    d = 1 ∧ begL (bs s) = (pre ++ [x]).map Bg.at ++ begS ((bs s).take (p + 1)) ((bs s).drop (p + 1)) := by
  cases hl : (bs s).drop p with
  | nil => have := congrArg List.length hl; rw [List.length_drop, bs_len] at this; simp at this; omega
  | cons c t =>
    rw [hl] at hr hd
    have hc := (dec_slash c t).1 hr
    subst hc
    have h1 : d = 1 := by rw [hd, dec_ascii _ _ (by decide)]
    have ht : (bs s).drop (p + 1) = t := by rw [← List.drop_drop, hl]; rfl
    have htk : (bs s).take (p + 1) = (bs s).take p ++ [47] := by
      rw [List.take_add, hl]; rfl
    refine ⟨h1, ?_⟩
    rw [h.said, hl, begS, if_pos rfl, ht, htk, List.map_append, List.append_assoc]
    have e1 : Bg.at x = (bs s).take p := by unfold Bg.at; rw [hx, bs_extract, List.drop_zero]
    simp [e1]

set_option maxRecDepth 100000 in
set_option maxHeartbeats 4000000 in
theorem begin_stops (s : ByteArray) (hs : s.size ≤ maxLen) (w : World) (B : Nat) (hB : Boxed w B 9 (.string s)) (n : Nat) (hn : 1 ≤ n) :
    SeqStopsK Fence.wide n Tryz.prog 83 #[.pointer (some ⟨B, 0, none⟩)] Bg.encs (KpB B) (fun xs : List (Bg s) => xs.map Bg.at = begL (bs s)) (fun pre : List (Bg s) => ∃ rest, pre.map Bg.at ++ rest = begL (bs s)) (begL (bs s)).length w := by
  intro l J Jx W hW hJ hJx hY h0
  have hs' : s.size ≤ 9223372036854775807 := by unfold maxLen at hs; omega
  have hBW : Boxed W B 9 (.string s) := (hW.block B hB.lt).trans hB
  have cB := hBW.cell
  refine callsIn_of_wp Tryz.func83 rfl trivial ?_ rfl
  simp only [Tryz.ntmps83, List.size_toArray, List.length_cons, List.length_nil, Nat.reduceAdd, Nat.reduceSub, Array.replicate_succ, Array.replicate_zero, List.push_toArray, List.append_toArray, List.nil_append, List.cons_append]
  by_cases hz : s.toList = []
  · have b1 : s.toList.isEmpty = true := by rw [hz]; rfl
    gi_wp2
    refine ⟨(fun f h => by cases h), ?_⟩
    gi_wp2
    refine bodyPost_ret (results_none rfl _ _ _) rfl ?_
    exact ⟨⟨_, rfl⟩, .inl ⟨[], by rw [toList_bs] at hz; rw [hz]; rfl, h0⟩⟩
  · have b1 : s.toList.isEmpty = false := by simpa using hz
    have hne0 : bs s ≠ [] := by rw [← toList_bs]; exact hz
    have hbl : begL (bs s) = [] :: begS [] (bs s) := by unfold begL; rw [if_neg hne0]
    have hBlt := hBW.lt
    have HJ : Hid (AbidesFrom W.heap.size J) := hJ
    have HY : Hid (∀ pre x W1, J pre W1 → pre.length < (begL (bs s)).length → YieldAt Fence.wide (n - 1) Tryz.prog l (Bg.encs x) W1 fun e W' => (e = .returned (.bool true) ∧ J (pre ++ [x]) W' ∧ KpB B W1 W') ∨ (e = .returned (.bool false) ∧ Jx (pre ++ [x]) W')) := hY
    have hY2 := hY [] ⟨⟨#[]⟩, Nat.zero_le _⟩ W h0 (by rw [hbl]; simp)
    obtain ⟨fn, tmps, assign, body, hy, hR⟩ := hY2
    simp only [Bg.encs] at hy
    have HBL : Hid (begL (bs s) = [] :: begS [] (bs s)) := hbl
    have HBW : Hid (Boxed W B 9 (.string s)) := hBW
    have HSz : Hid (∀ W3, KpB B W W3 → J [⟨⟨#[]⟩, Nat.zero_le _⟩] W3 → True) := fun _ _ _ => trivial
    clear hY hJ hJx h0 hW hz hbl hne0 HSz hBW
    gi_wp2
    refine hR.mono ?_
    rintro e W3 (⟨rfl, hJ3, hk3⟩ | ⟨rfl, hJx3⟩)
    · have hB3 : Boxed W3 B 9 (.string s) := hk3.same.trans HBW.out
      have cB3 := hB3.cell
      have hB3l := hB3.lt
      have H0 : Hid (BInv s B W3.heap.size J 0 [⟨⟨#[]⟩, Nat.zero_le _⟩] (W3.iter s 0)) :=
        ⟨HJ.out _ W3 _ none hJ3 (World.grownBy_alloc W3 _ none) (fun r e => by cases e), hB3.alloc _, by rw [HBL.out]; simp [Bg.at, bs], Nat.ne_of_lt hB3l⟩
      have HJ3 : Hid (AbidesFrom W3.heap.size J) := fun a X Y row h1 h2 h3 => HJ.out a X Y row h1 h2 (fun r e => ⟨Nat.le_trans hk3.walks.size (h3 r e).1, (h3 r e).2⟩)
      clear hy hR hJ3 hk3 cB hB3 HJ
      gi_wp2
      gi_loopw [] (fun wr => ∃ (p : Nat) (pre : List (Bg s)), p ≤ s.size ∧ wr.heap[W3.heap.size]? = some (.stringIter s p) ∧ Hid (BInv s B W3.heap.size J p pre wr)) (fun wr => s.size - wr.iterPos W3.heap.size)
      case atStart => exact ⟨0, _, Nat.zero_le _, World.iter_heap _ _ _, H0⟩
      case round =>
        clear H0 cB3
        obtain ⟨p, pre, hp, hit, H⟩ := hrel
        by_cases hlt : p < s.size
        · obtain ⟨r, hr⟩ : ∃ r, r = (dec ((bs s).drop p)).1 := ⟨_, rfl⟩
          obtain ⟨d, hd⟩ : ∃ d, d = (dec ((bs s).drop p)).2 := ⟨_, rfl⟩
          have hne : (bs s).drop p ≠ [] := fun e => by
            have := congrArg List.length e
            rw [List.length_drop, bs_len] at this; simp at this; omega
          have hd1 : 1 ≤ d := by rw [hd]; exact dec_pos _
          have hd2 : p + d ≤ s.size := by
            have := dec_le _ hne
            rw [← hd, List.length_drop, bs_len] at this; omega
          have hdec : Utf8.decode s p = (r, d) := by rw [decode_dec, hr, hd]; rfl
          have hrle : r ≤ 2147483647 := by have := decode_le s p; rw [hdec] at this; exact this
          have hnx := run_next_at (P := Tryz.prog) wr W3.heap.size s p hit hlt
          rw [hdec] at hnx
          have H2 := H.out.next HJ3.out hit (p + d)
          have hit2 : (wr.putObj W3.heap.size (.stringIter s (p + d))).heap[W3.heap.size]? = some (.stringIter s (p + d)) := World.putObj_heap_same (Array.getElem?_eq_some_iff.1 hit).1
          have Hpos : Hid (wr.iterPos W3.heap.size = p) := iterPos_of hit
          simp only at hnx
          obtain ⟨W2, hW2⟩ : ∃ W2, W2 = wr.putObj W3.heap.size (.stringIter s (p + d)) := ⟨_, rfl⟩
          rw [← hW2] at hnx H2 hit2
          have Hr : Hid (r = (dec ((bs s).drop p)).1) := hr
          have Hd : Hid (d = (dec ((bs s).drop p)).2) := hd
          have HH2 : Hid (J pre W2 ∧ Boxed W2 B 9 (.string s)) := H2
          have cB := H2.2.cell
          clear hne hr hd hdec hW2 H2 hit
          by_cases h47 : r = 47
          · subst h47
            simp only [show ((47 : Nat) : Int) = 47 from rfl] at hnx
            have hxb : (s.extract 0 p).size ≤ s.size := by simp; omega
            have HS := H.out.stroke hlt Hr.out.symm Hd.out ⟨s.extract 0 p, hxb⟩ rfl
            have hlen : pre.length < (begL (bs s)).length := by
              rw [HS.2]; simp
            have hY2 := HY.out pre ⟨s.extract 0 p, hxb⟩ W2 HH2.out.1 hlen
            have HS' : Hid (begL (bs s) = (pre ++ [(⟨s.extract 0 p, hxb⟩ : Bg s)]).map Bg.at ++ begS ((bs s).take (p + 1)) ((bs s).drop (p + 1))) := HS.2
            have hd1' := HS.1
            have i9 : (p : Int) ≤ s.size := by omega
            clear HS hlen
            obtain ⟨fn, tmps, assign, body, hy, hR⟩ := hY2
            simp only [Bg.encs] at hy
            gi_wp2
            refine hR.mono ?_
            rintro e W5 (⟨rfl, hJ5, hk5⟩ | ⟨rfl, hJx5⟩)
            · have hit5 : W5.heap[W3.heap.size]? = some (.stringIter s (p + 1)) := by rw [← hd1']; exact hk5.walks.same _ _ hit2 rfl
              have HI : Hid (BInv s B W3.heap.size J (p + 1) (pre ++ [⟨s.extract 0 p, hxb⟩]) W5) := ⟨hJ5, hk5.same.trans HH2.out.2, HS'.out, H.out.ne⟩
              clear hy hR hJ5 hk5 hnx cB hit2
              gi_wp2
              go_roundw
              case rel => exact ⟨p + 1, _, by omega, hit5, HI⟩
              case measure => rw [Hpos.out, iterPos_of hit5]; omega
            · clear hy hR hnx cB hit2
              gi_wp2
              refine bodyPost_ret (results_none rfl _ _ _) rfl ?_
              exact ⟨⟨_, rfl⟩, .inr ⟨_, ⟨_, HS'.out.symm⟩, hJx5⟩⟩
          · have i47 : ¬ (r : Int) = 47 := by omega
            have HI : Hid (BInv s B W3.heap.size J (p + d) pre W2) := H.out.pass hlt (by rw [← Hr.out]; exact h47) Hd.out hd2 HH2.out
            gi_wp2
            refine ⟨(fun f h => by cases h), ?_⟩
            gi_wp2
            go_roundw
            case rel => exact ⟨p + d, pre, hd2, hit2, HI⟩
            case measure => rw [Hpos.out, iterPos_of hit2]; omega
        · obtain rfl : p = s.size := by omega
          have hnx := run_next_over (P := Tryz.prog) wr W3.heap.size s s.size hit hlt
          have HS' : Hid (pre.map Bg.at = begL (bs s)) := by
            show _ = _
            rw [H.out.said, List.drop_eq_nil_of_le (by rw [bs_len]; exact Nat.le_refl _)]
            simp [begS]
          gi_wp2
          go_end0
          exact ⟨⟨_, rfl⟩, .inl ⟨_, HS'.out, H.out.j⟩⟩
    · clear hy hR cB
      gi_wp2
      refine bodyPost_ret (results_none rfl _ _ _) rfl ?_
      exact ⟨⟨_, rfl⟩, .inr ⟨_, ⟨begS [] (bs s), by rw [HBL.out]; simp [Bg.at, bs]⟩, hJx3⟩⟩
end Go.Proofs.YtggnglgehobglaaGreatDoor
