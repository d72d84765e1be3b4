import Derived.Test.YtncagdfbgpdhfaaGreatP18
import Derived.Lib.SlBytesConst
import Derived.Lib.SliceRun
import Derived.BigQuiet
import Derived.Deep.QuietTactic
import Derived.Test.YtncagdfbgpdhfaaGreatP02
import Derived.Test.YtncagdfbgpdhfaaGreatP17
/- The walks of the disk's calls that read, and of Append. -/
namespace Go.Proofs.YtncagdfbgpdhfaaGreat
open Go.RowKit Go.Maps

theorem ownsRow_shape {w : World} {B n : Nat} {v : Value} {xs : List Value} (h : w.ownsRow B 5 1 v n xs) : ∃ ad c, v = .slice ad n c ∧ n ≤ c ∧ (ad = none → n = 0 ∧ c = 0) := by
  rcases h.2 with ⟨rfl, rfl⟩ | ⟨g, cap, cur, rfl, _, _, hc, _⟩
  · exact ⟨none, 0, rfl, Nat.le_refl _, fun _ => ⟨rfl, rfl⟩⟩
  · exact ⟨_, _, rfl, hc, fun h => by cases h⟩

theorem ownsRow_toBytes {w : World} {B n c : Nat} {ad : Option Addr} {l : List UInt8} (h : w.ownsRow B 5 1 (.slice ad n c) n (cellsOf l)) : Bytes w ad n l ∧ ∀ x, ad = some x → B ≤ x.block ∧ x.block < w.heap.size := by
  have hll : l.length = n := by have := h.1; rw [cellsOf_length] at this; omega
  rcases h.2 with ⟨e, rfl⟩ | ⟨g, cap, cur, e, _⟩
  · cases e
    exact ⟨⟨hll, fun h0 => by omega⟩, by simp⟩
  · cases e
    refine ⟨⟨hll, fun _ => ⟨g, 0, rfl, fun i hi => ?_⟩⟩, fun x hx => ?_⟩
    · have := h.cells (g := g) rfl i _ (cellsOf_get l i (by omega))
      rw [Addr.add_lit] at this
      exact this
    · cases hx
      exact h.lt g rfl

theorem ownsRow_base {w : World} {B n : Nat} {v : Value} {xs : List Value} (h : w.ownsRow 0 5 1 v n xs) (hB : ∀ g, v.ownBlock = some g → B ≤ g) : w.ownsRow B 5 1 v n xs := by
  refine ⟨h.1, ?_⟩
  rcases h.2 with h0 | ⟨g, cap, cur, rfl, _, h2⟩
  · exact .inl h0
  · exact .inr ⟨g, cap, cur, rfl, hB g rfl, h2⟩

set_option maxHeartbeats 1000000 in
theorem clone_any (a : Option Addr) (n c : Nat) (l : List UInt8) (w : World) (hb : Bytes w a n l) (hnil : a = none → n = 0 ∧ c = 0) (hbig : n ≤ 140737488355328) :
    Calls Tryz.prog 71 #[.slice a n c] w fun e w' => ∃ a' c', e = .returned (.slice a' n c') ∧ w'.ownsRow w.heap.size 5 1 (.slice a' n c') n (cellsOf l) ∧ Below w.heap.size w w' ∧ n ≤ c' ∧ (a' = none → n = 0 ∧ c' = 0) := by
  have q22 : ∀ (w : World) (a : Option Addr) (n c n' c' : Nat), (binOp .eql 80 (.slice a n c) (.slice none n' c')).run Tryz.prog w = .ok (.bool a.isNone) w := fun w a n c n' c' => Lib.run_eql_slice_nil w _ _ a n c n' c' Tryz.underlying80
  cases a with
  | none =>
    obtain ⟨rfl, rfl⟩ := hnil rfl
    have hl : l = [] := List.eq_nil_of_length_eq_zero hb.1
    subst hl
    go_enter Tryz.func71, Tryz.ntmps71
    go_wp2
    go_ret
    exact ⟨none, 0, rfl, World.ownsRow_nil _ _ _ _, Below.refl _ _, by simp⟩
  | some a =>
    have hB0 : Below w.heap.size w (w.alloc (.cells #[] 5)) := (Below.refl _ _).alloc (Nat.le_refl _) _
    have hb0 : Bytes (w.alloc (.cells #[] 5)) (some a) n l := (Turn.of_below (fun _ => False) hB0).bytes hb (fun _ _ _ => id)
    have hr0 : (w.alloc (.cells #[] 5)).ownsRow 0 5 1 (.slice (some ⟨w.heap.size, 0, none⟩) 0 0) 0 [] := World.ownsRow_made w #[] 0 (Nat.zero_le _) (by unfold maxLen; omega) rfl
    go_enter Tryz.func71, Tryz.ntmps71
    go_wp2_with (at_builtin; refine wpList_append_row _ rfl _ _ rfl (.slice (some ⟨w.heap.size, 0, none⟩) 0 0) 0 [] rfl hr0 (some a) n c l rfl hb0 hnil (by omega) ?_; intro v' w1 hown hgrow hat; obtain ⟨a', c', rfl, hnc, hnn⟩ := ownsRow_shape hown)
    go_ret
    simp only [Nat.zero_add, List.nil_append] at *
    have hbase : ∀ g, (Value.slice a' n c').ownBlock = some g → w.heap.size ≤ g := by
      intro g hg
      rcases hat with e | e
      · rw [e] at hg; cases hg; exact Nat.le_refl _
      · rw [e] at hg; cases hg; simp
    exact ⟨a', c', rfl, ownsRow_base hown hbase, hB0.grown hgrow (by simp) (by intro k hk; cases hk; exact Nat.le_refl _), hnc, hnn⟩

/-- what the disk answers when it is asked for a file -/
def DG.err (S : DG) (l : List UInt8) : Int := if (S.f l).isSome then 0 else 4

theorem DiskAt.look {w : World} {p b : Nat} {M : DataW Value} {S : DG} {Fp : Nat → Prop} (hd : DiskAt w p b M S Fp) (s : ByteArray) (hs : s.size ≤ maxLen) (v : Value) (hv : M.atKey (.string s.data.toList) nils = .held v) :
    (Instr.lookup 120 (.map (some b)) (.string s) true).run Tryz.prog w = .ok (.tuple #[v, .bool (S.f s.data.toList).isSome]) w := by
  obtain ⟨u, ps, hrun, hu⟩ := hd.own.look_ok keyed Tryz.underlying120 (zeroSlice w) (show rv (.slice none 0 0) = some (nils, []) from rfl) (keyOfS s hs)
  rw [hv] at hu
  have := rv_inv hu
  cases this
  rw [hd.has] at hrun
  exact hrun

set_option maxHeartbeats 1000000 in
theorem file_any (p : Nat) (S : DG) (Fp : Nat → Prop) (w : World) (s : ByteArray) (hd : IsDisk w p S Fp) (hs : s.size ≤ maxLen) :
    Calls Tryz.prog 90 #[.pointer (some ⟨p, 0, none⟩), .string s] w fun e w' => ∃ a c, e = .returned (.tuple #[.slice a ((S.f s.data.toList).getD []).length c, .int .i64 (S.err s.data.toList)]) ∧ w' = w ∧
      Bytes w a ((S.f s.data.toList).getD []).length ((S.f s.data.toList).getD []) ∧ ((S.f s.data.toList).getD []).length ≤ c ∧ (a = none → ((S.f s.data.toList).getD []).length = 0 ∧ c = 0) ∧
      ∃ b M, DiskAt w p b M S Fp ∧ M.atKey (.string s.data.toList) nils = .held (.slice a ((S.f s.data.toList).getD []).length c) := by
  obtain ⟨b, M, hd⟩ := hd
  obtain ⟨v, hv, hrow, hvo⟩ := hd.value s.data.toList
  obtain ⟨a, c, rfl, hac, hnn⟩ := ownsRow_shape hrow
  have hlk := hd.look s hs _ hv
  have c0 := hd.c0
  have hby := (ownsRow_toBytes hrow).1
  have HD : Hid (DiskAt w p b M S Fp) := hd
  have HV : Hid (M.atKey (.string s.data.toList) nils = .held (.slice a ((S.f s.data.toList).getD []).length c)) := hv
  clear hd hv
  cases hf : S.f s.data.toList with
  | none =>
    rw [hf] at hlk hby hac hnn HV hrow
    simp only [Option.getD_none, List.length_nil] at hlk hby hac hnn HV hrow
    obtain ⟨rfl, rfl⟩ : a = none ∧ c = 0 := by
      rcases hrow.2 with ⟨e, _⟩ | ⟨g, cap, cur, e, _⟩
      · cases e; exact ⟨rfl, rfl⟩
      · cases e
        have := (hvo g rfl).2.2.2
        rw [hf] at this
        cases this
    go_enter Tryz.func90, Tryz.ntmps90
    go_wp2
    go_ret2
    exact ⟨none, 0, by simp [DG.err, hf], rfl, hby, by simp, b, M, HD.out, HV.out⟩
  | some bs =>
    rw [hf] at hlk hby hac hnn HV hrow
    simp only [Option.getD_some] at hlk hby hac hnn HV hrow
    go_enter Tryz.func90, Tryz.ntmps90
    go_wp2
    go_ret2
    exact ⟨a, c, by simp [DG.err, hf], rfl, hby, hac, hnn, b, M, HD.out, HV.out⟩

/-- what a file holds; nothing, where there is none -/
def DG.bs (S : DG) (l : List UInt8) : List UInt8 := (S.f l).getD []

set_option maxHeartbeats 1000000 in
theorem read_any (p : Nat) (S : DG) (Fp : Nat → Prop) (w : World) (s : ByteArray) (hd : IsDisk w p S Fp) (hs : s.size ≤ maxLen) (hbig : (S.bs s.data.toList).length ≤ 140737488355328) :
    Calls Tryz.prog 67 #[.pointer (some ⟨p, 0, none⟩), .string s] w fun e w' => ∃ a c, e = .returned (.tuple #[.slice a (S.bs s.data.toList).length c, .int .i64 (S.err s.data.toList)]) ∧
      w'.ownsRow w.heap.size 5 1 (.slice a (S.bs s.data.toList).length c) (S.bs s.data.toList).length (cellsOf (S.bs s.data.toList)) ∧ Below w.heap.size w w' ∧ (S.bs s.data.toList).length ≤ c ∧ (a = none → (S.bs s.data.toList).length = 0 ∧ c = 0) := by
  have hx := file_any p S Fp w s hd hs
  change Calls _ _ _ _ fun e w' => ∃ a c, e = .returned (.tuple #[.slice a (S.bs s.data.toList).length c, .int .i64 (S.err s.data.toList)]) ∧ w' = w ∧ Bytes w a (S.bs s.data.toList).length (S.bs s.data.toList) ∧ (S.bs s.data.toList).length ≤ c ∧ (a = none → (S.bs s.data.toList).length = 0 ∧ c = 0) ∧ _ at hx
  generalize S.bs s.data.toList = bs at *
  generalize S.err s.data.toList = er at *
  go_enter Tryz.func67, Tryz.ntmps67
  go_wp2_with fail
  refine hx.mono ?_
  rintro e w1 ⟨a, c, rfl, rfl, hb, hc, hn, _⟩
  go_wp2_with fail
  refine (clone_any a bs.length c bs _ hb hn hbig).mono ?_
  rintro e w2 ⟨a', c', rfl, hown, hB, hnc, hnn⟩
  go_wp2
  go_ret2
  exact ⟨a', c', rfl, hown, hB, hnc, hnn⟩

set_option maxHeartbeats 1000000 in
/-- New: a disk without files -/
theorem new_any (w : World) : Calls Tryz.prog 34 #[] w fun e w' => e = .returned (.pointer (some ⟨w.heap.size + 1, 0, none⟩)) ∧ IsDisk w' (w.heap.size + 1) ⟨fun _ => none, 0, 0, false, 0⟩ (fun k => k = w.heap.size ∨ k = w.heap.size + 1) ∧ Below w.heap.size w w' := by
  have hmm := @run_makeMap Tryz.prog
  go_enter Tryz.func34, Tryz.ntmps34
  go_wp2
  go_ret
  refine ⟨rfl, ⟨w.heap.size, .map [], ?_⟩, ((Below.refl _ _).alloc (Nat.le_refl _) _).alloc (by simp) _⟩
  have hm := World.ownsMap_made w Tryz.prog 9 rv
  refine { c0 := by simp, c1 := by simp, c2 := by simp, c3 := by simp, f1 := by simp, f2 := by simp, f3 := by simp, hl := by simp, pb := by omega, own := hm.alloc _, sz := rfl, has := fun l => rfl, row := by simp, apart := by simp, fp := .inr rfl, fb := .inl rfl, lt := ?_ }
  rintro k (rfl | rfl) <;> simp
  omega

/-- what Append leaves, and what it answers -/
def DG.app (S : DG) (nm l : List UInt8) : DG × Int :=
  if nameB nm = false then (S, 2)
  else if l.length + (S.bs nm).length > 4194304 ∨ (S.f nm = none ∧ 256 ≤ S.n) then (S, 3)
  else if (S.f nm).isSome = true ∧ l = [] then (S, 0)
  else pieces (l.length + 1) S nm l

set_option maxRecDepth 20000 in
set_option maxHeartbeats 1000000 in
theorem append_any (p : Nat) (S : DG) (Fp : Nat → Prop) (w : World) (s : ByteArray) (a : Option Addr) (m c : Nat) (l : List UInt8) (hd : IsDisk w p S Fp) (hs : s.size ≤ maxLen)
    (hb : Bytes w a m l) (hmc : m ≤ c) (hnil : a = none → m = 0 ∧ c = 0) (ha : 0 < m → ∀ x, a = some x → ¬ Fp x.block ∧ x.block < w.heap.size) (hbs : (S.bs s.data.toList).length ≤ 4194304) (hn : S.n ≤ 256) (hw : S.wr < 4000000000000000000) (hm : m ≤ 9223372036854775807) :
    Calls Tryz.prog 107 #[.pointer (some ⟨p, 0, none⟩), .string s, .slice a m c] w fun e w' =>
      e = .returned (.int .i64 (S.app s.data.toList l).2) ∧ IsDisk w' p (S.app s.data.toList l).1 (grow Fp w w') ∧ Turn Fp w w' := by
  have hnm := name_any s w hs
  have hll := hb.1
  have HG : ∀ T : DG, IsDisk w p T Fp → IsDisk w p T (grow Fp w w) ∧ Turn Fp w w := fun T hT => ⟨grow_lt hT hd.lt (fun k hk => .inl hk) (Nat.le_refl _), Turn.refl _ _⟩
  cases hname : nameB s.data.toList with
  | false =>
    rw [hname] at hnm
    have e : S.app s.data.toList l = (S, 2) := by simp [DG.app, hname]
    rw [e]
    have hR := HG S hd
    clear HG hd
    go_enter Tryz.func107, Tryz.ntmps107
    go_wp2_with (go_at_call 140; refine hnm.mono ?_; rintro e w' ⟨rfl, rfl⟩)
    go_ret
    exact ⟨rfl, hR⟩
  | true =>
    rw [hname] at hnm
    obtain ⟨b, M, hD⟩ := hd
    obtain ⟨v, hv, hrow, hvo⟩ := hD.value s.data.toList
    obtain ⟨va, vc, rfl, hac, hnn⟩ := ownsRow_shape hrow
    have hlk := hD.look s hs _ hv
    have c0 := hD.c0
    have hsz := hD.own.len Tryz.underlying120 3
    rw [hD.sz] at hsz
    have hd : IsDisk w p S Fp := ⟨b, M, hD⟩
    have HL : Hid ((S.bs s.data.toList).length = ((S.f s.data.toList).getD []).length) := rfl
    have hpc := pieces_any p S Fp w s a m c l hd hb hmc hnil ha hs
    have hLL : ((S.f s.data.toList).getD []).length = (S.bs s.data.toList).length := rfl
    rw [hLL] at hlk hpc
    clear hv hrow hvo hac hnn hD
    generalize hL : (S.bs s.data.toList).length = L at *
    by_cases hlong : m + L > 4194304
    · have i1 : (4194304 : Int) - L < m := by omega
      have e : S.app s.data.toList l = (S, 3) := by
        unfold DG.app
        rw [if_neg (by simp [hname]), if_pos (.inl (by rw [hL]; omega))]
      rw [e]
      have hR := HG S hd
      clear HG hd hpc
      go_enter Tryz.func107, Tryz.ntmps107
      go_wp2_with (go_at_call 140; refine hnm.mono ?_; rintro e w' ⟨rfl, rfl⟩)
      go_ret
      exact ⟨rfl, hR⟩
    · have i1 : ¬ (4194304 : Int) - L < m := by omega
      have hi1 : (m : Int) ≤ 4194304 - L := by omega
      cases hf : S.f s.data.toList with
      | none =>
        rw [hf] at hlk
        simp only [Option.isSome_none] at hlk
        by_cases hfull : 256 ≤ S.n
        · have i2 : (256 : Int) ≤ (S.n : Int) := by omega
          have e : S.app s.data.toList l = (S, 3) := by
            unfold DG.app
            rw [if_neg (by simp [hname]), if_pos (.inr ⟨hf, hfull⟩)]
          rw [e]
          have hR := HG S hd
          clear HG hd hpc
          go_enter Tryz.func107, Tryz.ntmps107
          go_wp2_with (go_at_call 140; refine hnm.mono ?_; rintro e w' ⟨rfl, rfl⟩)
          go_ret
          exact ⟨rfl, hR⟩
        · have i2 : ¬ (256 : Int) ≤ (S.n : Int) := by omega
          have e : S.app s.data.toList l = pieces (m + 1) S s.data.toList l := by
            unfold DG.app
            rw [if_neg (by simp [hname]), if_neg (by rw [hL, hf]; simp; omega), if_neg (by simp [hf]), hll]
          rw [e]
          have hR := hpc (by omega) (by unfold maxLen; omega) (by omega)
          clear HG hd hpc
          go_enter Tryz.func107, Tryz.ntmps107
          go_wp2_with (first | (go_at_call 140; refine hnm.mono ?_; rintro e w' ⟨rfl, rfl⟩) | (go_at_call 141; refine hR.mono ?_; rintro e w' ⟨rfl, hR2⟩))
          go_ret
          exact ⟨rfl, hR2⟩
      | some bs =>
        rw [hf] at hlk
        simp only [Option.isSome_some] at hlk
        by_cases h0 : m = 0
        · have e : S.app s.data.toList l = (S, 0) := by
            unfold DG.app
            rw [if_neg (by simp [hname]), if_neg (by rw [hL, hf]; simp; omega), if_pos ⟨by simp [hf], List.eq_nil_of_length_eq_zero (by omega)⟩]
          rw [e]
          have hR := HG S hd
          subst h0
          clear HG hd hpc
          go_enter Tryz.func107, Tryz.ntmps107
          go_wp2_with (go_at_call 140; refine hnm.mono ?_; rintro e w' ⟨rfl, rfl⟩)
          go_ret
          exact ⟨rfl, hR⟩
        · have i2 : ¬ (m : Int) = 0 := by omega
          have e : S.app s.data.toList l = pieces (m + 1) S s.data.toList l := by
            unfold DG.app
            rw [if_neg (by simp [hname]), if_neg (by rw [hL, hf]; simp; omega), if_neg (by intro h; exact h0 (by rw [← hll, h.2]; rfl)), hll]
          rw [e]
          have hR := hpc (by omega) (by unfold maxLen; omega) (by omega)
          clear HG hd hpc
          go_enter Tryz.func107, Tryz.ntmps107
          go_wp2_with (first | (go_at_call 140; refine hnm.mono ?_; rintro e w' ⟨rfl, rfl⟩) | (go_at_call 141; refine hR.mono ?_; rintro e w' ⟨rfl, hR2⟩))
          go_ret
          exact ⟨rfl, hR2⟩

end Go.Proofs.YtncagdfbgpdhfaaGreat

/- What a list of payloads is in memory: one array in which they stand one behind the other, and a list of slices of it. -/
namespace Go.Proofs.YtncagdfbgpdhfaaGreat
open Go.RowKit

/-- payload k; none where there is none -/
def rc (rs : List (List UInt8)) (k : Nat) : List UInt8 := rs.getD k []
/-- where payload k begins -/
def poffs (rs : List (List UInt8)) (k : Nat) : Nat := (rs.take k).flatten.length
theorem rc_get (rs : List (List UInt8)) (k : Nat) (h : k < rs.length) : rs[k]? = some (rc rs k) := by
  simp [rc, List.getD, h]
theorem offs_succ (rs : List (List UInt8)) (k : Nat) (h : k < rs.length) : poffs rs (k + 1) = poffs rs k + (rc rs k).length := by
  unfold poffs rc
  rw [List.take_add_one, List.flatten_append, List.length_append, List.getD]
  rw [List.getElem?_eq_getElem h]
  simp
theorem offs_all (rs : List (List UInt8)) : poffs rs rs.length = rs.flatten.length := by unfold poffs; rw [List.take_length]
theorem offs_le (rs : List (List UInt8)) (k : Nat) (h : k < rs.length) : poffs rs k + (rc rs k).length ≤ rs.flatten.length := by
  rw [← offs_succ rs k h]
  unfold poffs
  conv => rhs; rw [← List.take_append_drop (k + 1) rs, List.flatten_append, List.length_append]
  omega
/-- payload k stands in the row from its beginning on -/
theorem flat_sub (rs : List (List UInt8)) (k : Nat) (h : k < rs.length) : (rs.flatten.drop (poffs rs k)).take (rc rs k).length = rc rs k := by
  have e : rs.flatten = (rs.take k).flatten ++ (rc rs k ++ (rs.drop (k + 1)).flatten) := by
    have e0 : rs.drop k = rc rs k :: rs.drop (k + 1) := by rw [List.drop_eq_getElem_cons h]; simp [rc, List.getD, h]
    conv => lhs; rw [← List.take_append_drop k rs, List.flatten_append, e0, List.flatten_cons]
  rw [e]
  unfold poffs
  rw [List.drop_left, List.take_left]
theorem rc_snoc (rs : List (List UInt8)) (l : List UInt8) (k : Nat) (h : k < rs.length) : rc (rs ++ [l]) k = rc rs k := by
  simp [rc, List.getD, List.getElem?_append_left h]
theorem rc_last (rs : List (List UInt8)) (l : List UInt8) : rc (rs ++ [l]) rs.length = l := by simp [rc]
theorem offs_snoc (rs : List (List UInt8)) (l : List UInt8) (k : Nat) (h : k ≤ rs.length) : poffs (rs ++ [l]) k = poffs rs k := by
  unfold poffs; rw [List.take_append_of_le_length h]

/-- slice k of a list leads to payload k, within block g -/
def Elt (g : Nat) (rs : List (List UInt8)) (xs : List Value) (k : Nat) : Prop :=
  ∃ a c, xs[k]? = some (.slice a (rc rs k).length c) ∧ (rc rs k).length ≤ c ∧ (a = none → (rc rs k).length = 0 ∧ c = 0) ∧ (0 < (rc rs k).length → a = some ⟨g, poffs rs k, none⟩)

/-- at place o of block p stands a list of payloads: its array A lies in block g and has na bytes, full; its list is v, with the cells xs -/
structure PayAt (w : World) (p o : Nat) (rs : List (List UInt8)) (g na : Nat) (full : List UInt8) (A v : Value) (xs : List Value) : Prop where
  ca : w.cell? ⟨p, o, none⟩ = some A
  cu : w.cell? ⟨p, o + 1, none⟩ = some (.int .i64 rs.flatten.length)
  cl : w.cell? ⟨p, o + 2, none⟩ = some v
  fa : w.frozen? ⟨p, o, none⟩ = false
  fu : w.frozen? ⟨p, o + 1, none⟩ = false
  fl : w.frozen? ⟨p, o + 2, none⟩ = false
  arr : w.ownsRow 0 5 1 A na (cellsOf full)
  sh : (A = .slice none 0 0 ∧ na = 0) ∨ A = .slice (some ⟨g, 0, none⟩) na na
  pre : full.take rs.flatten.length = rs.flatten
  fit : rs.flatten.length ≤ na
  row : w.ownsRow 0 80 1 v rs.length xs
  el : ∀ k, k < rs.length → Elt g rs xs k
  gp : A.ownBlock = some g → g ≠ p
  vp : v.ownBlock ≠ some p
  gv : A.ownBlock = some g → v.ownBlock ≠ some g

/-- a list of payloads, whose blocks are among those of Fp -/
def IsPay (w : World) (p o : Nat) (rs : List (List UInt8)) (Fp : Nat → Prop) : Prop :=
  ∃ g na full A v xs, PayAt w p o rs g na full A v xs ∧ (∀ k, A.ownBlock = some k → Fp k) ∧ (∀ k, v.ownBlock = some k → Fp k)

/-- the block of a list of payloads is as it was but for its three cells -/
def Rest (p o : Nat) (w w' : World) : Prop := (∀ i, i ≠ o → i ≠ o + 1 → i ≠ o + 2 → w'.cell? ⟨p, i, none⟩ = w.cell? ⟨p, i, none⟩) ∧ (∀ i, w'.frozen? ⟨p, i, none⟩ = w.frozen? ⟨p, i, none⟩)
theorem Rest.trans {p o : Nat} {a b c : World} (h : Rest p o a b) (k : Rest p o b c) : Rest p o a c :=
  ⟨fun i h1 h2 h3 => (k.1 i h1 h2 h3).trans (h.1 i h1 h2 h3), fun i => (k.2 i).trans (h.2 i)⟩
theorem Rest.of_block {p o : Nat} {a b : World} (h : b.heap[p]? = a.heap[p]?) : Rest p o a b :=
  ⟨fun _ _ _ _ => World.cell?_of_block h, fun _ => World.frozen?_of_block h⟩
theorem Rest.setCell {p o : Nat} (w : World) (i : Nat) (v : Value) (hi : i = o ∨ i = o + 1 ∨ i = o + 2) : Rest p o w (w.setCell ⟨p, i, none⟩ v) :=
  ⟨fun k h1 h2 h3 => World.cell?_setCell_other _ _ _ _ (fun e => by cases e; omega), fun k => World.frozen?_setCell _ _ _ _⟩

theorem ownsRow_move' {w w' : World} {e : TypeId} {B n : Nat} {v : Value} {xs : List Value} (h : w.ownsRow B e 1 v n xs) (hb : ∀ g, v.ownBlock = some g → w'.heap[g]? = w.heap[g]?) : w'.ownsRow B e 1 v n xs := by
  refine ⟨h.1, ?_⟩
  rcases h.2 with h0 | ⟨g, cap, cur, rfl, h1, h2, h3⟩
  · exact .inl h0
  · exact .inr ⟨g, cap, cur, rfl, h1, by rw [hb g rfl]; exact h2, h3⟩

theorem PayAt.kept {w w' : World} {p o g na : Nat} {rs : List (List UInt8)} {full : List UInt8} {A v : Value} {xs : List Value} (h : PayAt w p o rs g na full A v xs)
    (hp : w'.heap[p]? = w.heap[p]?) (hA : ∀ k, A.ownBlock = some k → w'.heap[k]? = w.heap[k]?) (hv : ∀ k, v.ownBlock = some k → w'.heap[k]? = w.heap[k]?) : PayAt w' p o rs g na full A v xs :=
  { h with
    ca := by rw [World.cell?_of_block hp]; exact h.ca
    cu := by rw [World.cell?_of_block hp]; exact h.cu
    cl := by rw [World.cell?_of_block hp]; exact h.cl
    fa := by rw [World.frozen?_of_block hp]; exact h.fa
    fu := by rw [World.frozen?_of_block hp]; exact h.fu
    fl := by rw [World.frozen?_of_block hp]; exact h.fl
    arr := ownsRow_move' h.arr hA
    row := ownsRow_move' h.row hv }

theorem PayAt.alt {w : World} {p o g na : Nat} {rs : List (List UInt8)} {full : List UInt8} {A v : Value} {xs : List Value} (h : PayAt w p o rs g na full A v xs) : full.length = na := by
  have := h.arr.1
  rw [cellsOf_length] at this
  omega

/-- the bytes of payload k -/
theorem PayAt.bytes {w : World} {p o g na : Nat} {rs : List (List UInt8)} {full : List UInt8} {A v : Value} {xs : List Value} (h : PayAt w p o rs g na full A v xs) (k : Nat) (hk : k < rs.length) :
    ∃ a c, xs[k]? = some (.slice a (rc rs k).length c) ∧ (rc rs k).length ≤ c ∧ (a = none → (rc rs k).length = 0 ∧ c = 0) ∧ Bytes w a (rc rs k).length (rc rs k) := by
  obtain ⟨a, c, h1, h2, h3, h4⟩ := h.el k hk
  refine ⟨a, c, h1, h2, h3, rfl, fun h0 => ⟨g, poffs rs k, h4 h0, fun i hi => ?_⟩⟩
  have hle := offs_le rs k hk
  have hfit := h.fit
  have hal := h.alt
  rcases h.sh with ⟨_, rfl⟩ | hA
  · omega
  · have harr := h.arr
    rw [hA] at harr
    have hcell := (ownsRow_toBytes harr).1.2 (by omega)
    obtain ⟨b, off, e, hc⟩ := hcell
    cases e
    have := hc (poffs rs k + i) (by omega)
    rw [Nat.zero_add] at this
    rw [this]
    congr 2
    have e1 : bt (rc rs k) i = bt rs.flatten (poffs rs k + i) := by
      conv => lhs; rw [← flat_sub rs k hk]
      rw [bt_take _ _ _ hi, bt_drop]
    have e2 : bt rs.flatten (poffs rs k + i) = bt full (poffs rs k + i) := by
      conv => lhs; rw [← h.pre]
      rw [bt_take _ _ _ (by omega)]
    rw [e1, e2]

/-- the cell of slice k -/
theorem PayAt.cell {w : World} {p o g na : Nat} {rs : List (List UInt8)} {full : List UInt8} {A v : Value} {xs : List Value} (h : PayAt w p o rs g na full A v xs) :
    (v = .slice none 0 0 ∧ rs = []) ∨ ∃ b cap, v = .slice (some ⟨b, 0, none⟩) rs.length cap ∧ rs.length ≤ cap ∧ cap ≤ maxLen ∧ ∀ k x, xs[k]? = some x → w.cell? ⟨b, k, none⟩ = some x := by
  rcases h.row.2 with ⟨h0, h1⟩ | ⟨b, cap, cur, hv, _, _, h3, h4, _⟩
  · exact .inl ⟨h0, List.eq_nil_of_length_eq_zero h1⟩
  · refine .inr ⟨b, cap, hv, h3, h4, fun k x hx => ?_⟩
    have := h.row.cells (g := b) (by rw [hv]; rfl) k x hx
    rw [Addr.add_lit, Nat.zero_add] at this
    exact this

end Go.Proofs.YtncagdfbgpdhfaaGreat

/- What a Journal of the program is in memory, and the walks of its calls that read: Len, Size, Record. -/
namespace Go.Proofs.YtncagdfbgpdhfaaGreat
open Go.RowKit

/-- block j of w is a Journal over the disk in block d, of that file: its records, how many bytes they have, whether it is cut -/
structure JAt (w : World) (j d : Nat) (nm : ByteArray) (rs : List (List UInt8)) (sz : Nat) (cut : Bool) (Fp : Nat → Prop) : Prop where
  c0 : w.cell? ⟨j, 0, none⟩ = some (.pointer (some ⟨d, 0, none⟩))
  c1 : w.cell? ⟨j, 1, none⟩ = some (.string nm)
  pay : IsPay w j 2 rs Fp
  c5 : w.cell? ⟨j, 5, none⟩ = some (.int .i64 sz)
  c6 : w.cell? ⟨j, 6, none⟩ = some (.bool cut)
  f5 : w.frozen? ⟨j, 5, none⟩ = false
  f6 : w.frozen? ⟨j, 6, none⟩ = false
  fj : Fp j
  lt : ∀ k, Fp k → k < w.heap.size
  cnt : rs.length * 9 + rs.flatten.length ≤ sz
  small : sz ≤ 4194304

theorem IsPay.kept {w w' : World} {p o : Nat} {rs : List (List UInt8)} {Fp : Nat → Prop} (h : IsPay w p o rs Fp) (hp : Fp p) (hk : ∀ k, Fp k → w'.heap[k]? = w.heap[k]?) : IsPay w' p o rs Fp := by
  obtain ⟨g, na, full, A, v, xs, h, h1, h2⟩ := h
  exact ⟨g, na, full, A, v, xs, h.kept (hk p hp) (fun k h => hk k (h1 k h)) (fun k h => hk k (h2 k h)), h1, h2⟩

theorem JAt.kept {w w' : World} {j d : Nat} {nm : ByteArray} {rs : List (List UInt8)} {sz : Nat} {cut : Bool} {Fp : Nat → Prop} (h : JAt w j d nm rs sz cut Fp) (hs : w.heap.size ≤ w'.heap.size) (hk : ∀ k, Fp k → w'.heap[k]? = w.heap[k]?) : JAt w' j d nm rs sz cut Fp :=
  { h with
    c0 := by rw [World.cell?_of_block (hk j h.fj)]; exact h.c0
    c1 := by rw [World.cell?_of_block (hk j h.fj)]; exact h.c1
    pay := h.pay.kept h.fj hk
    c5 := by rw [World.cell?_of_block (hk j h.fj)]; exact h.c5
    c6 := by rw [World.cell?_of_block (hk j h.fj)]; exact h.c6
    f5 := by rw [World.frozen?_of_block (hk j h.fj)]; exact h.f5
    f6 := by rw [World.frozen?_of_block (hk j h.fj)]; exact h.f6
    lt := fun k hf => Nat.lt_of_lt_of_le (h.lt k hf) hs }
theorem JAt.turn {w w' : World} {j d : Nat} {nm : ByteArray} {rs : List (List UInt8)} {sz : Nat} {cut : Bool} {Fp Gp : Nat → Prop} (h : JAt w j d nm rs sz cut Fp) (ht : Turn Gp w w') (hd : ∀ k, Fp k → ¬ Gp k) : JAt w' j d nm rs sz cut Fp :=
  h.kept ht.size (fun k hk => ht.block k (h.lt k hk) (hd k hk))
theorem JAt.below {w w' : World} {j d : Nat} {nm : ByteArray} {rs : List (List UInt8)} {sz : Nat} {cut : Bool} {Fp : Nat → Prop} (h : JAt w j d nm rs sz cut Fp) (hB : Below w.heap.size w w') : JAt w' j d nm rs sz cut Fp :=
  h.turn (Turn.of_below (fun _ => False) hB) (fun _ _ => id)

end Go.Proofs.YtncagdfbgpdhfaaGreat
