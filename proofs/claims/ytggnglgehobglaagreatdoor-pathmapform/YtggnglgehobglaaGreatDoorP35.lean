import Derived.Test.YtggnglgehobglaaGreatDoorP34
import Derived.Test.YtggnglgehobglaaGreatDoorP32
import Derived.Shelf.Strings.Builder1
import Derived.Shelf.Small.Bits
import Derived.Shelf.Small.Strs
import Derived.Shelf.Small.Wraps
import Derived.Shelf.Strings.BuilderF
import Derived.Shelf.Strings.BuilderK
import Derived.Shelf.Utf8.AppendRunePlain
import Derived.Shelf.Strconv.Itoa0
import Derived.Shelf.Strings.Search1
import Derived.Shelf.Strings.Prefix
import Derived.Shelf.Unicode.DecodeSlow
import Derived.Shelf.Unicode.DecodeAny
import Derived.Ground.SlsfProg
import Derived.Shelf.SlSortCmp.Insertion
import Derived.Shelf.SlSortCmp.SiftDown1
import Derived.Shelf.SlSortCmp.HeapSort1
import Derived.Shelf.SlSortCmp.Insertion1
import Derived.Shelf.SlSortCmp.Median1
import Derived.Shelf.SlSortCmp.Pivot1
import Derived.Shelf.SlSortCmp.ReverseRange1
import Derived.Shelf.SlSortCmp.PartialInsertion1
import Derived.Shelf.SlSortCmp.PartitionEqual1
import Derived.Shelf.SlSortCmp.Partition1
import Derived.Shelf.SlSortCmp.Pdq1
import Derived.Shelf.SlSortCmp.Whole1
import Derived.Test.YtggnglgehobglaaGreatDoorProg
import Derived.Test.YtggnglgehobglaaGreatDoorP01
import Derived.Outline
/- What PathmapForm asks, plain; New of a one form, of rules turned about. -/
namespace Go.Proofs.YtggnglgehobglaaGreatDoor
open Go.RowKit Go.Shelf Go.Maps

theorem besE_zero {r : Ru} {l : List Ru} (h1 : okR r = true) (h2 : ∀ s ∈ l, s.2.1 ≠ r.2.1) (h3 : ∀ s ∈ l, agrR r s = true) : besE r l = 0 := by
  unfold besE
  rw [if_neg (by rw [h1]; decide), if_neg (fun h => ?_), if_neg (fun h => ?_)]
  · obtain ⟨s, hs, e⟩ := List.any_eq_true.1 h
    rw [h3 s hs] at e
    cases e
  · obtain ⟨s, hs, e⟩ := List.any_eq_true.1 h
    exact h2 s hs (of_decide_eq_true e)
theorem can_ok {r : Ru} (hp : PthR r) (hc : r = canR r.2.1 (cls r)) : okR r = true := by
  have hk : KdR r := by
    rw [hc]
    unfold canR
    cases cls r with
    | none => exact .inr ⟨.inr rfl, rfl⟩
    | some T =>
      show KdR (if glue T = r.2.1 then (1, r.2.1, []) else (3, r.2.1, glue T))
      split
      · exact .inr ⟨.inl rfl, rfl⟩
      · exact .inl rfl
  unfold okR
  rw [hp.1, hp.2]
  unfold KdR at hk
  simpa using hk
theorem FormU.okR {F : List Ru} (hU : FormU F) (hF : FOk F) : ∀ r ∈ F, okR r = true := fun r hr => can_ok (hF r hr) (hU.can r hr)
theorem fol_of {r s : Ru} (h : restP r.2.1 s.2.1 = restP (tgtR r) (tgtR s)) : folR r s = true := by
  unfold folR
  simpa using h
/-- rules that may stand beside each other, two by two -/
structure Bes (F : List Ru) : Prop where
  ok : ∀ r ∈ F, okR r = true
  fr : FrU F
  agr : AgrF F
theorem Bes.good {F : List Ru} (h : Bes F) : GoodU F F.length := fun j r hj hr => by
  have hm := List.mem_of_getElem? hr
  have hin : ∀ s ∈ F.take j, s ∈ F := fun s hs => List.mem_of_mem_take hs
  refine besE_zero (h.ok r hm) (fun s hs => ?_) (fun s hs => ?_)
  · obtain ⟨i, hi, rfl⟩ := List.getElem_of_mem hs
    have hij : i < j := by rw [List.length_take] at hi; omega
    obtain ⟨hj', rfl⟩ := List.getElem?_eq_some_iff.1 hr
    rw [List.getElem_take]
    exact List.pairwise_iff_getElem.1 h.fr i j (by omega) hj' hij
  · unfold agrR
    cases lr : letsK r.1 with
    | false => rfl
    | true =>
      cases ls : letsK s.1 with
      | false => rfl
      | true =>
        rw [fol_of (h.agr r hm s (hin s hs) lr ls), fol_of (h.agr s (hin s hs) r hm ls lr)]
        rfl
theorem bes_of {F : List Ru} (h : GoodU F F.length) : Bes F := by
  refine ⟨fun r hr => ?_, ?_, agr_rules rfl h⟩
  · obtain ⟨i, hi, e⟩ := List.getElem_of_mem hr
    exact (besE_ok (h i r hi (List.getElem?_eq_some_iff.2 ⟨hi, e⟩))).1
  · unfold FrU
    rw [List.pairwise_iff_getElem]
    intro i j hi hj hij
    exact (besE_ok (h j F[j] hj (List.getElem?_eq_some_iff.2 ⟨hj, rfl⟩))).2.1 F[i] (List.mem_of_getElem? (i := i) (by rw [List.getElem?_take_of_lt hij]; exact List.getElem?_eq_some_iff.2 ⟨hi, rfl⟩))
theorem FormU.bes {F : List Ru} (hU : FormU F) (hF : FOk F) : Bes F := ⟨hU.okR hF, hU.fr, agH_agrF hF hU.fr hU.agr⟩
theorem Bes.rev {F : List Ru} (h : Bes F) : Bes F.reverse := by
  refine ⟨fun r hr => h.ok r (List.mem_reverse.1 hr), ?_, fun r hr s hs lr ls => h.agr r (List.mem_reverse.1 hr) s (List.mem_reverse.1 hs) lr ls⟩
  unfold FrU
  rw [List.pairwise_reverse]
  exact h.fr.imp fun h => Ne.symm h
theorem tab_rev {F : List Ru} (h : FrU F) (h' : FrU F.reverse) : tabL F.reverse = tabL F := by
  funext x
  cases e : tabL F x with
  | some r => exact (tabL_iff h' x r).2 ⟨List.mem_reverse.2 ((tabL_iff h x r).1 e).1, ((tabL_iff h x r).1 e).2⟩
  | none =>
    cases e2 : tabL F.reverse x with
    | none => rfl
    | some r =>
      have := (tabL_iff h x r).2 ⟨List.mem_reverse.1 ((tabL_iff h' x r).1 e2).1, ((tabL_iff h' x r).1 e2).2⟩
      rw [this] at e
      cases e
/-- the one form of a one form -/
theorem form_again {F : List Ru} (hU : FormU F) (hF : FOk F) {ks : List (List UInt8)} (hK : KeyL (tabL F) ks) : formT (tabL F) ks = F := by
  have hV := new_formU rfl (hU.bes hF).good hK
  refine hV.eq hU (fun A => ?_)
  rw [show hT (tabL (formT (tabL F) ks)) = foH (hT (tabL F)) from funext (form_fo hU.tok hK), fo_im hU.agr]
/-- the one form of rules turned about -/
theorem form_turned {cs : List Ru} (h : Bes cs) {ks kt : List (List UInt8)} (hK : KeyL (tabL cs) ks) (hT' : KeyL (tabL cs.reverse) kt) : formT (tabL cs.reverse) kt = formT (tabL cs) ks := by
  have hF := tabL_pth rfl h.good
  have hV := new_formU rfl h.good hK
  have hW := new_formU rfl h.rev.good hT'
  refine hW.eq hV (fun A => ?_)
  have hR := tabL_pth rfl h.rev.good
  rw [show hT (tabL (formT (tabL cs.reverse) kt)) = foH (hT (tabL cs.reverse)) from funext (form_fo (fOk_tok hR) hT'), show hT (tabL (formT (tabL cs) ks)) = foH (hT (tabL cs)) from funext (form_fo (fOk_tok hF) hK), tab_rev h.fr h.rev.fr]
/-- New of rules that may be -/
theorem new_good (w : World) (ad : Option Addr) (n c : Nat) (cs : List Ru) (hl : Rus w ad n cs) (hnc : n ≤ c) (hb : Bes cs) (hn : cs.length ≤ 64) :
    Calls Tryz.prog 20 #[.slice ad n c] w fun e w' => (∃ m ks, e = .returned (.tuple #[.pointer (some ⟨m, 0, none⟩), .agg #[.int .i64 0, .int .i64 0]]) ∧ MpAt w' m (formT (tabL cs) ks) ∧ KeyL (tabL cs) ks) ∧ Below w.heap.size w w' := by
  have hlen := hl.1
  refine (new_any w ad n c cs hl hnc (by omega) (fun r hr => by
    have h1 := okR_pth (hb.ok r hr)
    have h2 := isP_len h1.1
    have h3 := isP_len h1.2
    omega)).mono ?_
  rintro e w' ⟨hN, hB⟩
  refine ⟨?_, hB⟩
  rcases hN with ⟨h64, _⟩ | ⟨_, k, r, hr, hne, _, _⟩ | ⟨_, _, m, ks, he, hM, hK⟩
  · omega
  · exact absurd (hb.good k r (List.getElem?_eq_some_iff.1 hr).1 hr) hne
  · exact ⟨m, ks, he, hM, hK⟩
/-- a rule's own image -/
theorem own_img {F : List Ru} (hU : FormU F) (hF : FOk F) {r : Ru} (hr : r ∈ F) : imgL F r.2.1 = none ∨ ∃ x, imgL F r.2.1 = some x ∧ isP x = true := by
  have hg := frN_good (hF r hr)
  have h1 := hU.img hg
  rw [glue_fr] at h1
  rw [h1, imN_up, hT_mem hU hr]
  show (cls r).map glue = none ∨ _
  unfold cls
  split
  · exact .inr ⟨tgtR r, congrArg some (glue_to r), tgtR_isP (hF r hr)⟩
  · exact .inl rfl
theorem thr_inj {l : List UInt8} {R S : Option (List UInt8)} (hl : isP l = true) (hR : R = none ∨ ∃ x, R = some x ∧ isP x = true) (h : thr l R = thr l S) : R = S := by
  unfold thr at h
  rw [if_neg (by rw [hl]; decide), if_neg (by rw [hl]; decide)] at h
  rcases hR with rfl | ⟨x, rfl, hx⟩
  · cases S with
    | none => rfl
    | some y =>
      simp only at h
      split at h <;> cases h
  · simp only at h
    rw [if_pos hx] at h
    cases S with
    | none => cases h
    | some y =>
      simp only at h
      split at h
      · cases h; rfl
      · cases h
theorem form_told {F G : List Ru} (hF : FormU F) (hG : FormU G) (hFo : FOk F) (hGo : FOk G) (h : ∀ r ∈ F ++ G, thr r.2.1 (imgL F r.2.1) = thr r.2.1 (imgL G r.2.1)) : F = G := by
  refine keys_eq hF hG (fun r hr => ?_)
  have h1 := h r (List.mem_append.2 hr)
  rcases hr with hr | hr
  · exact thr_inj (hFo r hr).1 (own_img hF hFo hr) h1
  · exact (thr_inj (hGo r hr).1 (own_img hG hGo hr) h1.symm).symm
end Go.Proofs.YtggnglgehobglaaGreatDoor

/- The kit's contracts on functions of Go's library, laid at this translation by the kit's own command, in plain words. -/
namespace Go.Proofs.YtggnglgehobglaaGreatDoor
open Go.Shelf
def Tryz.lays137_ren : Go.Shelf.Ren := ⟨fun | 137 => 137 | 217 => 140 | 266 => 141 | n => n, fun | 9 => 9 | 5 => 5 | 3 => 3 | n => n, fun | n => n⟩
theorem Tryz.lays137 : Go.Proofs.Lays.n137 Tryz.prog Tryz.lays137_ren := {
  mixed := by kernel_rfl
  f137 := Tryz.func137.trans (congrArg some (by kernel_rfl))
  f217 := Tryz.func140.trans (congrArg some (by kernel_rfl))
  f266 := Tryz.func141.trans (congrArg some (by kernel_rfl))
  t3 := Tryz.underlying3
  a3 := Tryz.isAgg3
  z3 := Tryz.sizeOf3
  v3 := Tryz.zeroValue3
  t5 := Tryz.underlying5
  a5 := Tryz.isAgg5
  z5 := Tryz.sizeOf5
  v5 := Tryz.zeroValue5
  t9 := Tryz.underlying9
  a9 := Tryz.isAgg9
  z9 := Tryz.sizeOf9
  v9 := Tryz.zeroValue9 }
open Go.RowKit in
theorem Tryz.strings_IndexByte (s : ByteArray) (c : Int) (w : World) :
    Calls Tryz.prog 137 #[.string s, .int .u8 c] w fun e w' => e = .returned (.int .i64 (Lib.indexByte s.data.toList c.toNat.toUInt8)) ∧ w' = w := Any.strings_IndexByte Tryz.lays137 s c w
def Tryz.lays103_ren : Go.Shelf.Ren := ⟨fun | 103 => 63 | 210 => 85 | 206 => 84 | n => n, fun | 9 => 9 | 4 => 4 | 24 => 62 | 3 => 3 | n => n, fun | n => n⟩
theorem Tryz.lays103 : Go.Proofs.Lays.n103 Tryz.prog Tryz.lays103_ren := {
  mixed := by kernel_rfl
  f103 := Tryz.func63.trans (congrArg some (by kernel_rfl))
  f206 := Tryz.func84.trans (congrArg some (by kernel_rfl))
  f210 := Tryz.func85.trans (congrArg some (by kernel_rfl))
  t3 := Tryz.underlying3
  a3 := Tryz.isAgg3
  z3 := Tryz.sizeOf3
  v3 := Tryz.zeroValue3
  t4 := Tryz.underlying4
  a4 := Tryz.isAgg4
  z4 := Tryz.sizeOf4
  v4 := Tryz.zeroValue4
  t9 := Tryz.underlying9
  a9 := Tryz.isAgg9
  z9 := Tryz.sizeOf9
  v9 := Tryz.zeroValue9
  t24 := Tryz.underlying62
  a24 := Tryz.isAgg62
  z24 := Tryz.sizeOf62
  v24 := Tryz.zeroValue62 }
open Go.RowKit in
theorem Tryz.strings_CutPrefix (s p : ByteArray) (w : World) :
    Calls Tryz.prog 63 #[.string s, .string p] w fun e w' => e = .returned (.tuple #[.string ⟨(Lib.trimPrefix s.data.toList p.data.toList).toArray⟩, .bool (Lib.hasPrefix s.data.toList p.data.toList)]) ∧ w' = w := Any.strings_CutPrefix Tryz.lays103 s p w
def Tryz.lays104_ren : Go.Shelf.Ren := ⟨fun | 104 => 110 | 211 => 126 | 207 => 136 | n => n, fun | 9 => 9 | 4 => 4 | 24 => 62 | 3 => 3 | n => n, fun | n => n⟩
theorem Tryz.lays104 : Go.Proofs.Lays.n104 Tryz.prog Tryz.lays104_ren := {
  mixed := by kernel_rfl
  f104 := Tryz.func110.trans (congrArg some (by kernel_rfl))
  f207 := Tryz.func136.trans (congrArg some (by kernel_rfl))
  f211 := Tryz.func126.trans (congrArg some (by kernel_rfl))
  t3 := Tryz.underlying3
  a3 := Tryz.isAgg3
  z3 := Tryz.sizeOf3
  v3 := Tryz.zeroValue3
  t4 := Tryz.underlying4
  a4 := Tryz.isAgg4
  z4 := Tryz.sizeOf4
  v4 := Tryz.zeroValue4
  t9 := Tryz.underlying9
  a9 := Tryz.isAgg9
  z9 := Tryz.sizeOf9
  v9 := Tryz.zeroValue9
  t24 := Tryz.underlying62
  a24 := Tryz.isAgg62
  z24 := Tryz.sizeOf62
  v24 := Tryz.zeroValue62 }
open Go.RowKit in
theorem Tryz.strings_CutSuffix (s p : ByteArray) (w : World) (hs : s.size ≤ 9223372036854775807) :
    Calls Tryz.prog 110 #[.string s, .string p] w fun e w' => e = .returned (.tuple #[.string ⟨(Lib.trimSuffix s.data.toList p.data.toList).toArray⟩, .bool (Lib.hasSuffix s.data.toList p.data.toList)]) ∧ w' = w := Any.strings_CutSuffix Tryz.lays104 s p w hs
def Tryz.lays242_ren : Go.Shelf.Ren := ⟨fun | 242 => 128 | 278 => 138 | n => n, fun | 37 => 66 | 21 => 21 | 51 => 138 | 4 => 4 | 5 => 5 | 46 => 120 | n => n, fun | n => n⟩
theorem Tryz.lays242 : Go.Proofs.Lays.n242 Tryz.prog Tryz.lays242_ren := {
  mixed := by kernel_rfl
  f242 := Tryz.func128.trans (congrArg some (by kernel_rfl))
  f278 := Tryz.func138.trans (congrArg some (by kernel_rfl))
  t4 := Tryz.underlying4
  a4 := Tryz.isAgg4
  z4 := Tryz.sizeOf4
  v4 := Tryz.zeroValue4
  t5 := Tryz.underlying5
  a5 := Tryz.isAgg5
  z5 := Tryz.sizeOf5
  v5 := Tryz.zeroValue5
  t21 := Tryz.underlying21
  a21 := Tryz.isAgg21
  z21 := Tryz.sizeOf21
  v21 := Tryz.zeroValue21
  t37 := Tryz.underlying66
  a37 := Tryz.isAgg66
  z37 := Tryz.sizeOf66
  v37 := Tryz.zeroValue66
  t46 := Tryz.underlying120
  a46 := Tryz.isAgg120
  z46 := Tryz.sizeOf120
  v46 := Tryz.zeroValue120
  t51 := Tryz.underlying138
  a51 := Tryz.isAgg138
  z51 := Tryz.sizeOf138
  v51 := Tryz.zeroValue138 }
open Go.RowKit in
theorem Tryz.utf8_AppendRune_plain (B : Nat) (v : Value) (n : Nat) (xs : List Value) (r : Int) (hr0 : -2147483648 ≤ r) (hr1 : r ≤ 2147483647) (w : World) (hown : w.ownsRow B 5 1 v n xs) (hlen : n + 4 ≤ 140737488355328) (hBw : B ≤ w.heap.size) :
    Calls Tryz.prog 128 #[v, .int .i32 r] w fun e w' => ∃ v', e = .returned v' ∧ w'.ownsRow B 5 1 v' (n + (Lib.runeCells r).length) (xs ++ Lib.runeCells r) ∧ ∃ o, (w.alloc o).grownBy w' v.ownBlock := Any.utf8_AppendRune_plain Tryz.lays242 (by kernel_rfl) B v n xs r hr0 hr1 w hown hlen hBw
def Tryz.lays197_ren : Go.Shelf.Ren := ⟨fun | 197 => 125 | 260 => 135 | n => n, fun | 9 => 9 | 21 => 21 | 3 => 3 | 4 => 4 | 5 => 5 | 105 => 142 | 119 => 157 | 0 => 0 | 46 => 120 | 139 => 160 | 138 => 159 | n => n, fun | 3 => 0 | 4 => 1 | n => n⟩
theorem Tryz.lays197 : Go.Proofs.Lays.n197 Tryz.prog Tryz.lays197_ren := {
  mixed := by kernel_rfl
  f197 := Tryz.func125.trans (congrArg some (by kernel_rfl))
  f260 := Tryz.func135.trans (congrArg some (by kernel_rfl))
  t0 := Tryz.underlying0
  a0 := Tryz.isAgg0
  z0 := Tryz.sizeOf0
  v0 := Tryz.zeroValue0
  t3 := Tryz.underlying3
  a3 := Tryz.isAgg3
  z3 := Tryz.sizeOf3
  v3 := Tryz.zeroValue3
  t4 := Tryz.underlying4
  a4 := Tryz.isAgg4
  z4 := Tryz.sizeOf4
  v4 := Tryz.zeroValue4
  t5 := Tryz.underlying5
  a5 := Tryz.isAgg5
  z5 := Tryz.sizeOf5
  v5 := Tryz.zeroValue5
  t9 := Tryz.underlying9
  a9 := Tryz.isAgg9
  z9 := Tryz.sizeOf9
  v9 := Tryz.zeroValue9
  t21 := Tryz.underlying21
  a21 := Tryz.isAgg21
  z21 := Tryz.sizeOf21
  v21 := Tryz.zeroValue21
  t46 := Tryz.underlying120
  a46 := Tryz.isAgg120
  z46 := Tryz.sizeOf120
  v46 := Tryz.zeroValue120
  t105 := Tryz.underlying142
  a105 := Tryz.isAgg142
  z105 := Tryz.sizeOf142
  v105 := Tryz.zeroValue142
  t119 := Tryz.underlying157
  a119 := Tryz.isAgg157
  z119 := Tryz.sizeOf157
  t138 := Tryz.underlying159
  a138 := Tryz.isAgg159
  z138 := Tryz.sizeOf159
  v138 := Tryz.zeroValue159
  t139 := Tryz.underlying160
  a139 := Tryz.isAgg160
  z139 := Tryz.sizeOf160
  v139 := Tryz.zeroValue160
  g3 := by kernel_rfl
  g4 := by kernel_rfl }
open Go.RowKit Go.Lib in
theorem Tryz.utf8_DecodeRuneInString (s : ByteArray) (w : World) (hT : Lib.Utf8Tabs 0 1 w) :
    Calls Tryz.prog 125 #[.string s] w fun e w' => e = .returned (.tuple #[.int .i32 (Lib.decodeGo s).1, .int .i64 (Lib.decodeGo s).2]) ∧ Below w.heap.size w w' := Any.utf8_DecodeRuneInString Tryz.lays197 s w hT
end Go.Proofs.YtggnglgehobglaaGreatDoor

/- Bytes turned into a string; what the program says of a byte's type. -/
namespace Go.Proofs.YtggnglgehobglaaGreatDoor
open Go.RowKit

theorem Tryz.info5 : (Tryz.prog.info? 5).map (fun i => (i.zero, i.size, i.bytes)) = some (some (.int .u8 0), 1, 1) := by kernel_rfl

theorem fold_push (l : List UInt8) : ∀ acc : ByteArray, (l.map fun c => (c.toNat : Int)).foldl (fun r n => r.push (UInt8.ofNat n.toNat)) acc = ⟨acc.data ++ l.toArray⟩ := by
  induction l with
  | nil => intro acc; simp
  | cons c l ih =>
    intro acc
    rw [List.map_cons, List.foldl_cons, ih]
    congr 1
    simp [ByteArray.push]

theorem run_string (w : World) (a : Option Addr) (n cap : Nat) (l : List UInt8) (hb : Bytes w a n l) :
    (convert 66 9 (.slice a n cap)).run Tryz.prog w = .ok (.string ⟨l.toArray⟩) w := by
  rw [run_convert_bytes_string w 66 9 5 a n cap Tryz.underlying66 Tryz.underlying5 Tryz.underlying9]
  cases a with
  | none =>
    have h0 : n = 0 := by
      by_cases h : n = 0
      · exact h
      · obtain ⟨b, off, hx, _⟩ := hb.2 (by omega)
        cases hx
    have hl : l = [] := List.eq_nil_of_length_eq_zero (by rw [hb.1]; exact h0)
    subst hl
    simp [Conv.bytesToString, Sem.run_pure]
    rfl
  | some x =>
    have hld : (loadCells x n).run Tryz.prog w = .ok ((l.map fun c => (c.toNat : Int)).map (Value.int .u8)).toArray w := by
      have hrun := run_loadCells_list (P := Tryz.prog) w x (cellsOf l) (fun j v hj => ?_)
      · rw [cellsOf_length, hb.1] at hrun
        rw [hrun]
        simp [cellsOf]
      · have hjl : j < l.length := by have := (List.getElem?_eq_some_iff.1 hj).1; rw [cellsOf_length] at this; exact this
        have hl := hb.1
        obtain ⟨b, off, hx, hc⟩ := hb.2 (by omega)
        obtain rfl := Option.some.inj hx
        rw [cellsOf_get l j hjl] at hj
        rw [Addr.add_lit, hc j (by omega)]
        exact hj
    rw [run_bytesToString w x n cap _ hld, fold_push]
    simp

end Go.Proofs.YtggnglgehobglaaGreatDoor
