import Derived.Test.YtggnglgehobglaaGreatDoorP18
import Derived.Test.YtggnglgehobglaaGreatDoorP22
import Derived.Test.YtggnglgehobglaaGreatDoorP11
import Derived.Test.YtggnglgehobglaaGreatDoorP21
import Derived.Sort.OwnSorted
import Derived.RangeFuncBound
import Derived.Test.YtggnglgehobglaaGreatDoorP10
import Derived.Laws.AppendOwnNone
/- slices.SortedFunc of a table's keys by name.Compare: each From once, in order. -/
namespace Go.Proofs.YtggnglgehobglaaGreatDoor
open Go.RowKit Go.Shelf Go.Lib Go.Maps

attribute [local go_sem] Oper.semAt_some

/-- a text that Compare takes -/
abbrev Pth := {l : List UInt8 // l.length ≤ 1000000}
instance : Inhabited Pth := ⟨⟨[], Nat.zero_le _⟩⟩
def encP (p : Pth) : Value := encStr p.1
def cfP (a b : Pth) : Int := ordP a.1 b.1
theorem ltP (a b : Pth) : ltOf cfP a b = decide (ordP a.1 b.1 < 0) := rfl
theorem swoP : Sort.SWO (ltOf cfP) := by
  refine ⟨fun x => ?_, fun x y z h1 h2 => ?_, fun x y z h1 h2 => ?_⟩
  · rw [ltP, (ordP_zero _ _).2 rfl]
    decide
  · rw [ltP, decide_eq_true_eq] at *
    have h3 := ordP_trans x.1 y.1 z.1 (by omega) (by omega)
    by_cases h4 : ordP x.1 z.1 = 0
    · have e := (ordP_zero _ _).1 h4
      rw [← e, ordP_neg x.1 y.1] at h2
      omega
    · omega
  · rw [ltP, decide_eq_false_iff_not] at *
    have := ordP_trans' x.1 y.1 z.1 (by omega) (by omega)
    omega
theorem lod_grow {W w' : World} (h : LoD W.heap.size W w') : ∃ q os', w' = Sort.grow (W.drewN q) os' := by
  obtain ⟨⟨h1, h2, h3, h4, h5⟩, h6⟩ := h
  refine ⟨w'.drawn - W.drawn, w'.heap.extract W.heap.size w'.heap.size, ?_⟩
  obtain ⟨hp, tp, dr, o, ou⟩ := w'
  obtain ⟨hp0, tp0, dr0, o0, ou0⟩ := W
  simp only at h1 h2 h3 h4 h5 h6 ⊢
  subst h1 h2 h3
  have e1 : dr0 + (dr - dr0) = dr := by omega
  have e2 : hp0 ++ hp.extract hp0.size hp.size = hp := by
    apply Array.ext_getElem?
    intro k
    by_cases hk : k < hp0.size
    · rw [Array.getElem?_append_left hk, h5 k hk]
    · rw [Array.getElem?_append_right (by omega), Array.getElem?_extract]
      by_cases hk2 : k < hp.size
      · rw [if_pos (by omega)]
        congr 1
        omega
      · rw [if_neg (by omega), Array.getElem?_eq_none (by omega)]
  simp only [Sort.grow, World.drewN, e1, e2]
theorem bs_enc (l : List UInt8) : bs ⟨l.toArray⟩ = l := by simp [bs]
theorem cmpP (blk off size : Nat) (w : World) : CmpLays1 Tryz.prog 55 #[] encP cfP blk off size w := fun m os dk _ x y => by
  have h := dCompare_any ⟨x.1.toArray⟩ ⟨y.1.toArray⟩ (sortWorld encP w blk off m dk os) (by show x.1.toArray.size ≤ _; simpa using x.2) (by show y.1.toArray.size ≤ _; simpa using y.2)
  refine Calls.mono h ?_
  rintro e w' ⟨rfl, hL⟩
  exact ⟨by rw [bs_enc, bs_enc]; rfl, lod_grow hL⟩
theorem nodupT {w : World} {b n : Nat} {M : DataW Value} (h : w.ownsMap Tryz.prog 9 rvT b n M) : (strKeys M).Nodup ∧ ∀ x, x ∈ strKeys M ↔ has M (.string x) = true := by
  obtain ⟨es, hD, hpw, _⟩ := h.entries keyedT
  obtain ⟨es', hD', hko⟩ := h.keysOf
  obtain rfl : es = es' := by rw [hD] at hD'; simpa using hD'
  subst hD
  have hk : ∀ q ∈ es, ∃ x, q.1 = .string x := fun q hq => by
    obtain ⟨v, hv⟩ := hko q hq
    obtain ⟨x, _, hx, _⟩ := Maps.keyOf_str Tryz.underlying9 hv
    exact ⟨x, hx⟩
  constructor
  · show (es.map fun q => strOf q.1).Nodup
    refine List.pairwise_map.2 (hpw.imp_of_mem fun {q r} hq hr hne e => hne ?_)
    obtain ⟨x, hx⟩ := hk q hq
    obtain ⟨y, hy⟩ := hk r hr
    rw [hx, hy] at e ⊢
    exact congrArg _ e
  · intro x
    rw [has_eq, List.any_eq_true]
    show x ∈ es.map (fun q => strOf q.1) ↔ _
    rw [List.mem_map]
    constructor
    · rintro ⟨q, hq, rfl⟩
      obtain ⟨y, hy⟩ := hk q hq
      exact ⟨q, hq, by rw [hy]; simp [Lit.sameKey, strOf]⟩
    · rintro ⟨q, hq, hs⟩
      obtain ⟨y, hy⟩ := hk q hq
      rw [hy] at hs
      exact ⟨q, hq, by rw [hy]; simpa [Lit.sameKey, strOf] using hs⟩
theorem lenT {w : World} {b n : Nat} {M : DataW Value} (h : w.ownsMap Tryz.prog 9 rvT b n M) : (strKeys M).length = size M := by
  obtain ⟨es, rfl⟩ := h.isMap
  simp [strKeys, size]

/-- texts as Compare takes them -/
def toP : (ss : List (List UInt8)) → (∀ x ∈ ss, x.length ≤ 1000000) → List Pth
  | [], _ => []
  | x :: xs, h => ⟨x, h x (by simp)⟩ :: toP xs fun y hy => h y (by simp [hy])
theorem toP_map (ss : List (List UInt8)) (h : ∀ x ∈ ss, x.length ≤ 1000000) : (toP ss h).map (·.1) = ss := by
  induction ss with
  | nil => rfl
  | cons x xs ih => simp only [toP, List.map_cons, ih]
theorem toP_enc (ss : List (List UInt8)) (h : ∀ x ∈ ss, x.length ≤ 1000000) : (toP ss h).map encP = ss.map encStr := by
  conv => rhs; rw [← toP_map ss h]
  rw [List.map_map]
  rfl
theorem toP_len (ss : List (List UInt8)) (h : ∀ x ∈ ss, x.length ≤ 1000000) : (toP ss h).length = ss.length := by
  conv => rhs; rw [← toP_map ss h]
  rw [List.length_map]
theorem getP (d : List Pth) (k : Nat) (hk : k < d.length) : (d.toArray[k]! : Pth).1 = (d.map (·.1)).toArray[k]! := by
  rw [getElem!_pos d.toArray k (by simpa using hk), getElem!_pos (d.map (·.1)).toArray k (by simpa using hk)]
  simp
theorem putRow_P (w : World) (blk : Nat) (d : List Pth) : Sort.putRow encP w blk 0 d.toArray = Sort.putRow encStr w blk 0 (d.map (·.1)).toArray := by
  unfold Sort.putRow
  congr 1
  funext c
  unfold Sort.putCells
  congr 1
  funext k x
  have hl : (d.map (·.1)).toArray.size = d.toArray.size := by simp
  rw [hl]
  by_cases h : 0 ≤ k ∧ k < 0 + d.toArray.size
  · rw [if_pos h, if_pos h]
    show encStr (d.toArray[k - 0]! : Pth).1 = _
    rw [getP d (k - 0) (by simpa using h.2)]
  · rw [if_neg h, if_neg h]
theorem holdsP {w : World} {g : Nat} {cur : Array Value} {e : TypeId} {ss : List (List UInt8)} (h : ∀ x ∈ ss, x.length ≤ 1000000) (hb : w.heap[g]? = some (.cells cur e (0, 0))) (ht : cur.toList.take ss.length = ss.map encStr) : Sort.Holds encP w g 0 (toP ss h).toArray := by
  have H := holds_of_block hb ht
  intro j hj
  have hj1 : j < (toP ss h).length := by simpa using hj
  have hj2 : j < ss.length := by rw [toP_len] at hj1; exact hj1
  obtain ⟨a, b⟩ := H j (by simpa using hj2)
  refine ⟨?_, b⟩
  rw [a]
  show some (encStr _) = some (encStr _)
  rw [getP _ j hj1, toP_map]
/-- these are the table's Froms, each once, in order -/
structure KeyL (g : Tb) (ks : List (List UInt8)) : Prop where
  nd : ks.Nodup
  mem : ∀ x, x ∈ ks ↔ (g x).isSome = true
  ord : ks.Pairwise fun x y => ordP x y ≤ 0
theorem sorted_pw (d' : Array Pth) (h : Sort.SortedIn (ltOf cfP) 0 d'.size d') : (d'.toList.map (·.1)).Pairwise fun x y => ordP x y ≤ 0 := by
  rw [List.pairwise_map, List.pairwise_iff_getElem]
  intro i j hi hj hij
  have hi' : i < d'.size := by simpa using hi
  have hj' : j < d'.size := by simpa using hj
  have := h i j (Nat.zero_le _) hij hj'
  rw [ltP, decide_eq_false_iff_not, getElem!_pos d' j hj', getElem!_pos d' i hi'] at this
  have e := ordP_neg (d'[j]).1 (d'[i]).1
  simp only [Array.getElem_toList]
  omega
end Go.Proofs.YtggnglgehobglaaGreatDoor

/- slices.SortedFunc over maps.Keys of a table, by name.Compare: the walks. -/
namespace Go.Proofs.YtggnglgehobglaaGreatDoor
open Go.RowKit Go.Shelf Go.Lib Go.Maps

attribute [local go_sem] Oper.semAt_some

set_option maxHeartbeats 2000000 in
theorem insNone (p : Option Addr) (cap : Nat) (fv : Value) (w : World) :
    Calls Tryz.prog 113 #[.slice p 0 cap, .int .i64 0, .int .i64 0, fv] w fun e w' => e = .returned (.tuple #[]) ∧ w' = w := by
  go_enter Tryz.func113, Tryz.ntmps113
  go_wp2
  refine wp_loop_rounds 1 ?_
  rw [rounds_succ]
  go_wp2
  go_end0
  exact ⟨rfl, rfl⟩

set_option maxHeartbeats 2000000 in
theorem pdqNone (p : Option Addr) (cap : Nat) (lim : Int) (fv : Value) (w : World) :
    Calls Tryz.prog 98 #[.slice p 0 cap, .int .i64 0, .int .i64 0, .int .i64 lim, fv] w fun e w' => e = .returned (.tuple #[]) ∧ w' = w := by
  go_enter Tryz.func98, Tryz.ntmps98
  go_wp2
  refine wp_loop_rounds 1 ?_
  rw [rounds_succ]
  go_wp2_with (go_at_call 113; refine (insNone _ _ _ _).mono ?_; rintro e w' ⟨rfl, rfl⟩)
  (try simp only [Exit.inBlock, Exit.then])
  refine bodyPost_ret (results_none rfl _ _ _) rfl ?_
  exact ⟨rfl, rfl⟩

set_option maxHeartbeats 2000000 in
theorem sortNone (p : Option Addr) (cap : Nat) (fv : Value) (w : World) :
    Calls Tryz.prog 75 #[.slice p 0 cap, fv] w fun e w' => e = .returned (.tuple #[]) ∧ w' = w := by
  have hl : ∀ W, Calls Tryz.prog 99 #[.int .u64 0] W fun e w' => e = .returned (.int .i64 (Lib.bitLen 0 : Nat)) ∧ w' = W := fun W => by
    have h := Any.bits_Len (SlLaysF0.n15.bits (P := Tryz.prog) (ρ := Tryz.sortM_ren) { Tryz.sortM with }) 0 W (by omega) (by omega)
    exact h
  go_enter Tryz.func75, Tryz.ntmps75
  go_wp2_with (first
    | (go_at_call 99; refine (hl _).mono ?_; rintro e w' ⟨rfl, rfl⟩)
    | (go_at_call 98; refine (pdqNone _ _ _ _ _).mono ?_; rintro e w' ⟨rfl, rfl⟩))
  go_end0
  exact ⟨rfl, rfl⟩

/-- what a sort leaves -/
theorem sort_end {W : World} {B gb cap nn : Nat} {cur : Array Value} {os : Array Obj} {ss : List (List UInt8)} {d' : Array Pth} (hle : ∀ x ∈ ss, x.length ≤ 1000000) (hP : Sort.PermIn 0 ss.length (toP ss hle).toArray d') (hS : Sort.SortedIn (ltOf cfP) 0 ss.length d')
    (hbase : B ≤ gb) (hgb : W.heap[gb]? = some (.cells cur 9 (0, 0))) (r1 : ss.length ≤ cap) (r2 : cap ≤ maxLen) (r3 : cur.size = cap * 1) :
    ∃ ks : List (List UInt8), ks.length = ss.length ∧ ks.Perm ss ∧ (ks.Pairwise fun x y => ordP x y ≤ 0) ∧ (sortWorld encP W gb 0 nn d' os).ownsRow B 9 1 (.slice (some ⟨gb, 0, none⟩) ss.length cap) ss.length (ks.map encStr) ∧ W.grownBy (sortWorld encP W gb 0 nn d' os) (some gb) := by
  obtain ⟨p1, _, p3⟩ := hP
  have e0 : (toP ss hle).toArray.size = ss.length := by simp [toP_len]
  rw [e0] at p1
  have e1 : d'.extract 0 ss.length = d' := by rw [← p1]; simp
  have e2 : (toP ss hle).toArray.extract 0 ss.length = (toP ss hle).toArray := by rw [← e0]; simp
  rw [e1, e2] at p3
  have hp : (d'.toList.map (·.1)).Perm ss := by
    have := p3.map (·.1)
    rwa [List.toList_toArray, toP_map] at this
  have hl : (d'.toList.map (·.1)).length = ss.length := hp.length_eq
  have hw : sortWorld encP W gb 0 nn d' os = Sort.grow (Sort.putRow encStr (Sort.ahead W nn) gb 0 (d'.toList.map (·.1)).toArray) os := by
    unfold sortWorld
    rw [← putRow_P (Sort.ahead W nn) gb d'.toList]
  refine ⟨d'.toList.map (·.1), hl, hp, sorted_pw d' (by rw [p1]; exact hS), ?_, ?_⟩
  · rw [hw]
    exact ownsRow_sorted hl hbase hgb r1 r2 r3
  · rw [hw]
    exact grownBy_sorted _

set_option maxHeartbeats 2000000 in
theorem sortedFunc_any (b Bm n : Nat) (g : Tb) (w : World) (hT : TbAt w b g n) (hn : n ≤ 1000000) (hk : ∀ x, (g x).isSome = true → x.length ≤ 1000000) (hBm : Bm < w.heap.size) (hm : w.cell? ⟨Bm, 0, none⟩ = some (.map (some b))) :
    Calls Tryz.prog 53 #[.func (.func 76) #[] #[.pointer (some ⟨Bm, 0, none⟩)], .func (.func 55) #[] #[]] w fun e w' =>
      ∃ ks a c, e = .returned (.slice a ks.length c) ∧ KeyL g ks ∧ ks.length ≤ n ∧ w'.ownsRow w.heap.size 9 1 (.slice a ks.length c) ks.length (ks.map encStr) ∧ Below w.heap.size w w' := by
  obtain ⟨M, h1, h2, h3, _⟩ := hT
  have hseq := AnyZ.keys_gives (ρ := Tryz.keysM_ren) { Tryz.keysM with } Fence.wide 2 trivial rfl (by omega) Bm b (size M) M w hBm hm h1
  have cC := callsIn_wide.1 (AnyZ.collect_in (ρ := Tryz.collectM_ren) Tryz.collectM Fence.wide 4 trivial trivial rfl (by omega) 76 #[.pointer (some ⟨Bm, 0, none⟩)] trivial (enters_of Tryz.func76 (by kernel_rfl) rfl) _ (size M) (by unfold maxLen; omega) (by omega) w hseq)
  change Calls Tryz.prog 74 _ _ _ at cC
  have hND := nodupT h1
  have hlen := lenT h1
  have HK : Hid (∀ ss : List (List UInt8), ss.Perm (strKeys M) → ss.Nodup ∧ (∀ x, x ∈ ss ↔ (g x).isSome = true) ∧ ss.length ≤ n) := by
    show ∀ ss : List (List UInt8), _ → _
    intro ss hp
    refine ⟨hp.nodup_iff.2 hND.1, fun x => by rw [hp.mem_iff, hND.2, h3], ?_⟩
    rw [hp.length_eq, hlen]
    exact h2
  have ec := enters_of Tryz.func55 (by kernel_rfl) rfl
  clear hseq h1 h2 h3 hND hlen
  go_enter Tryz.func53, Tryz.ntmps53
  go_wp2_with fail
  refine cC.mono ?_
  rintro e W ⟨v, ss, rfl, hS, hrow, hnil, hB⟩
  obtain ⟨s1, s2, s3⟩ := HK.out ss hS
  have hle : ∀ x ∈ ss, x.length ≤ 1000000 := fun x hx => hk x ((s2 x).1 hx)
  rcases hrow.2 with ⟨rfl, hz⟩ | ⟨gb, cap, cur, rfl, hbase, hgb, r1, r2, r3, r4⟩
  · have hss : ss = [] := List.eq_nil_of_length_eq_zero hz
    subst hss
    go_wp2_with (go_at_call 75; refine (sortNone none 0 _ W).mono ?_; rintro e w' ⟨rfl, rfl⟩)
    go_ret
    exact ⟨[], none, 0, rfl, ⟨s1, s2, List.Pairwise.nil⟩, s3, hrow, hB⟩
  · have hgl : gb < W.heap.size := (Array.getElem?_eq_some_iff.1 hgb).1
    have e0 : (toP ss hle).toArray.size = ss.length := by simp [toP_len]
    have cS := Any.slices_SortFunc Tryz.sortM encP (fun _ => rfl) cfP swoP 55 #[] gb 0 cap (toP ss hle).toArray W ec (cmpP _ _ _ _) (holdsP hle hgb (by simpa using r4)) hgl (by rw [e0]; omega)
    rw [e0] at cS
    change Calls Tryz.prog 75 _ _ _ at cS
    have HR : Hid (∀ (d' : Array Pth) (nn : Nat) (os : Array Obj), Sort.PermIn 0 ss.length (toP ss hle).toArray d' → Sort.SortedIn (ltOf cfP) 0 ss.length d' → ∃ ks : List (List UInt8), ks.length = ss.length ∧ ks.Perm ss ∧ (ks.Pairwise fun x y => ordP x y ≤ 0) ∧ (sortWorld encP W gb 0 nn d' os).ownsRow w.heap.size 9 1 (.slice (some ⟨gb, 0, none⟩) ss.length cap) ss.length (ks.map encStr) ∧ W.grownBy (sortWorld encP W gb 0 nn d' os) (some gb)) := by
      show ∀ (d' : Array Pth) (nn : Nat) (os : Array Obj), _ → _ → _
      exact fun d' nn os hP hS => sort_end hle hP hS hbase hgb r1 r2 r3
    clear hgb r4 hrow cC
    go_wp2_with fail
    refine cS.mono ?_
    rintro e w' ⟨rfl, d', nn, os, hP, hSo, hw⟩
    obtain ⟨ks, k1, k2, k3, k4, k5⟩ := HR.out d' nn os hP hSo
    rw [← hw] at k4 k5
    clear hw
    go_wp2
    go_ret
    refine ⟨ks, some ⟨gb, 0, none⟩, cap, by rw [k1]; rfl, ⟨k2.nodup_iff.2 s1, fun x => by rw [k2.mem_iff, s2], k3⟩, by rw [k1]; exact s3, by rw [k1]; exact k4, ?_⟩
    exact hB.grown k5 hB.size (fun j hj => by cases hj; exact hbase)
end Go.Proofs.YtggnglgehobglaaGreatDoor

/- Rules appended to a row of one's own. -/
namespace Go.Proofs.YtggnglgehobglaaGreatDoor
open Go.RowKit Go.Shelf Go.Maps

theorem rus_news {w : World} {b : Nat} : ∀ (l : List Ru) (off : Nat), (∀ (j : Nat) x, l[j]? = some x → w.cell? ⟨b, off + j * 3, none⟩ = some (.int .i64 x.1) ∧ w.cell? ⟨b, off + j * 3 + 1, none⟩ = some (.string (mk x.2.1)) ∧ w.cell? ⟨b, off + j * 3 + 2, none⟩ = some (.string (mk x.2.2))) →
    ∀ (j : Nat) u, (ruCells l)[j]? = some u → w.cell? ⟨b, off + j, none⟩ = some u
  | [], _, _, j, u, h => by simp [ruCells] at h
  | x :: r, off, hc, 0, u, h => by
    simp [ruCells] at h; subst h
    have := (hc 0 x rfl).1
    simpa using this
  | x :: r, off, hc, 1, u, h => by
    simp [ruCells] at h; subst h
    have := (hc 0 x rfl).2.1
    simpa using this
  | x :: r, off, hc, 2, u, h => by
    simp [ruCells] at h; subst h
    have := (hc 0 x rfl).2.2
    simpa using this
  | x :: r, off, hc, j + 3, u, h => by
    have ih := rus_news r (off + 3) (fun i y hy => by
      have := hc (i + 1) y (by simpa using hy)
      rw [show off + (i + 1) * 3 = off + 3 + i * 3 by omega] at this
      exact this) j u (by simpa [ruCells] using h)
    rw [show off + (j + 3) = off + 3 + j by omega]
    exact ih
theorem row_emptyR (w : World) (base : Nat) (hb : base ≤ w.heap.size) : (w.alloc (.cells #[] 31)).ownsRow base 31 3 (.slice (some ⟨w.heap.size, 0, none⟩) 0 0) 0 (ruCells []) :=
  World.ownsRow_made w #[] 0 hb (by unfold maxLen; omega) rfl
theorem wpList_appR {wr : World} {ops : Array Oper} {rest : List Oper} {o : Oper} {a : Act} {Q : Exit → Act → World → Prop}
    (hgd : o.guard = none) (s x : Operand) (hop : o.op = Op.call { callee := Callee.builtin Builtin.append, args := #[s, x], argTypes := #[34, 34] })
    (base n m c : Nat) (v : Value) (k l : List Ru) (ad : Option Addr) (hs : a.eval s = v) (hx : a.eval x = .slice ad m c)
    (hown : wr.ownsRow base 31 3 v n (ruCells k)) (hb : Rus wr ad m l) (hnil : ad = none → m = 0 ∧ c = 0) (hm : (n + m) * 40 ≤ 140737488355328) (hbase : base ≤ wr.heap.size)
    (hK : ∀ ad' c' w', n + m ≤ c' → w'.ownsRow base 31 3 (.slice ad' (n + m) c') (n + m) (ruCells (k ++ l)) → Below base wr w' → wpList Tryz.prog ops Q rest (a.put o.dst (.slice ad' (n + m) c')) w') :
    wpList Tryz.prog ops Q (o :: rest) a wr := by
  obtain ⟨i0, hi, hz0, hz1, hz2⟩ := info_parts infoRule
  cases ad with
  | none =>
    obtain ⟨rfl, rfl⟩ := hnil rfl
    have hl : l = [] := List.eq_nil_of_length_eq_zero hb.1
    subst hl
    obtain ⟨ad', c', rfl, hc', _⟩ := row_shapeR hown
    refine wpList_append_own_none hgd s x 34 hop base 31 i0 3 Tryz.underlying34 hi _ n _ hs hown hx ?_
    have := hK ad' c' wr (by omega) (by simpa using hown) (Below.refl _ _)
    simpa using this
  | some ad =>
    refine wpList_append_own_at _ hgd s x 34 hop base 31 i0 _ 3 40 Tryz.underlying34 hi hz0 hz1 hz2 rfl (by omega) v n _ hs hown ad m c (ruCells l) hx (by rw [ruCells_len, hb.1]) ?_ (ruCells_one l) (by unfold maxLen; omega) hm hbase ?_
    · intro j u hj
      have hl := hb.1
      by_cases hm0 : 0 < m
      · obtain ⟨b, off, e, hc⟩ := hb.2 hm0
        cases e
        rw [Addr.add_lit]
        exact rus_news l off hc j u hj
      · have : l = [] := List.eq_nil_of_length_eq_zero (by omega)
        subst this
        simp [ruCells] at hj
    · intro v' w' h1 h2 _ _
      obtain ⟨ad', c', rfl, hc', _⟩ := row_shapeR h1
      exact hK ad' c' w' hc' (by rw [ruCells_append]; exact h1) ((Below.refl base wr).grown h2 hbase (fun k hk => (hown.lt k hk).1))
end Go.Proofs.YtggnglgehobglaaGreatDoor
