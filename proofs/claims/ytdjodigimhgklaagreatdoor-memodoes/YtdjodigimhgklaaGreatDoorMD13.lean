import Derived.Shelf.Small.Bits
import Derived.Shelf.Strconv.Itoa0
import Derived.Shelf.Strconv.Itoa1
import Derived.Shelf.LaysM
import Derived.Shelf.Strconv.Itoa2
import Derived.Shelf.Strconv.Itoa3
import Derived.Ground.SlgnProg
import Derived.Shelf.SlicesE.Index
import Derived.Shelf.SlicesE.Clone
import Derived.Ground.SlsfProg
import Derived.Shelf.SlSortCmp.Insertion
import Derived.Ground.SlgmProg
import Derived.Shelf.SortM.Plain
import Derived.Shelf.SortM.SortNone
import Derived.Shelf.SlSortCmp.SiftDown1
import Derived.Shelf.SlSortCmp.HeapSort1
import Derived.Shelf.SlSortCmp.Insertion1
import Derived.Shelf.SlSortCmp.Median1
import Derived.Shelf.SlSortCmp.Pivot1
import Derived.Shelf.SlSortCmp.ReverseRange1
import Derived.Shelf.SlSortCmp.PartialInsertion1
import Derived.Shelf.SlSortCmp.PartitionEqual1
import Derived.Shelf.SlSortCmp.Partition1
import Derived.Shelf.SlSortCmp.Pdq1
import Derived.Shelf.SlSortCmp.Whole1
import Derived.Shelf.SlSortCmp.NoneTotal
import Derived.Shelf.Bytes.Small
import Derived.Test.YtdjodigimhgklaaGreatDoorProg
import Derived.Test.YtdjodigimhgklaaGreatDoorMD12
import Derived.Laws.OwnMore
import Derived.Test.YtdjodigimhgklaaGreatDoorMD10
import Derived.Test.YtdjodigimhgklaaGreatDoorMD04
import Derived.Test.YtdjodigimhgklaaGreatDoorMD05
/- The kit's contracts on functions of Go's library, laid at this translation by the kit's own command, in plain words. -/
namespace Go.Proofs.YtdjodigimhgklaaGreatDoor
open Go.Shelf
def Tryz.lays171_ren : Go.Shelf.Ren := ⟨fun | 171 => 77 | 243 => 121 | 246 => 157 | 283 => 182 | 284 => 183 | 285 => 184 | 286 => 185 | 129 => 146 | 317 => 194 | 318 => 195 | 319 => 196 | 320 => 197 | 337 => 200 | 338 => 201 | n => n, fun | 3 => 3 | 9 => 9 | 2 => 2 | 4 => 4 | 171 => 230 | 0 => 0 | 53 => 22 | 37 => 33 | 5 => 5 | 173 => 232 | 212 => 243 | 51 => 198 | 20 => 20 | 213 => 244 | 46 => 77 | 232 => 247 | 233 => 248 | n => n, fun | 17 => 0 | 18 => 1 | 19 => 2 | n => n⟩
theorem Tryz.lays171 : Go.Proofs.Lays.n171 Tryz.prog Tryz.lays171_ren := {
  mixed := by kernel_rfl
  f129 := Tryz.func146.trans (congrArg some (by kernel_rfl))
  f171 := Tryz.func77.trans (congrArg some (by kernel_rfl))
  f243 := Tryz.func121.trans (congrArg some (by kernel_rfl))
  f246 := Tryz.func157.trans (congrArg some (by kernel_rfl))
  f283 := Tryz.func182.trans (congrArg some (by kernel_rfl))
  f284 := Tryz.func183.trans (congrArg some (by kernel_rfl))
  f285 := Tryz.func184.trans (congrArg some (by kernel_rfl))
  f286 := Tryz.func185.trans (congrArg some (by kernel_rfl))
  f317 := Tryz.func194.trans (congrArg some (by kernel_rfl))
  f318 := Tryz.func195.trans (congrArg some (by kernel_rfl))
  f319 := Tryz.func196.trans (congrArg some (by kernel_rfl))
  f320 := Tryz.func197.trans (congrArg some (by kernel_rfl))
  f337 := Tryz.func200.trans (congrArg some (by kernel_rfl))
  f338 := Tryz.func201.trans (congrArg some (by kernel_rfl))
  t0 := Tryz.underlying0
  a0 := Tryz.isAgg0
  z0 := Tryz.sizeOf0
  v0 := Tryz.zeroValue0
  t2 := Tryz.underlying2
  a2 := Tryz.isAgg2
  z2 := Tryz.sizeOf2
  v2 := Tryz.zeroValue2
  t3 := Tryz.underlying3
  a3 := Tryz.isAgg3
  z3 := Tryz.sizeOf3
  v3 := Tryz.zeroValue3
  t4 := Tryz.underlying4
  a4 := Tryz.isAgg4
  z4 := Tryz.sizeOf4
  v4 := Tryz.zeroValue4
  t5 := Tryz.underlying5
  a5 := Tryz.isAgg5
  z5 := Tryz.sizeOf5
  v5 := Tryz.zeroValue5
  t9 := Tryz.underlying9
  a9 := Tryz.isAgg9
  z9 := Tryz.sizeOf9
  v9 := Tryz.zeroValue9
  t20 := Tryz.underlying20
  a20 := Tryz.isAgg20
  z20 := Tryz.sizeOf20
  v20 := Tryz.zeroValue20
  t37 := Tryz.underlying33
  a37 := Tryz.isAgg33
  z37 := Tryz.sizeOf33
  v37 := Tryz.zeroValue33
  t46 := Tryz.underlying77
  a46 := Tryz.isAgg77
  z46 := Tryz.sizeOf77
  v46 := Tryz.zeroValue77
  t51 := Tryz.underlying198
  a51 := Tryz.isAgg198
  z51 := Tryz.sizeOf198
  v51 := Tryz.zeroValue198
  t53 := Tryz.underlying22
  a53 := Tryz.isAgg22
  z53 := Tryz.sizeOf22
  v53 := Tryz.zeroValue22
  t171 := Tryz.underlying230
  a171 := Tryz.isAgg230
  z171 := Tryz.sizeOf230
  v171 := Tryz.zeroValue230
  t173 := Tryz.underlying232
  a173 := Tryz.isAgg232
  z173 := Tryz.sizeOf232
  v173 := Tryz.zeroValue232
  t212 := Tryz.underlying243
  a212 := Tryz.isAgg243
  z212 := Tryz.sizeOf243
  v212 := Tryz.zeroValue243
  t213 := Tryz.underlying244
  a213 := Tryz.isAgg244
  z213 := Tryz.sizeOf244
  t232 := Tryz.underlying247
  a232 := Tryz.isAgg247
  z232 := Tryz.sizeOf247
  v232 := Tryz.zeroValue247
  t233 := Tryz.underlying248
  a233 := Tryz.isAgg248
  z233 := Tryz.sizeOf248
  v233 := Tryz.zeroValue248
  g17 := by kernel_rfl
  g18 := by kernel_rfl
  g19 := by kernel_rfl }
open Go.RowKit Go.Sort Go.Lib in
theorem Tryz.strconv_Itoa_small (i : Nat) (hi : i < 100) (w : World) :
    Calls Tryz.prog 77 #[.int .i64 i] w fun e w' => e = .returned (.string ⟨(Lib.decDigits i).toArray⟩) ∧ w' = w := Any.strconv_Itoa_small Tryz.lays171 i hi w
def Tryz.laysSlE31_f86_ren : Go.Shelf.Ren := ⟨fun | 31 => 86 | 29 => 129 | n => n, fun | 22 => 73 | 23 => 3 | 4 => 4 | 3 => 3 | 0 => 0 | n => n, fun | n => n⟩
theorem Tryz.laysSlE31_f86 : Go.Proofs.SlLaysE.n31 Tryz.prog Tryz.laysSlE31_f86_ren := {
  mixed := by kernel_rfl
  f29 := ⟨Tryz.f129.name, by decide, Tryz.func129.trans (congrArg some (by kernel_rfl))⟩
  f31 := ⟨Tryz.f86.name, by decide, Tryz.func86.trans (congrArg some (by kernel_rfl))⟩
  t0 := Tryz.underlying0
  a0 := Tryz.isAgg0
  z0 := Tryz.sizeOf0
  v0 := Tryz.zeroValue0
  t3 := Tryz.underlying3
  a3 := Tryz.isAgg3
  z3 := Tryz.sizeOf3
  v3 := Tryz.zeroValue3
  t4 := Tryz.underlying4
  a4 := Tryz.isAgg4
  z4 := Tryz.sizeOf4
  v4 := Tryz.zeroValue4
  t22 := Tryz.underlying73
  a22 := Tryz.isAgg73
  z22 := Tryz.sizeOf73
  v22 := Tryz.zeroValue73
  a23 := Tryz.isAgg3
  z23 := Tryz.sizeOf3 }
open Go.Lib in
theorem Tryz.slices_Contains {α : Type} [Inhabited α] (enc : α → Value) (eq : α → α → Bool) (heq : EqlAt Tryz.prog 3 enc eq) (b off n c : Nat) (zs : List α) (x : α) (w : World) (hz : n ≤ zs.length) (hbig : n ≤ 9223372036854775807) (hc : ∀ j, j < zs.length → w.cell? ⟨b, off + j, none⟩ = some (enc zs[j]!)) :
    Calls Tryz.prog 86 #[.slice (some ⟨b, off, none⟩) n c, enc x] w fun e w' => e = .returned (.bool ((zs.take n).any fun y => eq x y)) ∧ w' = w := AnyE.slices_Contains Tryz.laysSlE31_f86 enc eq heq b off n c zs x w hz hbig hc
def Tryz.laysSlE041_f67_ren : Go.Shelf.Ren := ⟨fun | 41 => 67 | n => n, fun | 22 => 73 | 23 => 3 | 4 => 4 | n => n, fun | n => n⟩
theorem Tryz.laysSlE041_f67 : Go.Proofs.SlLaysE0.n41 Tryz.prog Tryz.laysSlE041_f67_ren := {
  mixed := by kernel_rfl
  f41 := ⟨Tryz.f67.name, by decide, Tryz.func67.trans (congrArg some (by kernel_rfl))⟩
  t4 := Tryz.underlying4
  a4 := Tryz.isAgg4
  z4 := Tryz.sizeOf4
  v4 := Tryz.zeroValue4
  t22 := Tryz.underlying73
  a22 := Tryz.isAgg73
  z22 := Tryz.sizeOf73
  v22 := Tryz.zeroValue73 }
open Go.RowKit Go.Lib in
theorem Tryz.slices_Clone (i0 : TypeInfo) (z : Value) (size bytes : Nat) (hi : Tryz.prog.info? 3 = some i0) (hz0 : i0.zero = some z) (hz1 : i0.size = size) (hz2 : i0.bytes = bytes) (hzs : z.cells.size = size) (hsz : 0 < size) (z23 : ∀ w, (Go.sizeOf 3).run Tryz.prog w = .ok size w) (b off n c : Nat) (news : List Value) (w : World) (hl : news.length = n * size) (hn : n ≤ maxLen) (hbig : n * bytes ≤ 140737488355328) (hc : ∀ j u, news[j]? = some u → w.cell? ⟨b, off + j, none⟩ = some u) (h1 : ∀ u ∈ news, u.oneCell' = true) :
    Calls Tryz.prog 67 #[.slice (some ⟨b, off, none⟩) n c] w fun e w' => ∃ v', e = .returned v' ∧ w'.ownsRow w.heap.size 3 size v' n news ∧ v' ≠ .slice none 0 0 ∧ Below w.heap.size w w' := AnyE.slices_Clone Tryz.laysSlE041_f67 i0 z size bytes hi hz0 hz1 hz2 hzs hsz z23 b off n c news w hl hn hbig hc h1
def Tryz.lays115_ren : Go.Shelf.Ren := ⟨fun | 115 => 25 | n => n, fun | 37 => 33 | 4 => 4 | 9 => 9 | 5 => 5 | n => n, fun | n => n⟩
theorem Tryz.lays115 : Go.Proofs.Lays.n115 Tryz.prog Tryz.lays115_ren := {
  mixed := by kernel_rfl
  f115 := Tryz.func25.trans (congrArg some (by kernel_rfl))
  t4 := Tryz.underlying4
  a4 := Tryz.isAgg4
  z4 := Tryz.sizeOf4
  v4 := Tryz.zeroValue4
  t9 := Tryz.underlying9
  a9 := Tryz.isAgg9
  z9 := Tryz.sizeOf9
  v9 := Tryz.zeroValue9
  t37 := Tryz.underlying33
  a37 := Tryz.isAgg33
  z37 := Tryz.sizeOf33
  v37 := Tryz.zeroValue33 }
theorem Tryz.bytes_Equal (v1 v2 : Value) (xs ys : List Int) (w : World) (h1 : (convert 33 9 v1).run Tryz.prog w = .ok (.string (strOfNums xs)) w) (h2 : (convert 33 9 v2).run Tryz.prog w = .ok (.string (strOfNums ys)) w) :
    Calls Tryz.prog 25 #[v1, v2] w fun e w' => e = .returned (.bool (Lib.bytesOf xs == Lib.bytesOf ys)) ∧ w' = w := Any.bytes_Equal Tryz.lays115 v1 v2 xs ys w h1 h2
end Go.Proofs.YtdjodigimhgklaaGreatDoor

/- The walk of the method that takes another array for a list of payloads. -/
namespace Go.Proofs.YtdjodigimhgklaaGreatDoor
open Go.RowKit

theorem made_bytes (N : Nat) : (madeCells (Value.int .u8 0).cells N).toList = cellsOf (List.replicate N 0) := by
  have : (Value.int .u8 0).cells = #[Value.int .u8 0] := rfl
  rw [this, toList_madeCells_one]
  simp [cellsOf]

/-- what holds behind k rounds of the move: the first k slices lead into block G, the others are as they were -/
def MoveInv (w2 wr : World) (G : Nat) (rs : List (List UInt8)) (v : Value) (n : Nat) (xs : List Value) (k : Nat) : Prop :=
  Turn (fun j => v.ownBlock = some j) w2 wr ∧ ∃ xs', wr.ownsRow 0 33 1 v n xs' ∧ (∀ j, j < k → Elt G rs xs' j) ∧ (∀ j, k ≤ j → xs'[j]? = xs[j]?)

theorem move_step {w2 wr : World} {G bl n vc k q R N : Nat} {rs : List (List UInt8)} {xs : List Value} (hn : n = rs.length) (hk : k < n) (hR : R + poffs rs k = N) (hq : 0 < R → q = poffs rs k) (hm : (rc rs k).length ≤ R)
    (h : MoveInv w2 wr G rs (.slice (some ⟨bl, 0, none⟩) n vc) n xs k) : MoveInv w2 (wr.setCell ⟨bl, k, none⟩ (.slice (some ⟨G, q, none⟩) (rc rs k).length R)).drew G rs (.slice (some ⟨bl, 0, none⟩) n vc) n xs (k + 1) := by
  obtain ⟨hT, xs', hrow, hlo, hhi⟩ := h
  refine ⟨hT.trans (Gp := fun j => j = bl) ⟨rfl, rfl, rfl, by simp [World.setCell, World.drew], fun j _ hj => Below.heap_setCell _ _ _ _ hj⟩ (fun i _ hi => by subst hi; rfl), ?_⟩
  have hlen : xs'.length = n := by have := hrow.1; omega
  refine ⟨_, (hrow.stored k _).1.drew, fun j hj => ?_, fun j hj => ?_⟩
  · by_cases e : j = k
    · subst e
      refine ⟨some ⟨G, q, none⟩, R, by simp [hlen, hk], hm, by simp, fun h0 => by rw [hq (by omega)]⟩
    · obtain ⟨a, c, h1, h2⟩ := hlo j (by omega)
      exact ⟨a, c, by rw [List.getElem?_set_ne (by omega)]; exact h1, h2⟩
  · rw [List.getElem?_set_ne (by omega)]
    exact hhi j (by omega)

/-- a list of payloads whose array has N bytes -/
def IsPayN (w : World) (p o : Nat) (rs : List (List UInt8)) (Fp : Nat → Prop) (N : Nat) : Prop :=
  ∃ g full v xs, PayAt w p o rs g N full (.slice (some ⟨g, 0, none⟩) N N) v xs ∧ (∀ k, (Value.slice (some ⟨g, 0, none⟩) N N).ownBlock = some k → Fp k) ∧ (∀ k, v.ownBlock = some k → Fp k)

theorem move_end {w w2 wr : World} {p o g na N : Nat} {rs : List (List UInt8)} {full : List UInt8} {A v : Value} {xs : List Value} {Fp : Nat → Prop} (h : PayAt w p o rs g na full A v xs) (hv : ∀ k, v.ownBlock = some k → Fp k)
    (hp : Fp p) (hlt : ∀ k, Fp k → k < w.heap.size) (hN : rs.flatten.length ≤ N) (hT : Turn (fun _ => False) w w2) (hs : w.heap.size < w2.heap.size)
    (hown : w2.ownsRow 0 5 1 (.slice (some ⟨w.heap.size, 0, none⟩) N N) N (cellsOf (splice (List.replicate N 0) 0 rs.flatten))) (hM : MoveInv w2 wr w.heap.size rs v rs.length xs rs.length) :
    IsPayN (wr.setCell ⟨p, o, none⟩ (.slice (some ⟨w.heap.size, 0, none⟩) N N)) p o rs (grow Fp w (wr.setCell ⟨p, o, none⟩ (.slice (some ⟨w.heap.size, 0, none⟩) N N))) N ∧ Turn Fp w (wr.setCell ⟨p, o, none⟩ (.slice (some ⟨w.heap.size, 0, none⟩) N N)) ∧ Rest p o w (wr.setCell ⟨p, o, none⟩ (.slice (some ⟨w.heap.size, 0, none⟩) N N)) := by
  obtain ⟨hM, xs', hrow, hel, _⟩ := hM
  have hplt := hlt p hp
  have hvp : ¬ v.ownBlock = some p := h.vp
  have hwr : Turn Fp w wr := (hT.wide (fun _ h => h.elim)).trans hM (fun i _ hi => hv i hi)
  have hw3 : Turn Fp w (wr.setCell ⟨p, o, none⟩ (.slice (some ⟨w.heap.size, 0, none⟩) N N)) := hwr.trans (turn_setCell wr p o _) (fun i _ hi => by subst hi; exact hp)
  have hpw : wr.heap[p]? = w.heap[p]? := (hM.block p (by have := hT.size; omega) hvp).trans (hT.block p hplt (fun h => h))
  have hvG : ¬ v.ownBlock = some w.heap.size := fun e => by have := hlt _ (hv _ e); omega
  refine ⟨⟨w.heap.size, splice (List.replicate N 0) 0 rs.flatten, v, xs', ?_, ?_, ?_⟩, hw3, (Rest.of_block hpw).trans (Rest.setCell _ _ _ (.inl rfl))⟩
  · refine { ca := ?_, cu := ?_, cl := ?_, fa := ?_, fu := ?_, fl := ?_, arr := ?_, sh := .inr rfl, pre := ?_, fit := hN, row := ?_, el := hel, gp := fun _ => by omega, vp := h.vp, gv := fun _ => hvG }
    · exact World.cell?_setCell_same _ _ _ (by rw [World.cell?_of_block hpw]; exact h.ca)
    · rw [World.cell?_setCell_other _ _ _ _ (by simp), World.cell?_of_block hpw]; exact h.cu
    · rw [World.cell?_setCell_other _ _ _ _ (by simp), World.cell?_of_block hpw]; exact h.cl
    · rw [World.frozen?_setCell, World.frozen?_of_block hpw]; exact h.fa
    · rw [World.frozen?_setCell, World.frozen?_of_block hpw]; exact h.fu
    · rw [World.frozen?_setCell, World.frozen?_of_block hpw]; exact h.fl
    · refine ownsRow_move' hown (fun k hk => ?_)
      simp only [Value.ownBlock, Option.some.injEq] at hk
      subst hk
      rw [Below.heap_setCell _ _ _ _ (by show w.heap.size ≠ p; omega)]
      exact hM.block _ hs hvG
    · have := splice_head (List.replicate N 0) 0 rs.flatten (Nat.zero_le _)
      rw [Nat.zero_add] at this
      rw [this]; rfl
    · exact ownsRow_move' hrow (fun k hk => Below.heap_setCell _ _ _ _ (fun e => hvp (by rw [hk]; exact congrArg some e)))
  · intro k hk
    simp only [Value.ownBlock, Option.some.injEq] at hk
    subst hk
    exact .inr ⟨Nat.le_refl _, by have := hM.size; simp [World.setCell]; omega⟩
  · exact fun k hk => .inl (hv k hk)

set_option maxRecDepth 20000 in
set_option maxHeartbeats 2000000 in
theorem move_any (p o N : Nat) (rs : List (List UInt8)) (Fp : Nat → Prop) (w : World) (h : IsPay w p o rs Fp) (hp : Fp p) (hlt : ∀ k, Fp k → k < w.heap.size) (hN : rs.flatten.length ≤ N) (hmax : N ≤ 16777216) :
    Calls Tryz.prog 156 #[.pointer (some ⟨p, o, none⟩), .int .i64 N] w fun e w' => e = .returned (.tuple #[]) ∧ IsPayN w' p o rs (grow Fp w w') N ∧ Turn Fp w w' ∧ Rest p o w w' := by
  obtain ⟨g, na, full, A, v, xs, h, hA, hv⟩ := h
  have ca := h.ca
  have cu := h.cu
  have cl := h.cl
  have fit := h.fit
  obtain ⟨ad, rfl⟩ : ∃ ad, A = .slice ad na na := by
    rcases h.sh with ⟨rfl, rfl⟩ | rfl
    · exact ⟨_, rfl⟩
    · exact ⟨_, rfl⟩
  have hbA : Bytes w ad rs.flatten.length rs.flatten := by
    have := ((ownsRow_toBytes h.arr).1).take _ fit
    rwa [h.pre] at this
  have hplt := hlt p hp
  obtain ⟨i0, hi, hz0, hz1, hz2⟩ := info_parts Tryz.info5
  have hu := Tryz.underlying33
  obtain ⟨U, hU⟩ : ∃ U, U = rs.flatten.length := ⟨_, rfl⟩
  have HU : Hid (U = rs.flatten.length) := hU
  rw [← hU] at cu fit hbA hN
  clear hU
  have i1 : (U : Int) ≤ (na : Int) := by omega
  have i2 : (0 : Int) ≤ (U : Int) := by omega
  go_enter Tryz.func156, Tryz.ntmps156
  go_wp2_with (at_make; refine wpList_make_part _ rfl _ _ 33 rfl 5 i0 (.int .u8 0) hu hi hz0 hz1 hz2 _ _ N N _ _ rfl rfl rfl rfl (Nat.le_refl _) (by omega) ?_; intro w1 hg1 hb1)
  have ca1 := (hb1.cell (p := ⟨p, o, none⟩) hplt).trans ca
  have cu1 := (hb1.cell (p := ⟨p, o + 1, none⟩) hplt).trans cu
  have hbA1 : Bytes w1.drew ad U rs.flatten := ⟨hbA.1, fun h0 => by
    obtain ⟨b, off, e, hc⟩ := hbA.2 h0
    exact ⟨b, off, e, fun i hi => by
      have h2 := hc i hi
      exact (hb1.cell (p := ⟨b, off + i, none⟩) (World.block_lt_of_cell? w _ h2)).trans h2⟩⟩
  have hown1 : w1.drew.ownsRow 0 5 1 (.slice (some ⟨w.heap.size, 0, none⟩) N N) N (cellsOf (List.replicate N 0)) := by
    refine ⟨by rw [cellsOf_length]; simp, .inr ⟨w.heap.size, N, _, rfl, Nat.zero_le _, hg1.out, Nat.le_refl _, by unfold maxLen; omega, by rw [size_madeCells]; omega, ?_⟩⟩
    rw [made_bytes, List.take_of_length_le (by rw [cellsOf_length]; simp)]
  go_region_held3 (fun W => W.cell? ⟨p, o, none⟩ = some (.slice ad na na) ∧ W.cell? ⟨p, o + 1, none⟩ = some (.int .i64 U))
    (first
      | (go_split_ands
         refine ⟨by go_keep, by go_keep⟩)
      | (go_split_ands
         exact ⟨hgr.cell ca1 (fun e => by simp [Value.ownBlock] at e; omega), hgr.cell cu1 (fun e => by simp [Value.ownBlock] at e; omega)⟩))
    ((refine step_copy_bytes _ (by rfl) _ _ (by rfl) (.slice (some ⟨w.heap.size, 0, none⟩) N N) w.heap.size N 0 (List.replicate N 0) hown1 (.inr rfl) _ _ _ _ _ _ _ (by rfl) (by rfl) hbA1 (by omega) (by omega) (fun _ => rfl) ?_; intro w2 hown2 hgr))
  have HG : Hid (Turn (fun _ => False) w w2 ∧ w2.cell? ⟨p, o + 2, none⟩ = some v ∧ w2.ownsRow 0 33 1 v rs.length xs ∧ w.heap.size < w2.heap.size) := by
    have hT : Turn (fun _ => False) w w2 := ((Turn.of_below _ hb1).trans (b := w1) (Gp := fun k => k = w.heap.size) ⟨hgr.os, hgr.tape, hgr.output, hgr.size, fun k hk hf => hgr.block k hk (fun e => hf (by simpa [Value.ownBlock] using e))⟩ (fun i hi e => by omega))
    refine ⟨hT, hT.cell cl (fun h => h), ownsRow_move' h.row (fun k hk => hT.block k (hlt k (hv k hk)) (fun h => h)), (hown2.lt w.heap.size rfl).2⟩
  obtain ⟨va, vc, rfl, hvc⟩ : ∃ va vc, v = .slice va rs.length vc ∧ rs.length ≤ 9223372036854775807 := by
    rcases h.row.2 with ⟨rfl, h1⟩ | ⟨b, cap, cur, rfl, _, _, h3, h4, _⟩
    · exact ⟨none, 0, by rw [h1], by omega⟩
    · unfold maxLen at h4
      exact ⟨_, _, rfl, by omega⟩
  have cl2 := HG.out.2.1
  have ca2 : w2.cell? ⟨p, o, none⟩ = some (.slice ad na na) := HG.out.1.cell ca (fun h => h)
  have H : Hid (PayAt w p o rs g na full (.slice ad na na) (.slice va rs.length vc) xs) := h
  clear h hbA hbA1 hown1 ca cu cl ca1 cu1 i1 i2 fit hg1 hb1
  obtain ⟨n, hn⟩ : ∃ n, n = rs.length := ⟨_, rfl⟩
  have Hn : Hid (n = rs.length) := hn
  rw [← hn] at cl2 hvc
  clear hn
  go_wp2_with fail
  go_loopw [5, 27] (fun r i wr => ∃ k q R : Nat, k ≤ n ∧ i = .int .i64 k ∧ r = .slice (some ⟨w.heap.size, q, none⟩) R R ∧ Hid (R + poffs rs k = N ∧ (0 < R → q = poffs rs k)) ∧ wr.cell? ⟨p, o + 2, none⟩ = some (.slice va n vc) ∧
      Hid (MoveInv w2 wr w.heap.size rs (.slice va n vc) n xs k))
    (fun _ i _ => n - (intOf i).toNat)
  case atStart =>
    refine ⟨0, 0, N, Nat.zero_le _, rfl, rfl, ⟨by simp [poffs], fun _ => rfl⟩, cl2, Turn.refl _ _, xs, by rw [Hn.out]; exact HG.out.2.2.1, fun j hj => by omega, fun j _ => rfl⟩
  case round =>
    obtain ⟨k, q, R, hk, rfl, rfl, HR, c2, HT⟩ := hrel
    clear cl2
    by_cases hlt' : k < n
    · obtain ⟨bl, rfl⟩ : ∃ bl, va = some ⟨bl, 0, none⟩ := by
        obtain ⟨_, xs', hrow, _⟩ := HT.out
        rcases hrow.2 with ⟨e, h0⟩ | ⟨b, _, _, e, _⟩
        · omega
        · cases e; exact ⟨_, rfl⟩
      obtain ⟨a, c, m, Hm, hcell, hfz⟩ : ∃ a c m, Hid (m = (rc rs k).length) ∧ wr.cell? ⟨bl, k, none⟩ = some (.slice a m c) ∧ wr.frozen? ⟨bl, k, none⟩ = false := by
        obtain ⟨_, xs', hrow, _, hhi⟩ := HT.out
        obtain ⟨a, c, hx, _⟩ := H.out.el k (by rw [← Hn.out]; exact hlt')
        exact ⟨a, c, _, rfl, by rw [hrow.cellAt k (by omega), hhi k (Nat.le_refl _)]; exact hx, hrow.frozenAt k⟩
      have hpb : ¬ p = bl := fun e => H.out.vp (by rw [e]; rfl)
      have hpb' : ¬ bl = p := fun e => hpb e.symm
      have hmR : m ≤ R := by
        have h1 := offs_le rs k (by rw [← Hn.out]; exact hlt')
        have h2 := HR.out.1
        have h3 := HU.out
        have h4 := Hm.out
        omega
      have i1 : (m : Int) ≤ (R : Int) := by omega
      have i2 : (k : Int) < (n : Int) := by omega
      have HS : Hid (MoveInv w2 (wr.setCell ⟨bl, k, none⟩ (.slice (some ⟨w.heap.size, q, none⟩) m R)).drew w.heap.size rs (.slice (some ⟨bl, 0, none⟩) n vc) n xs (k + 1)) := by
        have := move_step Hn.out hlt' HR.out.1 HR.out.2 (by rw [← Hm.out]; exact hmR) HT.out
        rw [← Hm.out] at this
        exact this
      have hO : Hid (poffs rs (k + 1) = poffs rs k + m) := by
        have := offs_succ rs k (by rw [← Hn.out]; exact hlt')
        rw [← Hm.out] at this
        exact this
      have c2' : (wr.setCell ⟨bl, k, none⟩ (.slice (some ⟨w.heap.size, q, none⟩) m R)).cell? ⟨p, o + 2, none⟩ = some (.slice (some ⟨bl, 0, none⟩) n vc) := by
        rw [World.cell?_setCell_other _ _ _ _ (fun e => by cases e; exact hpb rfl)]; exact c2
      by_cases hRm : R = m
      · subst hRm
        go_wp2_with fail
        go_region
        go_wp2
        go_roundw
        case rel => exact ⟨k + 1, q, 0, by omega, by go_num, rfl, ⟨by have := HR.out.1; have := hO.out; omega, fun h => by omega⟩, c2', HS⟩
        case measure => simp [intOf]; omega
      · have i3 : ¬ m = R := fun e => hRm e.symm
        go_wp2_with fail
        go_region
        go_wp2
        go_roundw
        case rel => exact ⟨k + 1, q + m, R - m, by omega, by go_num, rfl, ⟨by have := HR.out.1; have := hO.out; omega, fun h => by have := HR.out.2 (by omega); have := hO.out; omega⟩, c2', HS⟩
        case measure => simp [intOf]; omega
    · obtain rfl : k = n := by omega
      have ca3 : wr.cell? ⟨p, o, none⟩ = some (.slice ad na na) := HT.out.1.cell ca2 (fun e => H.out.vp (by rw [← Hn.out]; exact e))
      have hfa : wr.frozen? ⟨p, o, none⟩ = false := by
        rw [HT.out.1.frozen (by have := HG.out.1.size; show p < _; omega) (fun e => H.out.vp (by rw [← Hn.out]; exact e)), HG.out.1.frozen hplt (fun h => h)]; exact H.out.fa
      go_wp2
      go_end0
      refine ⟨rfl, ?_⟩
      have HM := HT.out
      have HN := Hn.out
      subst HN
      exact move_end H.out hv hp hlt (by rw [← HU.out]; exact hN) HG.out.1 HG.out.2.2.2 hown2 HM

end Go.Proofs.YtdjodigimhgklaaGreatDoor

/- The walk of Names: the names of all files, rising. -/
namespace Go.Proofs.YtdjodigimhgklaaGreatDoor
open Go.RowKit Go.Maps

/-- these are the names of the disk's files, rising -/
def DG.Lists (S : DG) (ns : List (List UInt8)) : Prop := ∃ ks : List (List UInt8), ks.Nodup ∧ (∀ x, x ∈ ks ↔ (S.f x).isSome = true) ∧ ks.length = S.n ∧ (∀ x ∈ ks, x.length ≤ maxLen) ∧ ns = ks.mergeSort leB

theorem DG.Lists.same {S T : DG} {ns ms : List (List UInt8)} (h : S.Lists ns) (k : T.Lists ms) (e : ∀ x, (S.f x).isSome = (T.f x).isSome) : ns = ms := by
  obtain ⟨ks, n1, m1, _, _, rfl⟩ := h
  obtain ⟨js, n2, m2, _, _, rfl⟩ := k
  exact mergeSort_of_perm ((List.perm_ext_iff_of_nodup n1 n2).2 fun x => by rw [m1, m2, e])
theorem DG.Lists.mem {S : DG} {ns : List (List UInt8)} (h : S.Lists ns) (x : List UInt8) (hx : x ∈ ns) : (S.f x).isSome = true ∧ x.length ≤ maxLen := by
  obtain ⟨ks, n1, m1, _, hl, rfl⟩ := h
  have : x ∈ ks := (List.mergeSort_perm ks leB).mem_iff.1 hx
  exact ⟨(m1 x).1 this, hl x this⟩
theorem DG.Lists.len {S : DG} {ns : List (List UInt8)} (h : S.Lists ns) : ns.length = S.n := by
  obtain ⟨ks, _, _, hl, _, rfl⟩ := h
  rw [List.length_mergeSort, hl]

theorem ownsRow_strs {w : World} {B n : Nat} {v : Value} {xs : List Value} (h : w.ownsRow B 9 1 v n xs) : ∃ ad c, v = .slice ad n c ∧ n ≤ c ∧ (ad = none → n = 0) ∧ ∀ i u, xs[i]? = some u → ∃ b, ad = some ⟨b, 0, none⟩ ∧ B ≤ b ∧ b < w.heap.size ∧ w.cell? ⟨b, i, none⟩ = some u := by
  have hl := h.1
  rcases h.2 with ⟨rfl, rfl⟩ | ⟨g, cap, cur, rfl, hb, _, hc, _⟩
  · refine ⟨none, 0, rfl, Nat.le_refl _, fun _ => rfl, fun i u hu => ?_⟩
    have := (List.getElem?_eq_some_iff.1 hu).1
    omega
  · refine ⟨_, _, rfl, hc, (fun h => by cases h), fun i u hu => ⟨g, rfl, hb, (h.lt g rfl).2, ?_⟩⟩
    have := h.cells (g := g) rfl i u hu
    rw [Addr.add_lit, Nat.zero_add] at this
    exact this

set_option maxHeartbeats 1000000 in
theorem names_any (p : Nat) (S : DG) (Fp : Nat → Prop) (w : World) (hd : IsDisk w p S Fp) (hn : S.n ≤ 1000000) :
    Calls Tryz.prog 26 #[.pointer (some ⟨p, 0, none⟩)] w fun e w' => ∃ ns a c, e = .returned (.slice a ns.length c) ∧ S.Lists ns ∧ w'.ownsRow w.heap.size 9 1 (.slice a ns.length c) ns.length (ns.map encStr) ∧ Below w.heap.size w w' := by
  obtain ⟨b, M, hd⟩ := hd
  have c0 := hd.c0
  have hK := callsIn_wide.1 (Tryz.maps_Keys_64 (some b) w)
  have hS := callsIn_wide.1 (Tryz.slices_Sorted_keys_63_64 b (size M) M rv w hd.own (by rw [hd.sz]; unfold maxLen; omega) (by rw [hd.sz]; omega))
  have hND := strKeys_nodup hd.own
  have hlen := strKeys_length hd.own
  have hle := strKeys_le hd.own Tryz.underlying9
  have hhas := hd.has
  have hsz := hd.sz
  clear hd
  go_enter Tryz.func26, Tryz.ntmps26
  go_wp2_with fail
  refine hK.mono ?_
  rintro e w1 ⟨rfl, rfl⟩
  go_wp2_with fail
  refine hS.mono ?_
  rintro e w2 ⟨v, ss, rfl, hperm, hrow, _, hB⟩
  go_wp2
  go_ret
  have hll : ss.length = (ss.mergeSort leB).length := by rw [List.length_mergeSort]
  have hrow' : w2.ownsRow (w.alloc (.cells #[.map (some b)] 83)).heap.size 9 1 v (ss.mergeSort leB).length ((ss.mergeSort leB).map encStr) := by rw [← hll]; exact hrow
  obtain ⟨a, c, rfl, _⟩ := ownsRow_strs hrow'
  refine ⟨ss.mergeSort leB, a, c, rfl, ⟨ss, hperm.nodup_iff.2 hND.1, fun x => ?_, ?_, fun x hx => hle x (hperm.mem_iff.1 hx), rfl⟩, ?_, ?_⟩
  · rw [hperm.mem_iff, hND.2, hhas]
  · rw [hperm.length_eq, hlen, hsz]
  · refine ⟨hrow'.1, ?_⟩
    rcases hrow'.2 with h0 | ⟨g, cap, cur, e, hb, h2⟩
    · exact .inl h0
    · exact .inr ⟨g, cap, cur, e, by simp at hb; omega, h2⟩
  · exact ((Below.refl _ w).alloc (Nat.le_refl _) _).trans (hB.mono (by simp))

end Go.Proofs.YtdjodigimhgklaaGreatDoor

/- A payload put behind the others: what the list of payloads is then. -/
namespace Go.Proofs.YtdjodigimhgklaaGreatDoor
open Go.RowKit

theorem Tryz.info33 : (Tryz.prog.info? 33).map (fun i => (i.zero, i.size, i.bytes)) = some (some (.slice none 0 0), 1, 24) := by kernel_rfl

theorem ownsRow_shape' {w : World} {e : TypeId} {B n : Nat} {v : Value} {xs : List Value} (h : w.ownsRow B e 1 v n xs) : ∃ ad c, v = .slice ad n c ∧ n ≤ c ∧ (ad = none → n = 0 ∧ c = 0) := by
  rcases h.2 with ⟨rfl, rfl⟩ | ⟨g, cap, cur, rfl, _, _, hc, _⟩
  · exact ⟨none, 0, rfl, Nat.le_refl _, fun _ => ⟨rfl, rfl⟩⟩
  · exact ⟨_, _, rfl, hc, fun h => by cases h⟩

/-- a slice of the array that leads to a payload of these bytes at that place -/
def NewElt (g off : Nat) (l : List UInt8) (x : Value) : Prop := ∃ a c, x = .slice a l.length c ∧ l.length ≤ c ∧ (a = none → l.length = 0 ∧ c = 0) ∧ (0 < l.length → a = some ⟨g, off, none⟩)

theorem add_end {w w2 w3 : World} {p o g na : Nat} {rs : List (List UInt8)} {full l : List UInt8} {A v v' x : Value} {xs : List Value} {X : Obj} {Fp : Nat → Prop} (h : PayAt w p o rs g na full A v xs) (hA : ∀ k, A.ownBlock = some k → Fp k) (hv : ∀ k, v.ownBlock = some k → Fp k)
    (hp : Fp p) (hlt : ∀ k, Fp k → k < w.heap.size) (hgr : w.grownBy w2 A.ownBlock) (hown2 : w2.ownsRow 0 5 1 A na (cellsOf (splice full rs.flatten.length l))) (hgr3' : (w2.alloc X).drew.grownBy w3 v.ownBlock)
    (hown3 : w3.ownsRow 0 33 1 v' (rs.length + 1) (xs ++ [x])) (hat3 : v'.ownBlock = v.ownBlock ∨ v'.ownBlock = some (w2.heap.size + 1)) (hx : NewElt g rs.flatten.length l x) (hfit : rs.flatten.length + l.length ≤ na) :
    IsPay ((w3.setCell ⟨p, o + 2, none⟩ v').setCell ⟨p, o + 1, none⟩ (.int .i64 ((rs.flatten.length + l.length : Nat) : Int))) p o (rs ++ [l]) (grow Fp w ((w3.setCell ⟨p, o + 2, none⟩ v').setCell ⟨p, o + 1, none⟩ (.int .i64 ((rs.flatten.length + l.length : Nat) : Int)))) ∧
      Turn Fp w ((w3.setCell ⟨p, o + 2, none⟩ v').setCell ⟨p, o + 1, none⟩ (.int .i64 ((rs.flatten.length + l.length : Nat) : Int))) ∧
      Rest p o w ((w3.setCell ⟨p, o + 2, none⟩ v').setCell ⟨p, o + 1, none⟩ (.int .i64 ((rs.flatten.length + l.length : Nat) : Int))) := by
  obtain ⟨W, hW⟩ : ∃ W, W = (w3.setCell ⟨p, o + 2, none⟩ v').setCell ⟨p, o + 1, none⟩ (.int .i64 ((rs.flatten.length + l.length : Nat) : Int)) := ⟨_, rfl⟩
  have hgr3 : (w2.alloc X).grownBy w3 v.ownBlock := ⟨hgr3'.os, hgr3'.tape, hgr3'.output, hgr3'.size, hgr3'.block⟩
  have hplt := hlt p hp
  have hAp : ¬ A.ownBlock = some p := fun e => by
    rcases h.sh with ⟨e1, _⟩ | e1
    · rw [e1] at e; cases e
    · rw [e1] at e
      have : g = p := by simpa [Value.ownBlock] using e
      exact h.gp (by rw [e1]; rfl) this
  have hvp : ¬ v.ownBlock = some p := h.vp
  have hAv : ∀ k, A.ownBlock = some k → ¬ v.ownBlock = some k := fun k hk => by
    rcases h.sh with ⟨e1, _⟩ | e1
    · rw [e1] at hk; cases hk
    · rw [e1] at hk
      have : g = k := by simpa [Value.ownBlock] using hk
      subst this
      exact h.gv (by rw [e1]; rfl)
  have hT2 : Turn Fp w w2 := Turn.of_grownBy hgr (fun k hk => .inl (hA k hk))
  have hTa : Turn Fp w (w2.alloc X) := hT2.trans (Turn.of_grownBy (Fp := fun _ => False) (World.grownBy_alloc w2 X none) (by simp)) (fun _ _ h => h.elim)
  have hsa : (w2.alloc X).heap.size = w2.heap.size + 1 := by simp
  have hT3 : Turn Fp w w3 := hTa.trans (Turn.of_grownBy (Fp := Fp) hgr3 (fun k hk => .inl (hv k hk))) (fun _ _ h => h)
  have hTW : Turn Fp w W := by rw [hW]; exact (hT3.trans (turn_setCell w3 p (o + 2) _) (fun i _ hi => by subst hi; exact hp)).trans (turn_setCell _ p (o + 1) _) (fun i _ hi => by subst hi; exact hp)
  have ne0 : ∀ k, k < w.heap.size → ¬ A.ownBlock = some k → ¬ v.ownBlock = some k → w3.heap[k]? = w.heap[k]? := fun k hk h1 h2 => by
    rw [hgr3.block k (by have := hgr.size; omega) (fun e => h2 e.symm), (World.grownBy_alloc w2 X none).block k (by have := hgr.size; omega) (by simp), hgr.block k hk (fun e => h1 e.symm)]
  have hp3 : w3.heap[p]? = w.heap[p]? := ne0 p hplt hAp hvp
  have hWk : ∀ k, k ≠ p → W.heap[k]? = w3.heap[k]? := fun k hk => by
    rw [hW, Below.heap_setCell _ _ _ _ hk, Below.heap_setCell _ _ _ _ hk]
  have hv'p : ∀ k, v'.ownBlock = some k → k ≠ p := fun k hk e => by
    subst e
    rcases hat3 with e | e
    · exact hvp (by rw [← e]; exact hk)
    · rw [e] at hk
      have := hgr.size
      simp only [Option.some.injEq] at hk
      omega
  have hv'A : ∀ k, A.ownBlock = some k → ¬ v'.ownBlock = some k := fun k hk e => by
    rcases hat3 with e1 | e1
    · exact hAv k hk (by rw [← e1]; exact e)
    · rw [e1] at e
      have := hlt k (hA k hk)
      have := hgr.size
      simp only [Option.some.injEq] at e
      omega
  have hfl : (rs ++ [l]).flatten = rs.flatten ++ l := by simp
  have hll := h.alt
  have hxl : xs.length = rs.length := by have := h.row.1; omega
  have cell3 : ∀ j y, w.cell? ⟨p, j, none⟩ = some y → w3.cell? ⟨p, j, none⟩ = some y := fun j y hy => by rw [World.cell?_of_block hp3]; exact hy
  have hR : Rest p o w W := by rw [hW]; exact ((Rest.of_block hp3).trans (Rest.setCell _ _ _ (.inr (.inr rfl)))).trans (Rest.setCell _ _ _ (.inr (.inl rfl)))
  rw [← hW]
  refine ⟨⟨g, na, splice full rs.flatten.length l, A, v', xs ++ [x], ?_, fun k hk => .inl (hA k hk), ?_⟩, hTW, hR⟩
  · refine { ca := ?_, cu := ?_, cl := ?_, fa := ?_, fu := ?_, fl := ?_, arr := ?_, sh := h.sh, pre := ?_, fit := ?_, row := ?_, el := ?_, gp := h.gp, vp := fun e => hv'p p e rfl, gv := fun e => hv'A g e }
    · rw [hW, World.cell?_setCell_other _ _ _ _ (by simp), World.cell?_setCell_other _ _ _ _ (by simp)]; exact cell3 _ _ h.ca
    · rw [hW, World.cell?_setCell_same _ _ _ (by rw [World.cell?_setCell_other _ _ _ _ (by simp)]; exact cell3 _ _ h.cu), hfl, List.length_append]
    · rw [hW, World.cell?_setCell_other _ _ _ _ (by simp)]; exact World.cell?_setCell_same _ _ _ (cell3 _ _ h.cl)
    · rw [hW, World.frozen?_setCell, World.frozen?_setCell, World.frozen?_of_block hp3]; exact h.fa
    · rw [hW, World.frozen?_setCell, World.frozen?_setCell, World.frozen?_of_block hp3]; exact h.fu
    · rw [hW, World.frozen?_setCell, World.frozen?_setCell, World.frozen?_of_block hp3]; exact h.fl
    · refine ownsRow_move' hown2 (fun k hk => ?_)
      have hk2 := (hown2.lt k hk).2
      rw [hWk k (fun e => hAp (by rw [← e]; exact hk)), hgr3.block k (by omega) (fun e => hAv k hk e.symm), (World.grownBy_alloc w2 X none).block k hk2 (by simp)]
    · rw [hfl, List.length_append, splice_head _ _ _ (by have := h.fit; omega), h.pre]
    · rw [hfl, List.length_append]; exact hfit
    · rw [List.length_append, List.length_singleton]
      exact ownsRow_move' hown3 (fun k hk => hWk k (hv'p k hk))
    · intro k hk
      rw [List.length_append, List.length_singleton] at hk
      by_cases e : k = rs.length
      · subst e
        obtain ⟨a, c, h1, h2, h3, h4⟩ := hx
        refine ⟨a, c, ?_, ?_, ?_, ?_⟩
        · rw [rc_last, ← hxl, List.getElem?_append_right (Nat.le_refl _), h1]; simp
        · rw [rc_last]; exact h2
        · rw [rc_last]; exact h3
        · rw [rc_last, offs_snoc _ _ _ (Nat.le_refl _), offs_all]; exact h4
      · obtain ⟨a, c, h1, h2⟩ := h.el k (by omega)
        refine ⟨a, c, ?_, ?_⟩
        · rw [rc_snoc _ _ _ (by omega), List.getElem?_append_left (by omega)]; exact h1
        · rw [rc_snoc _ _ _ (by omega), offs_snoc _ _ _ (by omega)]; exact h2
  · intro k hk
    rcases hat3 with e | e
    · rw [e] at hk; exact .inl (hv k hk)
    · refine .inr ⟨?_, ?_⟩
      · rw [e] at hk
        have := hgr.size
        simp only [Option.some.injEq] at hk
        omega
      · have := (hown3.lt k hk).2
        rw [hW]; simp [World.setCell]; omega

end Go.Proofs.YtdjodigimhgklaaGreatDoor
