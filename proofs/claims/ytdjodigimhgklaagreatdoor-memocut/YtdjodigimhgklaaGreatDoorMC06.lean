import Derived.Shelf.SlIter.Nil
import Derived.Shelf.SortM.Plain
import Derived.Shelf.SortM.SortNone
import Derived.Test.YtdjodigimhgklaaGreatDoorProg
import Derived.Test.YtdjodigimhgklaaGreatDoorMC04
import Derived.Test.YtdjodigimhgklaaGreatDoorMC05
import Derived.Test.YtdjodigimhgklaaGreatDoorMC01
import Derived.Outline
import Derived.Maps.AppendAt
/- The kit's contracts on the sorted names of a map, laid at this translation by the kit's own command, in plain words. -/
namespace Go.Proofs.YtdjodigimhgklaaGreatDoor
open Go.RowKit Go.Maps Go.Sort Go.Shelf

def Tryz.keys64_ren : Go.Shelf.Ren := ⟨fun | 7 => 64 | 10 => 102 | n => n, fun | 23 => 83 | 26 => 9 | 3 => 33 | 28 => 124 | 0 => 0 | 27 => 123 | 33 => 106 | 4 => 4 | n => n, fun | n => n⟩
theorem Tryz.keys64 : Go.Proofs.SlLaysZ.n7 Tryz.prog Tryz.keys64_ren := {
  mixed := by kernel_rfl
  f7 := ⟨Tryz.f64.name, by decide, Tryz.func64.trans (congrArg some (by kernel_rfl))⟩
  f10 := ⟨Tryz.f102.name, by decide, Tryz.func102.trans (congrArg some (by kernel_rfl))⟩
  t0 := Tryz.underlying0
  a0 := Tryz.isAgg0
  z0 := Tryz.sizeOf0
  v0 := Tryz.zeroValue0
  t4 := Tryz.underlying4
  a4 := Tryz.isAgg4
  z4 := Tryz.sizeOf4
  v4 := Tryz.zeroValue4
  t23 := Tryz.underlying83
  a23 := Tryz.isAgg83
  z23 := Tryz.sizeOf83
  v23 := Tryz.zeroValue83
  t26 := Tryz.underlying9
  a26 := Tryz.isAgg9
  z26 := Tryz.sizeOf9
  v26 := Tryz.zeroValue9
  t27 := Tryz.underlying123
  a27 := Tryz.isAgg123
  z27 := Tryz.sizeOf123
  v27 := Tryz.zeroValue123
  t28 := Tryz.underlying124
  a28 := Tryz.isAgg124
  z28 := Tryz.sizeOf124
  v28 := Tryz.zeroValue124
  t33 := Tryz.underlying106
  a33 := Tryz.isAgg106
  z33 := Tryz.sizeOf106
  v33 := Tryz.zeroValue106 }
def Tryz.sorted63_ren : Go.Shelf.Ren := ⟨fun | 6 => 63 | 8 => 100 | 9 => 101 | 11 => 135 | 13 => 106 | 12 => 136 | 23 => 145 | 24 => 146 | 14 => 168 | 15 => 169 | 16 => 170 | 17 => 171 | 18 => 172 | 19 => 173 | 20 => 174 | 21 => 175 | 22 => 176 | 25 => 189 | 26 => 178 | 27 => 179 | 28 => 190 | 29 => 191 | 30 => 192 | 31 => 199 | n => n, fun | 26 => 9 | 28 => 124 | 24 => 51 | 0 => 0 | 3 => 3 | 37 => 77 | 48 => 198 | 50 => 22 | 4 => 4 | 40 => 192 | 39 => 191 | 45 => 126 | 5 => 5 | 9 => 9 | 51 => 224 | 55 => 227 | 57 => 238 | 58 => 239 | 33 => 106 | n => n, fun | n => n⟩
theorem Tryz.sorted63 : Go.Proofs.SlLaysZ.n6 Tryz.prog Tryz.sorted63_ren := {
  mixed := by kernel_rfl
  f6 := ⟨Tryz.f63.name, by decide, Tryz.func63.trans (congrArg some (by kernel_rfl))⟩
  f8 := ⟨Tryz.f100.name, by decide, Tryz.func100.trans (congrArg some (by kernel_rfl))⟩
  f11 := ⟨Tryz.f135.name, by decide, Tryz.func135.trans (congrArg some (by kernel_rfl))⟩
  t0 := Tryz.underlying0
  a0 := Tryz.isAgg0
  z0 := Tryz.sizeOf0
  v0 := Tryz.zeroValue0
  t24 := Tryz.underlying51
  a24 := Tryz.isAgg51
  z24 := Tryz.sizeOf51
  v24 := Tryz.zeroValue51
  t26 := Tryz.underlying9
  a26 := Tryz.isAgg9
  z26 := Tryz.sizeOf9
  v26 := Tryz.zeroValue9
  t28 := Tryz.underlying124
  a28 := Tryz.isAgg124
  z28 := Tryz.sizeOf124
  v28 := Tryz.zeroValue124
  i26 := by kernel_rfl }
def Tryz.sort101_ren : Go.Shelf.Ren := ⟨fun | 6 => 101 | 8 => 106 | 9 => 136 | 19 => 145 | 20 => 146 | 21 => 168 | 22 => 169 | 23 => 170 | 24 => 171 | 25 => 172 | 26 => 173 | 27 => 174 | 28 => 175 | 29 => 176 | 36 => 189 | 31 => 178 | 32 => 179 | 37 => 190 | 38 => 191 | 39 => 192 | 41 => 199 | n => n, fun | 27 => 51 | 29 => 9 | 3 => 3 | 32 => 77 | 26 => 51 | 0 => 0 | 44 => 198 | 46 => 22 | 4 => 4 | 36 => 192 | 35 => 191 | 41 => 126 | 5 => 5 | 9 => 9 | 53 => 224 | 57 => 227 | 63 => 238 | 64 => 239 | n => n, fun | n => n⟩
theorem Tryz.sort101 : Go.Proofs.SlLaysM.n6 Tryz.prog Tryz.sort101_ren := {
  mixed := by kernel_rfl
  f6 := ⟨Tryz.f101.name, by decide, Tryz.func101.trans (congrArg some (by kernel_rfl))⟩
  f8 := Tryz.func106.trans (congrArg some (by kernel_rfl))
  f9 := ⟨Tryz.f136.name, by decide, Tryz.func136.trans (congrArg some (by kernel_rfl))⟩
  f19 := Tryz.func145.trans (congrArg some (by kernel_rfl))
  f20 := Tryz.func146.trans (congrArg some (by kernel_rfl))
  f21 := ⟨Tryz.f168.name, by decide, Tryz.func168.trans (congrArg some (by kernel_rfl))⟩
  f22 := ⟨Tryz.f169.name, by decide, Tryz.func169.trans (congrArg some (by kernel_rfl))⟩
  f23 := ⟨Tryz.f170.name, by decide, Tryz.func170.trans (congrArg some (by kernel_rfl))⟩
  f24 := ⟨Tryz.f171.name, by decide, Tryz.func171.trans (congrArg some (by kernel_rfl))⟩
  f25 := ⟨Tryz.f172.name, by decide, Tryz.func172.trans (congrArg some (by kernel_rfl))⟩
  f26 := ⟨Tryz.f173.name, by decide, Tryz.func173.trans (congrArg some (by kernel_rfl))⟩
  f27 := ⟨Tryz.f174.name, by decide, Tryz.func174.trans (congrArg some (by kernel_rfl))⟩
  f28 := ⟨Tryz.f175.name, by decide, Tryz.func175.trans (congrArg some (by kernel_rfl))⟩
  f29 := ⟨Tryz.f176.name, by decide, Tryz.func176.trans (congrArg some (by kernel_rfl))⟩
  f31 := Tryz.func178.trans (congrArg some (by kernel_rfl))
  f32 := Tryz.func179.trans (congrArg some (by kernel_rfl))
  f36 := ⟨Tryz.f189.name, by decide, Tryz.func189.trans (congrArg some (by kernel_rfl))⟩
  f37 := ⟨Tryz.f190.name, by decide, Tryz.func190.trans (congrArg some (by kernel_rfl))⟩
  f38 := ⟨Tryz.f191.name, by decide, Tryz.func191.trans (congrArg some (by kernel_rfl))⟩
  f39 := ⟨Tryz.f192.name, by decide, Tryz.func192.trans (congrArg some (by kernel_rfl))⟩
  f41 := ⟨Tryz.f199.name, by decide, Tryz.func199.trans (congrArg some (by kernel_rfl))⟩
  t0 := Tryz.underlying0
  a0 := Tryz.isAgg0
  z0 := Tryz.sizeOf0
  v0 := Tryz.zeroValue0
  t3 := Tryz.underlying3
  a3 := Tryz.isAgg3
  z3 := Tryz.sizeOf3
  v3 := Tryz.zeroValue3
  t4 := Tryz.underlying4
  a4 := Tryz.isAgg4
  z4 := Tryz.sizeOf4
  v4 := Tryz.zeroValue4
  t5 := Tryz.underlying5
  a5 := Tryz.isAgg5
  z5 := Tryz.sizeOf5
  v5 := Tryz.zeroValue5
  t9 := Tryz.underlying9
  a9 := Tryz.isAgg9
  z9 := Tryz.sizeOf9
  v9 := Tryz.zeroValue9
  t26 := Tryz.underlying51
  a26 := Tryz.isAgg51
  z26 := Tryz.sizeOf51
  v26 := Tryz.zeroValue51
  t27 := Tryz.underlying51
  a27 := Tryz.isAgg51
  z27 := Tryz.sizeOf51
  v27 := Tryz.zeroValue51
  t29 := Tryz.underlying9
  a29 := Tryz.isAgg9
  z29 := Tryz.sizeOf9
  v29 := Tryz.zeroValue9
  t32 := Tryz.underlying77
  a32 := Tryz.isAgg77
  z32 := Tryz.sizeOf77
  v32 := Tryz.zeroValue77
  t35 := Tryz.underlying191
  a35 := Tryz.isAgg191
  z35 := Tryz.sizeOf191
  v35 := Tryz.zeroValue191
  t36 := Tryz.underlying192
  a36 := Tryz.isAgg192
  z36 := Tryz.sizeOf192
  v36 := Tryz.zeroValue192
  t41 := Tryz.underlying126
  a41 := Tryz.isAgg126
  z41 := Tryz.sizeOf126
  v41 := Tryz.zeroValue126
  t44 := Tryz.underlying198
  a44 := Tryz.isAgg198
  z44 := Tryz.sizeOf198
  v44 := Tryz.zeroValue198
  t46 := Tryz.underlying22
  a46 := Tryz.isAgg22
  z46 := Tryz.sizeOf22
  v46 := Tryz.zeroValue22
  t53 := Tryz.underlying224
  a53 := Tryz.isAgg224
  z53 := Tryz.sizeOf224
  v53 := Tryz.zeroValue224
  t57 := Tryz.underlying227
  a57 := Tryz.isAgg227
  z57 := Tryz.sizeOf227
  v57 := Tryz.zeroValue227
  t63 := Tryz.underlying238
  a63 := Tryz.isAgg238
  z63 := Tryz.sizeOf238
  v63 := Tryz.zeroValue238
  t64 := Tryz.underlying239
  a64 := Tryz.isAgg239
  z64 := Tryz.sizeOf239
  v64 := Tryz.zeroValue239 }
theorem Tryz.sorts63 (m : Nat) : AnyZ.SortsIn Tryz.prog Tryz.sorted63_ren Fence.wide m :=
  ⟨fun blk off cap ss W hH hblk hsz => callsIn_wide.2 (AnyM.slices_Sort_string Tryz.sort101 blk off cap ss W hH hblk hsz),
   fun p cap W => callsIn_wide.2 (AnyM.slices_Sort_string_none Tryz.sort101 p cap W)⟩

theorem Tryz.maps_Keys_64 (mb : Option Nat) (W : World) : CallsIn Fence.wide 5 Tryz.prog 64 #[.map mb] W fun e w' => e = .returned (.func (.func 102) #[] #[.pointer (some ⟨W.heap.size, 0, none⟩)]) ∧ w' = W.alloc (.cells #[.map mb] 83) :=
  AnyZ.keys_in Tryz.keys64 Fence.wide 5 trivial rfl mb W

set_option maxHeartbeats 1000000 in
theorem Tryz.slices_Sorted_keys_63_64 {H : Type} (b nn : Nat) (D0 : DataW H) (R : Value → Option (DataW H × List MemPlace)) (w : World) (hown : w.ownsMap Tryz.prog 9 R b nn D0) (hmax : Maps.size D0 ≤ maxLen) (hbytes : Maps.size D0 * 16 ≤ 140737488355328) :
    CallsIn Fence.wide 5 Tryz.prog 63 #[.func (.func 102) #[] #[.pointer (some ⟨w.heap.size, 0, none⟩)]] (w.alloc (.cells #[.map (some b)] 83)) fun e w' => ∃ (v : Value) (ss : List (List UInt8)), e = .returned v ∧ ss.Perm (strKeys D0) ∧
      w'.ownsRow (w.alloc (.cells #[.map (some b)] 83)).heap.size 9 1 v ss.length ((ss.mergeSort (fun x y => decide (x ≤ y))).map encStr) ∧ (v = .slice none 0 0 ↔ ss = []) ∧ Below (w.alloc (.cells #[.map (some b)] 83)).heap.size (w.alloc (.cells #[.map (some b)] 83)) w' := by
  have hbl := hown.lt
  have hseq : SeqGives Fence.wide 2 Tryz.prog 102 #[.pointer (some ⟨w.heap.size, 0, none⟩)] encStr (fun ss => ss.Perm (strKeys D0)) (Maps.size D0) (w.alloc (.cells #[.map (some b)] 83)) :=
    AnyZ.keys_gives (ρ := Tryz.keys64_ren) { Tryz.keys64 with } Fence.wide _ trivial rfl (by omega) w.heap.size b nn D0 _ (by simp) (by simp) (by
      obtain ⟨es, clock, hb, Ft, hs, hD⟩ := hown
      exact ⟨es, clock, (Below.heap_alloc _ _ b hbl).trans hb, Ft, hs, hD⟩)
  exact AnyZ.sorted_in Tryz.sorted63 Fence.wide 5 trivial trivial trivial trivial rfl (by omega) (Tryz.sorts63 _) (enters_of Tryz.func101 (by kernel_rfl) rfl) 102 #[.pointer (some ⟨w.heap.size, 0, none⟩)] trivial (enters_of Tryz.func102 (by kernel_rfl) rfl) _ _ hmax hbytes _ hseq

set_option maxHeartbeats 1000000 in
theorem Tryz.slices_Sorted_keys_nil_63_64 (w : World) :
    CallsIn Fence.wide 5 Tryz.prog 63 #[.func (.func 102) #[] #[.pointer (some ⟨w.heap.size, 0, none⟩)]] (w.alloc (.cells #[.map none] 83)) fun e w' => ∃ (v : Value) (ss : List (List UInt8)), e = .returned v ∧ ss = [] ∧
      w'.ownsRow (w.alloc (.cells #[.map none] 83)).heap.size 9 1 v ss.length ((ss.mergeSort (fun x y => decide (x ≤ y))).map encStr) ∧ (v = .slice none 0 0 ↔ ss = []) ∧ Below (w.alloc (.cells #[.map none] 83)).heap.size (w.alloc (.cells #[.map none] 83)) w' := by
  have hseq : SeqGives Fence.wide 2 Tryz.prog 102 #[.pointer (some ⟨w.heap.size, 0, none⟩)] encStr (fun ss : List (List UInt8) => ss = []) 0 (w.alloc (.cells #[.map none] 83)) :=
    AnyZ.keys_gives_nil (ρ := Tryz.keys64_ren) { Tryz.keys64 with } Fence.wide _ trivial rfl w.heap.size _ (by simp) (by simp)
  exact AnyZ.sorted_in Tryz.sorted63 Fence.wide 5 trivial trivial trivial trivial rfl (by omega) (Tryz.sorts63 _) (enters_of Tryz.func101 (by kernel_rfl) rfl) 102 #[.pointer (some ⟨w.heap.size, 0, none⟩)] trivial (enters_of Tryz.func102 (by kernel_rfl) rfl) _ 0 (Nat.zero_le _) (by omega) _ hseq

end Go.Proofs.YtdjodigimhgklaaGreatDoor

/- Plain facts: a number has one short form; nothing of the program is named here. -/
namespace Go.Proofs.YtdjodigimhgklaaGreatDoor
open Go.RowKit

/-- the number that groups make, the lowest first -/
def val : List UInt8 → Nat
  | [] => 0
  | c :: t => c.toNat % 128 + 128 * val t

/-- groups that are a short form -/
def Canon : List UInt8 → Prop
  | [] => False
  | [c] => c.toNat < 128
  | c :: d :: t => 128 ≤ c.toNat ∧ Canon (d :: t) ∧ 0 < val (d :: t)

theorem byte_low (c : UInt8) : UInt8.ofNat c.toNat = c := by simp
theorem byte_high (c : UInt8) (h : 128 ≤ c.toNat) : UInt8.ofNat (c.toNat % 128 + 128) = c := by
  have := c.toNat_lt
  rw [show c.toNat % 128 + 128 = c.toNat from by omega]
  simp

theorem shortF_val : ∀ (p : List UInt8) (f : Nat), Canon p → p.length ≤ f + 1 → shortF f (val p) = p := by
  intro p
  induction p with
  | nil => intro f h _; exact absurd h (by simp [Canon])
  | cons c t ih =>
    intro f h hl
    cases t with
    | nil =>
      simp only [Canon] at h
      have e : val [c] = c.toNat := by simp only [val]; omega
      rw [e, shortF_low f _ h, byte_low]
    | cons d t =>
      obtain ⟨h1, h2, h3⟩ := h
      simp only [List.length_cons] at hl
      obtain ⟨f', rfl⟩ : ∃ f', f = f' + 1 := ⟨f - 1, by omega⟩
      have e : val (c :: d :: t) = c.toNat % 128 + 128 * val (d :: t) := rfl
      have hm : val (c :: d :: t) % 128 = c.toNat % 128 := by rw [e]; omega
      have hd : val (c :: d :: t) / 128 = val (d :: t) := by rw [e]; omega
      rw [shortF_high f' _ (by rw [e]; omega), hm, hd, byte_high c h1, ih f' h2 (by simp only [List.length_cons]; omega)]

theorem drop_bt (l : List UInt8) (i : Nat) (h : i < l.length) : ∃ c : UInt8, l.drop i = c :: l.drop (i + 1) ∧ bt l i = (c.toNat : Int) := by
  refine ⟨l[i], List.drop_eq_getElem_cons h, ?_⟩
  simp [bt, h]

theorem numFrom_canon (l : List UInt8) : ∀ f i x k, i ≤ 9 → f + i = l.length → numFrom l f i = (x, k, 0) →
    ∃ p, l.drop i = p ++ l.drop k ∧ p.length + i = k ∧ Canon p ∧ (0 < i → 0 < val p) ∧ x = accTo l i + 128 ^ i * (val p : Int) ∧ k ≤ 10 := by
  intro f
  induction f with
  | zero => intro i x k _ _ h; simp [numFrom] at h
  | succ f ih =>
    intro i x k hi hf h
    obtain ⟨c, hd, hc⟩ := drop_bt l i (by omega)
    rw [numFrom] at h
    split at h
    · simp at h
    · rename_i hb
      have hb' : brokenB i (bt l i) = false := by simpa using hb
      have hcl := c.toNat_lt
      split at h
      · rename_i h8
        simp only [Prod.mk.injEq, and_true] at h
        obtain ⟨rfl, rfl⟩ := h
        refine ⟨[c], by rw [hd]; rfl, by simp; omega, by simp only [Canon]; omega, fun h0 => ?_, ?_, by omega⟩
        · simp only [brokenB, hc] at hb'
          simp only [val]
          have : ¬ (c.toNat : Int) = 0 := by
            intro e0
            simp [e0] at hb'
            omega
          omega
        · rw [accTo_succ, hc]
          simp only [val]
          have : (c.toNat : Int) % 128 * 128 ^ i = 128 ^ i * ((c.toNat % 128 + 128 * 0 : Nat) : Int) := by
            rw [Int.mul_comm]
            congr 1
          omega
      · rename_i h8
        have hi9 : i + 1 ≤ 9 := by
          by_cases h9 : i = 9
          · subst h9
            simp [brokenB] at hb'
            omega
          · omega
        obtain ⟨p, h1, h2, h3, h4, h5, h6⟩ := ih (i + 1) x k hi9 (by omega) h
        have hv := h4 (by omega)
        refine ⟨c :: p, by rw [hd, h1]; rfl, by simp; omega, ?_, fun _ => by simp only [val]; omega, ?_, h6⟩
        · cases p with
          | nil => exact absurd h3 (by simp [Canon])
          | cons d t => exact ⟨by omega, h3, hv⟩
        · rw [h5, accTo_succ, hc, Int.pow_succ]
          simp only [val]
          have e1 : ((c.toNat % 128 + 128 * val p : Nat) : Int) = (c.toNat : Int) % 128 + 128 * (val p : Int) := by omega
          rw [e1, Int.mul_add, Int.mul_comm ((c.toNat : Int) % 128), Int.mul_assoc]
          omega

/-- what a reading of a short form answers is what writing it gives -/
theorem num_back (l : List UInt8) (x : Int) (k : Nat) (h : num l = (x, k, 0)) : ∃ X : Nat, x = (X : Int) ∧ short X = l.take k ∧ 1 ≤ k ∧ k ≤ 10 ∧ k ≤ l.length ∧ X < 18446744073709551616 := by
  have hn := h
  unfold num at hn
  obtain ⟨p, h1, h2, h3, _, h5, h6⟩ := numFrom_canon l l.length 0 x k (by omega) (by omega) hn
  have hf := num_fits l
  have hle := num_le l
  have hpos := num_pos l (by rw [h])
  rw [h] at hf hle hpos
  simp only at hf hle hpos
  refine ⟨val p, by rw [h5]; simp [accTo], ?_, hpos, h6, hle, ?_⟩
  · have hp : l.take k = p := by
      have : l = p ++ l.drop k := by simpa using h1
      rw [this, List.take_append_of_le_length (by omega)]
      exact List.take_of_length_le (by omega)
    rw [hp]
    exact shortF_val p 9 h3 (by omega)
  · have : x = (val p : Int) := by rw [h5]; simp [accTo]
    omega

end Go.Proofs.YtdjodigimhgklaaGreatDoor

/- Plain: what a read of each kind makes of the bytes that are left and of the error: the rest, the error, the number told, the bytes told. -/
namespace Go.Proofs.YtdjodigimhgklaaGreatDoor
open Go.RowKit

structure Out where
  rest : List UInt8
  err : Int
  num : Int
  bytes : List UInt8

def Out.no (l : List UInt8) (e : Int) : Out := ⟨l, e, 0, []⟩

def outB (l : List UInt8) : Out := if l.length = 0 then .no l 110 else ⟨l.drop 1, 0, bt l 0, []⟩
def outU (l : List UInt8) : Out := if (num l).2.2 ≠ 0 then .no l (num l).2.2 else ⟨l.drop (num l).2.1, 0, (num l).1, []⟩
def outW (l : List UInt8) : Out := if l.length < 8 then .no l 110 else ⟨l.drop 8, 0, wideVal l 8, []⟩
def outT (l : List UInt8) (m : Int) : Out := if (txt l m).2.2 ≠ 0 then .no l (txt l m).2.2 else ⟨l.drop (txt l m).2.1, 0, 0, (l.take (txt l m).2.1).drop (txt l m).1⟩
def outR (l : List UInt8) (m : Int) : Out := if m < 0 then .no l 2 else if (l.length : Int) < m then .no l 110 else ⟨l.drop m.toNat, 0, 0, l.take m.toNat⟩

/-- a read of kind k, with the number m, of a reader whose error is e -/
def outOf (k m : Int) (l : List UInt8) (e : Int) : Out :=
  if e ≠ 0 then .no l e
  else if k = 0 then outB l else if k = 1 then outU l else if k = 2 then outW l else if k = 3 then outT l m else outR l m

theorem wideVal_take (l : List UInt8) (j : Nat) : ∀ k, k ≤ j → wideVal (l.take j) k = wideVal l k := by
  intro k
  induction k with
  | zero => intro _; rfl
  | succ k ih => intro h; rw [wideVal_succ, wideVal_succ, ih (by omega), bt_take _ _ _ (by omega)]

end Go.Proofs.YtdjodigimhgklaaGreatDoor

/- append of one value to a row that is owned, as a step of a walk; at whatever types. -/
namespace Go.Proofs.YtdjodigimhgklaaGreatDoor
open Go.RowKit

theorem run_push1 (w : World) (T E ty : TypeId) (i0 : TypeInfo) (z : Value) (by_ : Nat) (hu : Tryz.prog.underlying T = some (.slice E)) (hi : Tryz.prog.info? E = some i0) (hz0 : i0.zero = some z) (hz1 : i0.size = 1) (hz2 : i0.bytes = by_) (hzc : z.cells.size = 1)
    (v : Value) (n : Nat) (xs : List Value) (hown : w.ownsRow 0 E 1 v n xs) (G : Nat) (x : Value) (hx : w.cell? ⟨G, 0, none⟩ = some x) (h1 : x.oneCell' = true) (hn : n + 1 ≤ maxLen) (hm : (n + 1) * by_ ≤ 140737488355328) :
    ∃ v' w', (Builtin.append_ #[T, T] ty #[v, .slice (some ⟨G, 0, none⟩) 1 1]).run Tryz.prog w = .ok v' w' ∧ w'.ownsRow 0 E 1 v' (n + 1) (xs ++ [x]) ∧ w.grownBy w' v.ownBlock ∧ (v'.ownBlock = v.ownBlock ∨ v'.ownBlock = some w.heap.size) := by
  obtain ⟨v', w', h2, h3, h4, _, h5⟩ := run_append_own_at (P := Tryz.prog) w 0 T ty E i0 z 1 by_ hu hi hz0 hz1 hz2 hzc (by omega) v n xs hown ⟨G, 0, none⟩ 1 1 [x] (by simp) (by
    intro j u hj
    cases j with
    | zero => simp at hj; subst hj; rw [Addr.add_lit]; exact hx
    | succ j => simp at hj) (by simp [h1]) hn hm (Nat.zero_le _)
  exact ⟨v', w', h2, h3, h4, h5⟩

theorem step_push1 (w : World) {ops : Array Oper} {o : Oper} {a : Act} {K : Act → World → Prop} {Q : Exit → Act → World → Prop} {F : Prop} (hgd : o.guard = none) (s y : Operand) (T E : TypeId) (i0 : TypeInfo) (z : Value) (by_ : Nat)
    (ho : o.op = .call { callee := .builtin .append, args := #[s, y], argTypes := #[T, T] })
    (hu : Tryz.prog.underlying T = some (.slice E)) (hi : Tryz.prog.info? E = some i0) (hz0 : i0.zero = some z) (hz1 : i0.size = 1) (hz2 : i0.bytes = by_) (hzc : z.cells.size = 1)
    (v : Value) (n : Nat) (xs : List Value) (hs : a.eval s = v) (hown : w.ownsRow 0 E 1 v n xs) (G : Nat) (x : Value) (hy : a.eval y = .slice (some ⟨G, 0, none⟩) 1 1) (hx : w.cell? ⟨G, 0, none⟩ = some x) (h1 : x.oneCell' = true) (hn : n + 1 ≤ maxLen) (hm : (n + 1) * by_ ≤ 140737488355328)
    (h : ∀ v' w', w'.ownsRow 0 E 1 v' (n + 1) (xs ++ [x]) → w.grownBy w' v.ownBlock → (v'.ownBlock = v.ownBlock ∨ v'.ownBlock = some w.heap.size) → K (a.put o.dst v') w') :
    if Region.wanted o (yielded ops a.tmps) = true then Oper.wp Tryz.prog o a w K Q else F := by
  have hw : Region.wanted o (yielded ops a.tmps) = true := by simp [Region.wanted, hgd]
  rw [if_pos hw]
  obtain ⟨v', w', hr, h2, h3, h4⟩ := run_push1 w T E o.type i0 z by_ hu hi hz0 hz1 hz2 hzc v n xs hown G x hx h1 hn hm
  unfold Oper.wp execOp
  simp only [ho, resolve, invoke, builtin, Sem.run_bind, Sem.run_pure, Result.andThen_ok, List.map_toArray, List.map_cons, List.map_nil, hs, hy, hr]
  exact h v' w' h2 h3 h4

theorem wpList_push1 (w : World) {ops : Array Oper} {rest : List Oper} {o : Oper} {a : Act} {Q : Exit → Act → World → Prop} (hgd : Region.wanted o (yielded ops a.tmps) = true) (s y : Operand) (T E : TypeId) (i0 : TypeInfo) (z : Value) (by_ : Nat)
    (ho : o.op = .call { callee := .builtin .append, args := #[s, y], argTypes := #[T, T] })
    (hu : Tryz.prog.underlying T = some (.slice E)) (hi : Tryz.prog.info? E = some i0) (hz0 : i0.zero = some z) (hz1 : i0.size = 1) (hz2 : i0.bytes = by_) (hzc : z.cells.size = 1)
    (v : Value) (n : Nat) (xs : List Value) (hs : a.eval s = v) (hown : w.ownsRow 0 E 1 v n xs) (G : Nat) (x : Value) (hy : a.eval y = .slice (some ⟨G, 0, none⟩) 1 1) (hx : w.cell? ⟨G, 0, none⟩ = some x) (h1 : x.oneCell' = true) (hn : n + 1 ≤ maxLen) (hm : (n + 1) * by_ ≤ 140737488355328)
    (h : ∀ v' w', w'.ownsRow 0 E 1 v' (n + 1) (xs ++ [x]) → w.grownBy w' v.ownBlock → (v'.ownBlock = v.ownBlock ∨ v'.ownBlock = some w.heap.size) → wpList Tryz.prog ops Q rest (a.put o.dst v') w') : wpList Tryz.prog ops Q (o :: rest) a w := by
  obtain ⟨v', w', hr, h2, h3, h4⟩ := run_push1 w T E o.type i0 z by_ hu hi hz0 hz1 hz2 hzc v n xs hown G x hx h1 hn hm
  unfold wpList
  rw [if_pos hgd]
  unfold Oper.wp execOp
  simp only [ho, resolve, invoke, builtin, Sem.run_bind, Sem.run_pure, Result.andThen_ok, List.map_toArray, List.map_cons, List.map_nil, hs, hy, hr]
  exact .inl (h v' w' h2 h3 h4)

end Go.Proofs.YtdjodigimhgklaaGreatDoor
