/- The walks of Check and of what it calls. -/
import Derived.Test.YtcmcoefcpncgbaaDoorProg
import Derived.Test.YtcmcoefcpncgbaaDoorBytes
import Derived.Test.YtcmcoefcpncgbaaDoorNPlain
import Derived.Outline
import Derived.WalkSpells
import Derived.RangeFuncBox
namespace Go.Proofs.YtcmcoefcpncgbaaDoor
open Go.RowKit

/-- a text's bytes -/
def bs (s : ByteArray) : List UInt8 := s.data.toList
def mk (l : List UInt8) : ByteArray := ⟨l.toArray⟩
theorem bs_mk (l : List UInt8) : bs (mk l) = l := by simp [bs, mk]
theorem bs_inj {a b : ByteArray} (h : bs a = bs b) : a = b := by
  obtain ⟨x⟩ := a; obtain ⟨y⟩ := b
  exact congrArg ByteArray.mk (Array.toList_inj.1 h)
theorem mk_bs (s : ByteArray) : mk (bs s) = s := bs_inj (bs_mk _)
theorem bs_len (s : ByteArray) : (bs s).length = s.size := by simp [bs]
theorem bs_extract (s : ByteArray) (i j : Nat) : bs (s.extract i j) = ((bs s).take j).drop i := by
  unfold bs
  rw [ByteArray.data_extract, Array.toList_extract, List.extract_eq_take_drop, List.drop_take]
theorem bs_append (s t : ByteArray) : bs (s ++ t) = bs s ++ bs t := by
  unfold bs
  rw [ByteArray.data_append, Array.toList_append]
theorem bs_nil (s : ByteArray) : bs s = [] ↔ s.size = 0 := by rw [← bs_len]; exact List.length_eq_zero_iff.symm
theorem str_beq (s t : ByteArray) : (s.toList == t.toList) = decide (bs s = bs t) := by
  rw [ByteArray.toList_eq, ByteArray.toList_eq, Bool.eq_iff_iff, beq_iff_eq, decide_eq_true_eq]; rfl
/-- does l begin with p? -/
def pre (p l : List UInt8) : Bool := p.isPrefixOf l
theorem pre_iff (p l : List UInt8) : pre p l = true ↔ p <+: l := List.isPrefixOf_iff_prefix

theorem lite_prefix (s p : ByteArray) (w : World) (hs : s.size ≤ maxLen) (hp : p.size ≤ maxLen) :
    Calls Tryd.prog 33 #[.string s, .string p] w fun e w' => e = .returned (.bool (pre (bs p) (bs s))) ∧ w' = w := by
  have hs' : s.size ≤ 9223372036854775807 := by unfold maxLen at hs; omega
  have hp' : p.size ≤ 9223372036854775807 := by unfold maxLen at hp; omega
  by_cases h : p.size ≤ s.size
  · have i1 : (p.size : Int) ≤ s.size := by omega
    go_enter Tryd.func33, Tryd.ntmps33
    go_wp2
    go_ret
    refine ⟨?_, rfl⟩
    have e : ((s.extract 0 p.size).toList == p.toList) = pre (bs p) (bs s) := by
      rw [str_beq, bs_extract, List.drop_zero, Bool.eq_iff_iff, decide_eq_true_eq, pre_iff, List.prefix_iff_eq_take, bs_len]
      exact ⟨fun h => h.symm, fun h => h.symm⟩
    rw [← e]; rfl
  · have i1 : ¬ (p.size : Int) ≤ s.size := by omega
    go_enter Tryd.func33, Tryd.ntmps33
    go_wp2
    go_ret
    refine ⟨?_, rfl⟩
    have e : pre (bs p) (bs s) = false := by
      rw [Bool.eq_false_iff]; intro hh
      have := ((pre_iff _ _).1 hh).length_le
      rw [bs_len, bs_len] at this; omega
    rw [e]; rfl

def may (r : Int) : Bool := !(decide (r < 32) || decide (r = 127) || decide (r = 47))
/-- what is wrong with a text, as a value -/
def spotV (p : Nat × Nat) : Value := .agg #[.int .i64 (p.1 : Int), .int .i64 (p.2 : Int)]
def Box2 (W : World) (g : Nat) (u0 u1 : Value) : Prop := W.heap[g]? = some (.cells #[u0, u1] 30 (0, 0))
theorem Box2.lt {W : World} {g : Nat} {u0 u1 : Value} (h : Box2 W g u0 u1) : g < W.heap.size := (Array.getElem?_eq_some_iff.1 h).1
theorem Box2.new (W : World) (u0 u1 : Value) : Box2 (W.alloc (.cells #[u0, u1] 30)) W.heap.size u0 u1 := World.alloc_heap_new W _
theorem Box2.cell {W : World} {g : Nat} {u0 u1 : Value} (h : Box2 W g u0 u1) : W.cell? ⟨g, 0, none⟩ = some u0 ∧ W.cell? ⟨g, 1, none⟩ = some u1 := by
  simp [World.cell?, show W.heap[g]? = _ from h]
theorem Box2.frozen {W : World} {g : Nat} {u0 u1 : Value} (h : Box2 W g u0 u1) : W.frozen? ⟨g, 0, none⟩ = false ∧ W.frozen? ⟨g, 1, none⟩ = false := by
  simp [World.frozen?, show W.heap[g]? = _ from h]
theorem Box2.all {W : World} {g : Nat} {v0 v1 : Value} (h : Box2 W g v0 v1) (u0 u1 : Value) : Box2 ((W.setCell ⟨g, 0, none⟩ u0).setCell ⟨g, 1, none⟩ u1) g u0 u1 := by
  have h' : W.heap[g]? = _ := h
  simp [Box2, World.setCell, Array.getElem?_modify, h', Array.setIfInBounds]
theorem Box2.other {W : World} {g k i : Nat} {u0 u1 : Value} (h : Box2 W g u0 u1) (hk : g ≠ k) (u : Value) : Box2 (W.setCell ⟨k, i, none⟩ u) g u0 u1 :=
  (Below.heap_setCell _ _ _ _ hk).trans h
theorem Box2.kept {W W' : World} {g : Nat} {u0 u1 : Value} (h : Box2 W g u0 u1) (hB : Below W.heap.size W W') : Box2 W' g u0 u1 := (hB.block g h.lt).trans h

theorem spot_ret {k : Nat} {f : Func} {W : World} {p : Nat} {u0 u1 : Value} {a : Act} {P : Ending → World → Prop} (hf : f.results = #[ResultVar.cell k 30]) (hb : Box2 W p u0 u1) (ha : a.tmps[k]?.getD undef = .pointer (some ⟨p, 0, none⟩)) (hd : a.defers = []) (hP : P (.returned (.agg #[u0, u1])) W) : bodyPost Tryd.prog f P Exit.ret a W := by
  obtain ⟨c0, c1⟩ := hb.cell
  exact bodyPost_ret (v := .agg #[u0, u1]) (by simp [results, hf, go_sem, ha, c0, c1]) hd hP

theorem toList_bs (s : ByteArray) : s.toList = bs s := ByteArray.toList_eq s

end Go.Proofs.YtcmcoefcpncgbaaDoor
