import Derived.Test.YtncagdfbgpdhfaaGreatR03
import Derived.Deep.QuietTactic
import Derived.BigQuiet
import Derived.Laws.OwnMore
import Derived.Laws.RangeAny
import Derived.Test.YtncagdfbgpdhfaaGreatProg
import Derived.Test.YtncagdfbgpdhfaaGreatR01
import Derived.Outline
import Derived.WalkSpells
import Derived.RangeFuncBox
/- What is none of the three kinds, as a commit; and what MustTree, MustCommit do of it. -/
namespace Go.Proofs.YtncagdfbgpdhfaaGreat
open Go.RowKit

/-- a block of a commit's five cells -/
def Box5 (W : World) (B : Nat) (a b c d e : Value) : Prop := W.heap[B]? = some (.cells #[a, b, c, d, e] 78 (0, 0))
theorem Box5.lt {W : World} {B : Nat} {a b c d e : Value} (h : Box5 W B a b c d e) : B < W.heap.size := (Array.getElem?_eq_some_iff.1 h).1
theorem Box5.cell {W : World} {B : Nat} {a b c d e : Value} (h : Box5 W B a b c d e) : W.cell? ⟨B, 0, none⟩ = some a ∧ W.cell? ⟨B, 1, none⟩ = some b ∧ W.cell? ⟨B, 2, none⟩ = some c ∧ W.cell? ⟨B, 3, none⟩ = some d ∧ W.cell? ⟨B, 4, none⟩ = some e := by
  have h' : W.heap[B]? = _ := h
  simp [World.cell?, h']
theorem Box5.frozen {W : World} {B : Nat} {a b c d e : Value} (h : Box5 W B a b c d e) : W.frozen? ⟨B, 0, none⟩ = false ∧ W.frozen? ⟨B, 1, none⟩ = false ∧ W.frozen? ⟨B, 2, none⟩ = false ∧ W.frozen? ⟨B, 3, none⟩ = false ∧ W.frozen? ⟨B, 4, none⟩ = false := by
  have h' : W.heap[B]? = _ := h
  simp [World.frozen?, h']
theorem Box5.new (W : World) (a b c d e : Value) : Box5 (W.alloc (.cells #[a, b, c, d, e] 78)) W.heap.size a b c d e := World.alloc_heap_new W _
theorem Box5.kept {W W' : World} {B : Nat} {a b c d e : Value} (h : Box5 W B a b c d e) (hB : Below W.heap.size W W') : Box5 W' B a b c d e := (hB.block B h.lt).trans h
theorem Box5.all {W : World} {B : Nat} {a b c d e : Value} (h : Box5 W B a b c d e) (a' b' c' d' e' : Value) : Box5 (((((W.setCell ⟨B, 0, none⟩ a').setCell ⟨B, 1, none⟩ b').setCell ⟨B, 2, none⟩ c').setCell ⟨B, 3, none⟩ d').setCell ⟨B, 4, none⟩ e') B a' b' c' d' e' := by
  have h' : W.heap[B]? = _ := h
  have hl := h.lt
  unfold Box5
  simp [World.setCell, Array.getElem?_modify, h']
theorem below5 {n0 : Nat} {w W : World} (h : Below n0 w W) {B : Nat} (hB : n0 ≤ B) (a' b' c' d' e' : Value) : Below n0 w (((((W.setCell ⟨B, 0, none⟩ a').setCell ⟨B, 1, none⟩ b').setCell ⟨B, 2, none⟩ c').setCell ⟨B, 3, none⟩ d').setCell ⟨B, 4, none⟩ e') :=
  ((((h.setCell (p := ⟨B, 0, none⟩) hB _).setCell (p := ⟨B, 1, none⟩) hB _).setCell (p := ⟨B, 2, none⟩) hB _).setCell (p := ⟨B, 3, none⟩) hB _).setCell (p := ⟨B, 4, none⟩) hB _

end Go.Proofs.YtncagdfbgpdhfaaGreat

/- The law's comparisons, of a thing with itself: entries, ids, commits. -/
namespace Go.Proofs.YtncagdfbgpdhfaaGreat
open Go.RowKit

theorem below_drewN {n0 : Nat} {w W : World} (h : Below n0 w W) (n : Nat) : Below n0 w (W.drewN n) := ⟨h.os, h.tape, h.output, h.size, h.block⟩
/-- a slice of ids -/
def Ids (w : World) (a : Option Addr) (n : Nat) (l : List Int) : Prop := l.length = n ∧ (0 < n → ∃ b off, a = some ⟨b, off, none⟩ ∧ ∀ (j : Nat) x, l[j]? = some x → w.cell? ⟨b, off + j, none⟩ = some (.int .u64 x))
theorem Ids.kept {w w' : World} {a : Option Addr} {n : Nat} {l : List Int} (h : Ids w a n l) (hB : Below w.heap.size w w') : Ids w' a n l :=
  ⟨h.1, fun h0 => by
    obtain ⟨b, off, e, hc⟩ := h.2 h0
    exact ⟨b, off, e, fun j x hx => (hB.cell (p := ⟨b, off + j, none⟩) (World.block_lt_of_cell? w _ (hc j x hx))).trans (hc j x hx)⟩⟩
/-- a slice of entries -/
abbrev Ent := ByteArray × Bool × Int
def Ents (w : World) (a : Option Addr) (n : Nat) (l : List Ent) : Prop := l.length = n ∧ (0 < n → ∃ b off, a = some ⟨b, off, none⟩ ∧ ∀ (j : Nat) x, l[j]? = some x → w.cell? ⟨b, off + j * 3, none⟩ = some (.string x.1) ∧ w.cell? ⟨b, off + j * 3 + 1, none⟩ = some (.bool x.2.1) ∧ w.cell? ⟨b, off + j * 3 + 2, none⟩ = some (.int .u64 x.2.2))
theorem Ents.kept {w w' : World} {a : Option Addr} {n : Nat} {l : List Ent} (h : Ents w a n l) (hB : Below w.heap.size w w') : Ents w' a n l :=
  ⟨h.1, fun h0 => by
    obtain ⟨b, off, e, hc⟩ := h.2 h0
    refine ⟨b, off, e, fun j x hx => ?_⟩
    obtain ⟨h1, h2, h3⟩ := hc j x hx
    exact ⟨(hB.cell (p := ⟨b, off + j * 3, none⟩) (World.block_lt_of_cell? w _ h1)).trans h1, (hB.cell (p := ⟨b, off + j * 3 + 1, none⟩) (World.block_lt_of_cell? w _ h2)).trans h2, (hB.cell (p := ⟨b, off + j * 3 + 2, none⟩) (World.block_lt_of_cell? w _ h3)).trans h3⟩⟩

abbrev cmt (t : Int) (pa : Option Addr) (pn pc : Nat) (au : ByteArray) (d : Int) (tx : ByteArray) : Value := .agg #[.int .u64 t, .slice pa pn pc, .string au, .int .i64 d, .string tx]
end Go.Proofs.YtncagdfbgpdhfaaGreat

/- Does an object answer what it must: the walk of says, of every object. -/
namespace Go.Proofs.YtncagdfbgpdhfaaGreat
open Go.RowKit

attribute [local go_sem] Oper.semAt_some

theorem Ids.below {w W : World} {a : Option Addr} {n : Nat} {l : List Int} (h : Ids w a n l) (hB : Below w.heap.size w W) : Ids W a n l := by
  refine ⟨h.1, fun h0 => ?_⟩
  obtain ⟨b, off, e, hc⟩ := h.2 h0
  exact ⟨b, off, e, fun j x hx => (hB.cell (p := ⟨b, off + j, none⟩) (World.block_lt_of_cell? w _ (hc j x hx))).trans (hc j x hx)⟩

theorem own_ids {w : World} {B : Nat} {v : Value} {ids : List Int} (h : w.ownsRow B 31 1 v ids.length (ids.map (Value.int .u64))) : ∃ ad c, v = .slice ad ids.length c ∧ Ids w ad ids.length ids := by
  obtain ⟨ad, c, rfl, hc, hn⟩ := row_shape h
  refine ⟨ad, c, rfl, rfl, fun h0 => ?_⟩
  rcases h.2 with ⟨e, h'⟩ | ⟨g, cap, cur, e, _⟩
  · omega
  · cases e
    refine ⟨g, 0, rfl, fun j x hx => ?_⟩
    have := h.cells (g := g) rfl j (.int .u64 x) (by rw [List.getElem?_map, hx]; rfl)
    rw [Addr.add_lit] at this
    exact this
end Go.Proofs.YtncagdfbgpdhfaaGreat

/- Names and paths as rows of bytes: what the document says of them, and what follows. Of no program. -/
namespace Go.Proofs.YtncagdfbgpdhfaaGreat

/-! runes -/
theorem get_list (s : ByteArray) (n : Nat) : s.get! n = s.data.toList.getD n 0 := by
  obtain ⟨d⟩ := s
  show d[n]! = _
  rw [List.getD_eq_getElem?_getD, getElem!_def]
  show _ = (d.toList[n]?).getD 0
  rw [Array.getElem?_toList]
  cases d[n]? <;> rfl

/-- the rune at the front of these bytes, and its width -/
def dec (l : List UInt8) : Nat × Nat := Utf8.decode ⟨l.toArray⟩ 0

theorem decode_dec (s : ByteArray) (i : Nat) : Utf8.decode s i = dec (s.data.toList.drop i) := by
  have hg : ∀ k, (⟨(s.data.toList.drop i).toArray⟩ : ByteArray).get! (0 + k) = s.get! (i + k) := fun k => by
    rw [get_list, get_list]; simp
  have hz : ∀ k, (0 + k < (⟨(s.data.toList.drop i).toArray⟩ : ByteArray).size) = (i + k < s.size) := fun k => by
    have h1 : (⟨(s.data.toList.drop i).toArray⟩ : ByteArray).size = s.size - i := by
      show (s.data.toList.drop i).toArray.size = s.data.size - i
      simp
    rw [h1]
    exact propext ⟨fun h => by omega, fun h => by omega⟩
  unfold dec Utf8.decode
  simp only [hg, hz]

theorem dec_pos (l : List UInt8) : 1 ≤ (dec l).2 := by
  unfold dec
  simp only [Utf8.decode]
  repeat' split
  all_goals simp

theorem dec_le (l : List UInt8) (h : l ≠ []) : (dec l).2 ≤ l.length := by
  have hl : 1 ≤ l.length := by cases l with | nil => exact absurd rfl h | cons a t => simp
  have hz : (⟨l.toArray⟩ : ByteArray).size = l.length := by show l.toArray.size = _; simp
  unfold dec
  simp only [Utf8.decode, hz]
  repeat' split
  all_goals simp_all
  all_goals omega

/-! names -/
def fffd : List UInt8 := [239, 191, 189]
/-- may the rune at the front not stand in a name? -/
def bad (l : List UInt8) : Bool := decide ((dec l).1 < 32) || decide ((dec l).1 = 127) || decide ((dec l).1 = 47) || (decide ((dec l).1 = 65533) && !(fffd.isPrefixOf l))

theorem drop_lt (l : List UInt8) (h : ¬ l = []) : (l.drop (dec l).2).length < l.length := by
  have := dec_pos l
  have hl : 1 ≤ l.length := by cases l with | nil => exact absurd rfl h | cons a t => simp
  rw [List.length_drop]; omega

/-- the first wrong byte -/
def badAt (l : List UInt8) : Option Nat :=
  if l = [] then none else if bad l then some 0 else (badAt (l.drop (dec l).2)).map (· + (dec l).2)
termination_by l.length
decreasing_by exact drop_lt l (by assumption)

theorem badAt_nil : badAt [] = none := by rw [badAt]; simp
theorem badAt_bad (l : List UInt8) (h : l ≠ []) (hb : bad l = true) : badAt l = some 0 := by rw [badAt, if_neg h, if_pos hb]
theorem badAt_go (l : List UInt8) (h : l ≠ []) (hb : bad l = false) : badAt l = (badAt (l.drop (dec l).2)).map (· + (dec l).2) := by rw [badAt, if_neg h, if_neg (by simp [hb])]

/-- what is wrong with a name -/
def spot (l : List UInt8) : Nat × Nat := if l = [] ∨ l = [46] ∨ l = [46, 46] then (140, 0) else if 32 < l.length then (3, 32) else match badAt l with
  | some k => (140, k)
  | none => (0, 0)
/-! paths -/
/-! what lies in what -/
end Go.Proofs.YtncagdfbgpdhfaaGreat

/- The walks of Check and of what it calls. -/
namespace Go.Proofs.YtncagdfbgpdhfaaGreat
open Go.RowKit

/-- a text's bytes -/
def bs (s : ByteArray) : List UInt8 := s.data.toList
theorem bs_len (s : ByteArray) : (bs s).length = s.size := by simp [bs]
theorem bs_extract (s : ByteArray) (i j : Nat) : bs (s.extract i j) = ((bs s).take j).drop i := by
  unfold bs
  rw [ByteArray.data_extract, Array.toList_extract, List.extract_eq_take_drop, List.drop_take]
theorem str_beq (s t : ByteArray) : (s.toList == t.toList) = decide (bs s = bs t) := by
  rw [ByteArray.toList_eq, ByteArray.toList_eq, Bool.eq_iff_iff, beq_iff_eq, decide_eq_true_eq]; rfl
/-- does l begin with p? -/
def pre (p l : List UInt8) : Bool := p.isPrefixOf l
theorem pre_iff (p l : List UInt8) : pre p l = true ↔ p <+: l := List.isPrefixOf_iff_prefix

theorem lite_prefix (s p : ByteArray) (w : World) (hs : s.size ≤ maxLen) (hp : p.size ≤ maxLen) :
    Calls Tryz.prog 174 #[.string s, .string p] w fun e w' => e = .returned (.bool (pre (bs p) (bs s))) ∧ w' = w := by
  have hs' : s.size ≤ 9223372036854775807 := by unfold maxLen at hs; omega
  have hp' : p.size ≤ 9223372036854775807 := by unfold maxLen at hp; omega
  by_cases h : p.size ≤ s.size
  · have i1 : (p.size : Int) ≤ s.size := by omega
    go_enter Tryz.func174, Tryz.ntmps174
    go_wp2
    go_ret
    refine ⟨?_, rfl⟩
    have e : ((s.extract 0 p.size).toList == p.toList) = pre (bs p) (bs s) := by
      rw [str_beq, bs_extract, List.drop_zero, Bool.eq_iff_iff, decide_eq_true_eq, pre_iff, List.prefix_iff_eq_take, bs_len]
      exact ⟨fun h => h.symm, fun h => h.symm⟩
    rw [← e]; rfl
  · have i1 : ¬ (p.size : Int) ≤ s.size := by omega
    go_enter Tryz.func174, Tryz.ntmps174
    go_wp2
    go_ret
    refine ⟨?_, rfl⟩
    have e : pre (bs p) (bs s) = false := by
      rw [Bool.eq_false_iff]; intro hh
      have := ((pre_iff _ _).1 hh).length_le
      rw [bs_len, bs_len] at this; omega
    rw [e]; rfl

theorem has_prefix (s p : ByteArray) (w : World) (hs : s.size ≤ maxLen) (hp : p.size ≤ maxLen) :
    Calls Tryz.prog 171 #[.string s, .string p] w fun e w' => e = .returned (.bool (pre (bs p) (bs s))) ∧ w' = w := by
  go_enter Tryz.func171, Tryz.ntmps171
  go_wp2_with (go_at_call 174; refine (lite_prefix s p w hs hp).mono ?_; rintro e w' ⟨rfl, rfl⟩)
  go_ret
  exact ⟨rfl, rfl⟩

theorem broken_any (s : ByteArray) (w : World) (hs : s.size ≤ maxLen) :
    Calls Tryz.prog 159 #[.string s] w fun e w' => e = .returned (.bool (!(fffd.isPrefixOf (bs s)))) ∧ w' = w := by
  go_enter Tryz.func159, Tryz.ntmps159
  go_wp2_with (go_at_call 171; refine (has_prefix s ⟨#[239, 191, 189]⟩ w hs (by decide)).mono ?_; rintro e w' ⟨rfl, rfl⟩)
  go_ret
  exact ⟨rfl, rfl⟩

def may (r : Int) : Bool := !(decide (r < 32) || decide (r = 127) || decide (r = 47))
theorem mayStand_any (r : Int) (w : World) :
    Calls Tryz.prog 158 #[.int .i32 r] w fun e w' => e = .returned (.bool (may r)) ∧ w' = w := by
  go_enter Tryz.func158, Tryz.ntmps158
  go_wp2
  all_goals go_ret
  all_goals refine ⟨?_, rfl⟩
  all_goals congr 2
  all_goals simp_all [may]
  all_goals omega

/-- what is wrong with a text, as a value -/
def spotV (p : Nat × Nat) : Value := .agg #[.int .i64 (p.1 : Int), .int .i64 (p.2 : Int)]
def Box2 (W : World) (g : Nat) (u0 u1 : Value) : Prop := W.heap[g]? = some (.cells #[u0, u1] 229 (0, 0))
theorem Box2.lt {W : World} {g : Nat} {u0 u1 : Value} (h : Box2 W g u0 u1) : g < W.heap.size := (Array.getElem?_eq_some_iff.1 h).1
theorem Box2.new (W : World) (u0 u1 : Value) : Box2 (W.alloc (.cells #[u0, u1] 229)) W.heap.size u0 u1 := World.alloc_heap_new W _
theorem Box2.cell {W : World} {g : Nat} {u0 u1 : Value} (h : Box2 W g u0 u1) : W.cell? ⟨g, 0, none⟩ = some u0 ∧ W.cell? ⟨g, 1, none⟩ = some u1 := by
  simp [World.cell?, show W.heap[g]? = _ from h]
theorem Box2.frozen {W : World} {g : Nat} {u0 u1 : Value} (h : Box2 W g u0 u1) : W.frozen? ⟨g, 0, none⟩ = false ∧ W.frozen? ⟨g, 1, none⟩ = false := by
  simp [World.frozen?, show W.heap[g]? = _ from h]
theorem Box2.all {W : World} {g : Nat} {v0 v1 : Value} (h : Box2 W g v0 v1) (u0 u1 : Value) : Box2 ((W.setCell ⟨g, 0, none⟩ u0).setCell ⟨g, 1, none⟩ u1) g u0 u1 := by
  have h' : W.heap[g]? = _ := h
  simp [Box2, World.setCell, Array.getElem?_modify, h', Array.setIfInBounds]
theorem Box2.kept {W W' : World} {g : Nat} {u0 u1 : Value} (h : Box2 W g u0 u1) (hB : Below W.heap.size W W') : Box2 W' g u0 u1 := (hB.block g h.lt).trans h

theorem spot_ret {k : Nat} {f : Func} {W : World} {p : Nat} {u0 u1 : Value} {a : Act} {P : Ending → World → Prop} (hf : f.results = #[ResultVar.cell k 229]) (hb : Box2 W p u0 u1) (ha : a.tmps[k]?.getD undef = .pointer (some ⟨p, 0, none⟩)) (hd : a.defers = []) (hP : P (.returned (.agg #[u0, u1])) W) : bodyPost Tryz.prog f P Exit.ret a W := by
  obtain ⟨c0, c1⟩ := hb.cell
  exact bodyPost_ret (v := .agg #[u0, u1]) (by simp [results, hf, go_sem, ha, c0, c1]) hd hP

theorem toList_bs (s : ByteArray) : s.toList = bs s := ByteArray.toList_eq s

theorem spot_new {w : World} {s : ByteArray} (a b : Int) (h : spotV (spot (bs s)) = .agg #[.int .i64 a, .int .i64 b]) {x : Act} (ha : x.tmps[2]?.getD undef = .pointer (some ⟨w.heap.size, 0, none⟩)) (hd : x.defers = []) :
    bodyPost Tryz.prog Tryz.f131 (fun e w' => e = Ending.returned (spotV (spot (bs s))) ∧ Below w.heap.size w w') Exit.ret x (w.alloc (.cells #[.int .i64 a, .int .i64 b] 229)) :=
  spot_ret (k := 2) rfl (Box2.new _ _ _) ha hd ⟨by rw [h], (Below.refl _ w).alloc (Nat.le_refl _) _⟩

set_option maxHeartbeats 2000000 in
theorem check_any (s : ByteArray) (w : World) (hs : s.size ≤ maxLen) :
    Calls Tryz.prog 131 #[.string s] w fun e w' => e = .returned (spotV (spot (bs s))) ∧ Below w.heap.size w w' := by
  have hs' : s.size ≤ 9223372036854775807 := by unfold maxLen at hs; omega
  by_cases h1 : s.toList = []
  · go_enter Tryz.func131, Tryz.ntmps131
    go_wp2
    exact spot_new _ _ (by rw [toList_bs] at h1; rw [h1]; rfl) rfl rfl
  · by_cases h2 : s.toList = [46]
    · go_enter Tryz.func131, Tryz.ntmps131
      go_wp2
      exact spot_new _ _ (by rw [toList_bs] at h2; rw [h2]; rfl) rfl rfl
    · by_cases h3 : s.toList = [46, 46]
      · go_enter Tryz.func131, Tryz.ntmps131
        go_wp2
        exact spot_new _ _ (by rw [toList_bs] at h3; rw [h3]; rfl) rfl rfl
      · have h0 : ¬ (bs s = [] ∨ bs s = [46] ∨ bs s = [46, 46]) := by rw [← toList_bs]; simp [h1, h2, h3]
        have b1 : s.toList.isEmpty = false := by simpa using h1
        have b2 : (s.toList == [46]) = false := by simpa using h2
        have b3 : (s.toList == [46, 46]) = false := by simpa using h3
        by_cases h4 : 32 < s.size
        · have i4 : (32 : Int) < s.size := by omega
          go_enter Tryz.func131, Tryz.ntmps131
          go_wp2
          exact spot_new _ _ (by unfold spot; rw [if_neg h0, if_pos (show 32 < (bs s).length by rw [bs_len]; exact h4)]; rfl) rfl rfl
        · have i4 : ¬ (32 : Int) < s.size := by omega
          have hsp : spot (bs s) = match badAt (bs s) with | some k => (140, k) | none => (0, 0) := by
            unfold spot; rw [if_neg h0, if_neg (show ¬ 32 < (bs s).length by rw [bs_len]; exact h4)] <;> cases badAt (bs s) <;> rfl
          have HS : Hid (spot (bs s) = match badAt (bs s) with | some k => (140, k) | none => (0, 0)) := hsp
          clear hsp h0
          go_enter Tryz.func131, Tryz.ntmps131
          go_wp2
          go_loopw [] (fun wr => ∃ p : Nat, p ≤ s.size ∧ wr = (w.alloc (.cells #[.int .i64 0, .int .i64 0] 229)).iter s p ∧ Hid (badAt (bs s) = (badAt ((bs s).drop p)).map (· + p))) (fun wr => s.size - wr.iterPos (w.heap.size + 1))
          case atStart => exact ⟨0, Nat.zero_le _, rfl, by simp [Hid]⟩
          case round =>
            obtain ⟨p, hp, rfl, H⟩ := hrel
            by_cases hlt : p < s.size
            · obtain ⟨r, hr⟩ : ∃ r, r = (dec ((bs s).drop p)).1 := ⟨_, rfl⟩
              obtain ⟨d, hd⟩ : ∃ d, d = (dec ((bs s).drop p)).2 := ⟨_, rfl⟩
              have hne : (bs s).drop p ≠ [] := fun e => by
                have := congrArg List.length e
                rw [List.length_drop, bs_len] at this; simp at this; omega
              have hd1 : 1 ≤ d := by rw [hd]; exact dec_pos _
              have hd2 : p + d ≤ s.size := by
                have := dec_le _ hne
                rw [← hd, List.length_drop, bs_len] at this; omega
              have hdec : Utf8.decode s p = (r, d) := by rw [decode_dec, hr, hd]; rfl
              have hrle : r ≤ 2147483647 := by have := decode_le s p; rw [hdec] at this; exact this
              have hnx := run_next_any (P := Tryz.prog) (w.alloc (.cells #[.int .i64 0, .int .i64 0] 229)) s p (h := hlt)
              rw [hdec] at hnx
              obtain ⟨W1, hW1⟩ : ∃ W1, W1 = (w.alloc (.cells #[.int .i64 0, .int .i64 0] 229)).iter s p := ⟨_, rfl⟩
              obtain ⟨W2, hW2⟩ : ∃ W2, W2 = (w.alloc (.cells #[.int .i64 0, .int .i64 0] 229)).iter s (p + d) := ⟨_, rfl⟩
              have hbox : Box2 W2 w.heap.size (.int .i64 0) (.int .i64 0) := by
                rw [hW2]; exact (Box2.new w _ _).kept ((Below.refl _ _).alloc (Nat.le_refl _) _)
              have HB2 : Hid (Below w.heap.size w W2) := by
                rw [hW2]; exact ((Below.refl _ w).alloc (Nat.le_refl _) _).alloc (by simp) _
              have HBox : Hid (Box2 W2 w.heap.size (.int .i64 0) (.int .i64 0)) := hbox
              have HW2 : Hid (W2 = (w.alloc (.cells #[.int .i64 0, .int .i64 0] 229)).iter s (p + d)) := hW2
              have hm1 : Hid (s.size - W2.iterPos (w.heap.size + 1) < s.size - W1.iterPos (w.heap.size + 1)) := by
                have e1 := World.iterPos_iter (w.alloc (.cells #[.int .i64 0, .int .i64 0] 229)) s p
                have e2 := World.iterPos_iter (w.alloc (.cells #[.int .i64 0, .int .i64 0] 229)) s (p + d)
                rw [← hW1, World.size_alloc] at e1
                rw [← hW2, World.size_alloc] at e2
                show _ < _
                rw [e1, e2]; omega
              rw [← hW1, ← hW2, World.size_alloc] at hnx
              rw [← hW1]
              obtain ⟨c0, c1⟩ := hbox.cell
              obtain ⟨f0, f1⟩ := hbox.frozen
              have HBd : Hid (bad ((bs s).drop p) = (!may (r : Int) || (decide (r = 65533) && !(fffd.isPrefixOf (bs (s.extract p s.size)))))) := by
                show _ = _
                rw [bs_extract, show (bs s).take s.size = bs s by rw [← bs_len]; exact List.take_length]
                simp only [bad, may, ← hr, Bool.not_not]
                have e1 : decide ((r : Int) < 32) = decide (r < 32) := decide_eq_decide.2 (by omega)
                have e2 : decide ((r : Int) = 127) = decide (r = 127) := decide_eq_decide.2 (by omega)
                have e3 : decide ((r : Int) = 47) = decide (r = 47) := decide_eq_decide.2 (by omega)
                rw [e1, e2, e3]
              have HStop : Hid (bad ((bs s).drop p) = true → spotV (spot (bs s)) = .agg #[.int .i64 140, .int .i64 (p : Int)]) := fun hb => by
                rw [HS.out, H.out, badAt_bad _ hne hb]; simp [spotV]
              have HGo : Hid (bad ((bs s).drop p) = false → badAt (bs s) = (badAt ((bs s).drop (p + d))).map (· + (p + d))) := fun hb => by
                rw [H.out, badAt_go _ hne hb, ← hd, List.drop_drop, Option.map_map]
                congr 1
                funext x; simp; omega
              have HNe : Hid ((bs s).drop p ≠ []) := hne
              clear hne hd hr hdec hW1 hW2 hbox HS H
              have i3 : (p : Int) ≤ s.size := by omega
              have HEnd : Hid (bad ((bs s).drop p) = true → ∀ a : Act, a.tmps[2]?.getD undef = .pointer (some ⟨w.heap.size, 0, none⟩) → a.defers = [] → bodyPost Tryz.prog Tryz.f131 (fun e w' => e = Ending.returned (spotV (spot (bs s))) ∧ Below w.heap.size w w') Exit.ret a ((W2.setCell ⟨w.heap.size, 0, none⟩ (.int .i64 140)).setCell ⟨w.heap.size, 1, none⟩ (.int .i64 (p : Int)))) := fun hb a ha hd =>
                spot_ret (k := 2) rfl (HBox.out.all _ _) ha hd ⟨by rw [HStop.out hb], (HB2.out.setCell (p := ⟨w.heap.size, 0, none⟩) (Nat.le_refl _) _).setCell (p := ⟨w.heap.size, 1, none⟩) (Nat.le_refl _) _⟩
              have HNext : Hid (bad ((bs s).drop p) = false → ∃ p', p' ≤ s.size ∧ W2 = (w.alloc (.cells #[.int .i64 0, .int .i64 0] 229)).iter s p' ∧ Hid (badAt (bs s) = (badAt ((bs s).drop p')).map (· + p'))) := fun hb => ⟨p + d, hd2, HW2.out, HGo.out hb⟩
              clear HW2 HBox HStop HGo HNe
              cases hmy : may (r : Int) with
              | false =>
                have HX : Hid (bad ((bs s).drop p) = true) := by show _ = _; rw [HBd.out, hmy]; rfl
                clear HBd HNext
                go_wp2_with (go_at_call 158; refine (mayStand_any r _).mono ?_; rintro e w' ⟨rfl, rfl⟩; rw [hmy])
                exact HEnd.out HX.out _ rfl rfl
              | true =>
                by_cases h65 : r = 65533
                · subst h65
                  simp only [show ((65533 : Nat) : Int) = 65533 from rfl] at hnx hmy HBd
                  cases hfp : (!(fffd.isPrefixOf (bs (s.extract p s.size)))) with
                  | true =>
                    have HX : Hid (bad ((bs s).drop p) = true) := by show _ = _; rw [HBd.out, hmy, hfp]; rfl
                    clear HBd HNext
                    go_wp2_with first
                      | (go_at_call 158; refine (mayStand_any 65533 _).mono ?_; rintro e w' ⟨rfl, rfl⟩; rw [hmy])
                      | (go_at_call 159; refine (broken_any (s.extract p s.size) _ (by simp; omega)).mono ?_; rintro e w' ⟨rfl, rfl⟩; rw [hfp])
                    exact HEnd.out HX.out _ rfl rfl
                  | false =>
                    have HX : Hid (bad ((bs s).drop p) = false) := by show _ = _; rw [HBd.out, hmy, hfp]; simp
                    clear HBd HEnd
                    go_wp2_with first
                      | (go_at_call 158; refine (mayStand_any 65533 _).mono ?_; rintro e w' ⟨rfl, rfl⟩; rw [hmy])
                      | (go_at_call 159; refine (broken_any (s.extract p s.size) _ (by simp; omega)).mono ?_; rintro e w' ⟨rfl, rfl⟩; rw [hfp])
                    go_roundw
                    case rel => exact HNext.out HX.out
                    case measure => exact hm1.out
                · have i5 : ¬ (r : Int) = 65533 := by omega
                  have HX : Hid (bad ((bs s).drop p) = false) := by show _ = _; rw [HBd.out, hmy]; simp [h65]
                  clear HBd HEnd
                  go_wp2_with (go_at_call 158; refine (mayStand_any r _).mono ?_; rintro e w' ⟨rfl, rfl⟩; rw [hmy])
                  go_roundw
                  case rel => exact HNext.out HX.out
                  case measure => exact hm1.out
            · obtain rfl : p = s.size := by omega
              have hnx := run_next_end (P := Tryz.prog) (w.alloc (.cells #[.int .i64 0, .int .i64 0] 229)) s s.size (h := Nat.lt_irrefl _)
              obtain ⟨W1, hW1⟩ : ∃ W1, W1 = (w.alloc (.cells #[.int .i64 0, .int .i64 0] 229)).iter s s.size := ⟨_, rfl⟩
              have hbox : Box2 W1 w.heap.size (.int .i64 0) (.int .i64 0) := by
                rw [hW1]; exact (Box2.new w _ _).kept ((Below.refl _ _).alloc (Nat.le_refl _) _)
              have HBox : Hid (Box2 W1 w.heap.size (.int .i64 0) (.int .i64 0)) := hbox
              have HB1 : Hid (Below w.heap.size w W1) := by
                rw [hW1]; exact ((Below.refl _ w).alloc (Nat.le_refl _) _).alloc (by simp) _
              rw [← hW1, World.size_alloc] at hnx
              rw [← hW1]
              obtain ⟨c0, c1⟩ := hbox.cell
              obtain ⟨f0, f1⟩ := hbox.frozen
              have HE : Hid (spotV (spot (bs s)) = .agg #[.int .i64 0, .int .i64 0]) := by
                show _ = _
                rw [HS.out, H.out, List.drop_eq_nil_of_le (by rw [bs_len]; exact Nat.le_refl _), badAt_nil]; rfl
              clear hW1 hbox HS H
              go_wp2
              exact spot_ret (k := 2) rfl (HBox.out.all _ _) rfl rfl ⟨by rw [HE.out], (HB1.out.setCell (p := ⟨w.heap.size, 0, none⟩) (Nat.le_refl _) _).setCell (p := ⟨w.heap.size, 1, none⟩) (Nat.le_refl _) _⟩
end Go.Proofs.YtncagdfbgpdhfaaGreat

/- The walk of the document's Spot. -/
namespace Go.Proofs.YtncagdfbgpdhfaaGreat
open Go.RowKit

end Go.Proofs.YtncagdfbgpdhfaaGreat
