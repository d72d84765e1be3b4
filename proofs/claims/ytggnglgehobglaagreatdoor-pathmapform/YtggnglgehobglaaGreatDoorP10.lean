import Derived.Test.YtggnglgehobglaaGreatDoorP09
import Derived.Test.YtggnglgehobglaaGreatDoorP03
import Derived.Test.YtggnglgehobglaaGreatDoorP05
import Derived.Laws.StructEq
import Derived.Test.YtggnglgehobglaaGreatDoorP06
import Derived.Maps.OwnIn
import Derived.Maps.AppendAt
/- A rule in memory, and rules held against each other. -/
namespace Go.Proofs.YtggnglgehobglaaGreatDoor
open Go.RowKit Go.Shelf

attribute [local go_sem] Oper.semAt_some

abbrev rv (k : Int) (f t : ByteArray) : Value := .agg #[.int .i64 k, .string f, .string t]
/-- the value of a rule -/
abbrev ruV (r : Ru) : Value := rv r.1 (mk r.2.1) (mk r.2.2)
theorem eqR (w : World) (k k' : Int) (f f' t t' : ByteArray) : (binOp .eql 31 (rv k f t) (rv k' f' t')).run Tryz.prog w = .ok (.bool (k == k' && (f.toList == f'.toList && t.toList == t'.toList))) w := by
  have u3 := Tryz.underlying3
  have u9 := Tryz.underlying9
  have hS : Tryz.prog.underlying 31 = some (.struct (Tryz.prog.fieldsOf 31)) := by kernel_rfl
  have hp : Tryz.prog.stoodInHeld 31 = false := by kernel_rfl
  rw [run_eql_struct, show (10000 : Nat) = 9999 + 1 from rfl, run_equalIn_agg w 9999 31 _ _ hS hp]
  simp only [Program.fieldsOf, Tryz.underlying31]
  go_simp
  cases h1 : (k == k') <;> cases h2 : (f.toList == f'.toList) <;> cases h3 : (t.toList == t'.toList) <;> simp_all
theorem neR (w : World) (k k' : Int) (f f' t t' : ByteArray) : (binOp .neq 31 (rv k f t) (rv k' f' t')).run Tryz.prog w = .ok (.bool (!(k == k' && (f.toList == f'.toList && t.toList == t'.toList)))) w := by
  have h := eqR w k k' f f' t t'
  rw [run_eql_struct] at h
  rw [run_neq_struct]
  generalize (Op.equalIn 10000 31 (rv k f t) (rv k' f' t')).run Tryz.prog w = r at *
  cases r with
  | ok b w1 =>
    simp only [Result.andThen] at h ⊢
    cases h
    rfl
  | halt x w1 => cases h
theorem eqS (w : World) (a b c d : Int) : (binOp .eql 48 (.agg #[.int .i64 a, .int .i64 b]) (.agg #[.int .i64 c, .int .i64 d])).run Tryz.prog w = .ok (.bool (a == c && b == d)) w := by
  have u3 := Tryz.underlying3
  have u9 := Tryz.underlying25
  have hS : Tryz.prog.underlying 48 = some (.struct (Tryz.prog.fieldsOf 48)) := by kernel_rfl
  have hp : Tryz.prog.stoodInHeld 48 = false := by kernel_rfl
  rw [run_eql_struct, show (10000 : Nat) = 9999 + 1 from rfl, run_equalIn_agg w 9999 48 _ _ hS hp]
  simp only [Program.fieldsOf, Tryz.underlying48]
  go_simp
  cases h1 : (a == c) <;> cases h2 : (b == d) <;> simp_all

def BoxR (W : World) (g : Nat) (k : Int) (f t : ByteArray) : Prop := W.heap[g]? = some (.cells #[.int .i64 k, .string f, .string t] 31 (0, 0))
theorem BoxR.lt {W : World} {g : Nat} {k : Int} {f t : ByteArray} (h : BoxR W g k f t) : g < W.heap.size := (Array.getElem?_eq_some_iff.1 h).1
theorem BoxR.new (W : World) (k : Int) (f t : ByteArray) : BoxR (W.alloc (.cells #[.int .i64 k, .string f, .string t] 31)) W.heap.size k f t := World.alloc_heap_new W _
theorem BoxR.below {W W' : World} {B g : Nat} {k : Int} {f t : ByteArray} (h : BoxR W g k f t) (hB : Below B W W') (hg : g < B) : BoxR W' g k f t := (hB.block g hg).trans h
theorem BoxR.cell {W : World} {g : Nat} {k : Int} {f t : ByteArray} (h : BoxR W g k f t) : W.cell? ⟨g, 0, none⟩ = some (.int .i64 k) ∧ W.cell? ⟨g, 1, none⟩ = some (.string f) ∧ W.cell? ⟨g, 2, none⟩ = some (.string t) := by
  unfold BoxR at h
  refine ⟨?_, ?_, ?_⟩ <;> simp [World.cell?, h]
theorem BoxR.frozen {W : World} {g : Nat} {k : Int} {f t : ByteArray} (h : BoxR W g k f t) : W.frozen? ⟨g, 0, none⟩ = false ∧ W.frozen? ⟨g, 1, none⟩ = false ∧ W.frozen? ⟨g, 2, none⟩ = false := by
  unfold BoxR at h
  refine ⟨?_, ?_, ?_⟩ <;> simp [World.frozen?, h]
theorem BoxR.all {W : World} {g : Nat} {k : Int} {f t : ByteArray} (h : BoxR W g k f t) (k' : Int) (f' t' : ByteArray) : BoxR (((W.setCell ⟨g, 0, none⟩ (.int .i64 k')).setCell ⟨g, 1, none⟩ (.string f')).setCell ⟨g, 2, none⟩ (.string t')) g k' f' t' := by
  have h' := h
  unfold BoxR at h'
  simp [BoxR, World.setCell, Array.getElem?_modify, h', Array.setIfInBounds]
theorem BoxR.set0 {W : World} {g : Nat} {k : Int} {f t : ByteArray} (h : BoxR W g k f t) (k' : Int) : BoxR (W.setCell ⟨g, 0, none⟩ (.int .i64 k')) g k' f t := by
  have h' := h
  unfold BoxR at h'
  simp [BoxR, World.setCell, Array.getElem?_modify, h', Array.setIfInBounds]
theorem BoxR.set1 {W : World} {g : Nat} {k : Int} {f t : ByteArray} (h : BoxR W g k f t) (f' : ByteArray) : BoxR (W.setCell ⟨g, 1, none⟩ (.string f')) g k f' t := by
  have h' := h
  unfold BoxR at h'
  simp [BoxR, World.setCell, Array.getElem?_modify, h', Array.setIfInBounds]
theorem BoxR.set2 {W : World} {g : Nat} {k : Int} {f t : ByteArray} (h : BoxR W g k f t) (t' : ByteArray) : BoxR (W.setCell ⟨g, 2, none⟩ (.string t')) g k f t' := by
  have h' := h
  unfold BoxR at h'
  simp [BoxR, World.setCell, Array.getElem?_modify, h', Array.setIfInBounds]
theorem BoxR.other {W : World} {g j i : Nat} {k : Int} {f t : ByteArray} (h : BoxR W g k f t) (hk : g ≠ j) (u : Value) : BoxR (W.setCell ⟨j, i, none⟩ u) g k f t :=
  (Below.heap_setCell _ _ _ _ hk).trans h
theorem str_empty (s : ByteArray) : s.toList.isEmpty = decide (bs s = []) := by
  rw [toList_bs]
  cases bs s <;> rfl
end Go.Proofs.YtggnglgehobglaaGreatDoor

/- The walks of pathmap's join, isPath, lets, target, keep, drop, move, moved. -/
namespace Go.Proofs.YtggnglgehobglaaGreatDoor
open Go.RowKit Go.Shelf

attribute [local go_sem] Oper.semAt_some

def joinR (p q : List UInt8) : List UInt8 := if p = [] ∨ q = [] then p ++ q else p ++ 47 :: q
def joinB (p q : ByteArray) : ByteArray := mk (joinR (bs p) (bs q))
theorem joinB_size (p q : ByteArray) : (joinB p q).size ≤ p.size + q.size + 1 := by
  unfold joinB
  rw [← bs_len, bs_mk]
  unfold joinR
  split
  · rw [List.length_append, bs_len, bs_len]; omega
  · rw [List.length_append, List.length_cons, bs_len, bs_len]; omega
theorem bs_app (a b : ByteArray) : bs (a ++ b) = bs a ++ bs b := by simp [bs]
theorem mjoin_any (p q : ByteArray) (w : World) (hp : p.size ≤ 1000000) (hq : q.size ≤ 1000000) :
    Calls Tryz.prog 51 #[.string p, .string q] w fun e w' => e = .returned (.string (joinB p q)) ∧ w' = w := by
  by_cases h1 : bs p = []
  · have hj : joinB p q = p ++ q := by apply bs_inj; unfold joinB; rw [bs_mk, joinR, if_pos (.inl h1), bs_app]
    have b1 : p.toList.isEmpty = true := by rw [str_empty]; simpa using h1
    rw [hj]
    clear h1 hj
    go_enter Tryz.func51, Tryz.ntmps51
    go_wp2
    go_ret
    exact ⟨rfl, rfl⟩
  · have b1 : p.toList.isEmpty = false := by rw [str_empty]; simpa using h1
    by_cases h2 : bs q = []
    · have hj : joinB p q = p ++ q := by apply bs_inj; unfold joinB; rw [bs_mk, joinR, if_pos (.inr h2), bs_app]
      have b2 : q.toList.isEmpty = true := by rw [str_empty]; simpa using h2
      rw [hj]
      clear h1 h2 hj
      go_enter Tryz.func51, Tryz.ntmps51
      go_wp2
      go_ret
      exact ⟨rfl, rfl⟩
    · have hj : joinB p q = p ++ ⟨#[47]⟩ ++ q := by
        apply bs_inj
        unfold joinB
        rw [bs_mk, joinR, if_neg (fun h => h.elim h1 h2), bs_app, bs_app, List.append_assoc]
        rfl
      have b2 : q.toList.isEmpty = false := by rw [str_empty]; simpa using h2
      rw [hj]
      clear h1 h2 hj
      go_enter Tryz.func51, Tryz.ntmps51
      go_wp2
      go_ret
      exact ⟨rfl, rfl⟩
theorem misPath_any (s : ByteArray) (w : World) (hs : s.size ≤ maxLen) :
    Calls Tryz.prog 30 #[.string s] w fun e w' => e = .returned (.bool (isP (bs s))) ∧ Below w.heap.size w w' := by
  have hp := path_any s w hs
  obtain ⟨e1, h1⟩ : ∃ e1, e1 = (pathSpot (bs s)).1 := ⟨_, rfl⟩
  obtain ⟨e2, h2⟩ : ∃ e2, e2 = (pathSpot (bs s)).2 := ⟨_, rfl⟩
  simp only [spotV] at hp
  rw [← h1, ← h2] at hp
  have H : Hid (((e1 : Int) == 0) = isP (bs s)) := by
    show _ = _
    unfold isP
    rw [← h1, Bool.eq_iff_iff, beq_iff_eq, beq_iff_eq]; omega
  clear h1 h2
  have hfd := fun w => field0 (.int .i64 (e1 : Int)) (.int .i64 (e2 : Int)) w
  go_enter Tryz.func30, Tryz.ntmps30
  go_wp2_with (go_at_call 50; refine hp.mono ?_; rintro e w' ⟨rfl, hB⟩)
  go_ret
  exact ⟨by rw [← H.out]; rfl, hB⟩
/-- does a rule of that kind let rows through? -/
def letsK (k : Int) : Bool := k == 1 || k == 3
theorem lets_any (k : Int) (f t : ByteArray) (w : World) : Calls Tryz.prog 41 #[rv k f t] w fun e w' => e = .returned (.bool (letsK k)) ∧ Below w.heap.size w w' := by
  have hb := BoxR.new w k f t
  obtain ⟨c0, c1, c2⟩ := hb.cell
  have HB : Hid (Below w.heap.size w (w.alloc (.cells #[.int .i64 k, .string f, .string t] 31))) := (Below.refl _ w).alloc (Nat.le_refl _) _
  by_cases h1 : k = 1
  · subst h1
    clear hb
    go_enter Tryz.func41, Tryz.ntmps41
    go_wp2
    go_ret
    exact ⟨rfl, HB.out⟩
  · have h1' : (k == 1) = false := beq_eq_false_iff_ne.2 h1
    by_cases h3 : k = 3
    · subst h3
      clear hb
      go_enter Tryz.func41, Tryz.ntmps41
      go_wp2
      go_ret
      exact ⟨rfl, HB.out⟩
    · have h3' : (k == 3) = false := beq_eq_false_iff_ne.2 h3
      have e : letsK k = false := by unfold letsK; rw [h1', h3']; rfl
      rw [e]
      clear hb e
      go_enter Tryz.func41, Tryz.ntmps41
      go_wp2
      go_ret
      exact ⟨rfl, HB.out⟩
def tgt (k : Int) (f t : ByteArray) : ByteArray := if k = 1 then f else t
theorem target_any (k : Int) (f t : ByteArray) (w : World) : Calls Tryz.prog 43 #[rv k f t] w fun e w' => e = .returned (.string (tgt k f t)) ∧ Below w.heap.size w w' := by
  have hb := BoxR.new w k f t
  obtain ⟨c0, c1, c2⟩ := hb.cell
  have HB : Hid (Below w.heap.size w (w.alloc (.cells #[.int .i64 k, .string f, .string t] 31))) := (Below.refl _ w).alloc (Nat.le_refl _) _
  by_cases h1 : k = 1
  · subst h1
    clear hb
    go_enter Tryz.func43, Tryz.ntmps43
    go_wp2
    go_ret
    exact ⟨rfl, HB.out⟩
  · have h1' : (k == 1) = false := beq_eq_false_iff_ne.2 h1
    have e : tgt k f t = t := by unfold tgt; rw [if_neg h1]
    rw [e]
    clear hb e
    go_enter Tryz.func43, Tryz.ntmps43
    go_wp2
    go_ret
    exact ⟨rfl, HB.out⟩
/-- where a rule brings a row -/
def movB (k : Int) (f t row : ByteArray) : ByteArray := joinB (tgt k f t) (restS row f)
theorem moved_any (k : Int) (f t row : ByteArray) (w : World) (hf : f.size ≤ 500000) (ht : t.size ≤ 500000) (hr : row.size ≤ 500000) (hg : rightB (bs f) = true) :
    Calls Tryz.prog 44 #[rv k f t, .string row] w fun e w' => e = .returned (.string (movB k f t row)) ∧ Below w.heap.size w w' := by
  have hb := BoxR.new w k f t
  obtain ⟨c0, c1, c2⟩ := hb.cell
  have HB : Hid (Below w.heap.size w (w.alloc (.cells #[.int .i64 k, .string f, .string t] 31))) := (Below.refl _ w).alloc (Nat.le_refl _) _
  have HBx : Hid (BoxR (w.alloc (.cells #[.int .i64 k, .string f, .string t] 31)) w.heap.size k f t) := hb
  have hre := fun W => mrest_any row f W hr hf hg
  have hta := fun W => target_any k f t W
  have hts : (tgt k f t).size ≤ 500000 := by unfold tgt; split <;> assumption
  have hrs : (restS row f).size ≤ 500000 := Nat.le_trans (restS_size _ _) hr
  have hjo := fun W => mjoin_any (tgt k f t) (restS row f) W (by omega) (by omega)
  have HJ : Hid (joinB (tgt k f t) (restS row f) = movB k f t row) := rfl
  generalize joinB (tgt k f t) (restS row f) = J at *
  generalize tgt k f t = T at *
  generalize restS row f = R at *
  generalize restB row f = Bv at *
  clear hb c0 c2 hf ht hr hg
  go_enter Tryz.func44, Tryz.ntmps44
  go_wp2_with fail
  refine (hre _).mono ?_
  clear hre
  rintro e w1 ⟨rfl, hB1⟩
  have HB1 : Hid (Below w.heap.size w w1) := HB.out.trans (hB1.mono HB.out.size)
  obtain ⟨d0, d1, d2⟩ := (HBx.out.below hB1 HBx.out.lt).cell
  clear hB1 c1
  go_wp2_with fail
  refine (hta _).mono ?_
  clear hta
  rintro e w2 ⟨rfl, hB2⟩
  have HB2 : Hid (Below w.heap.size w w2) := HB1.out.trans (hB2.mono HB1.out.size)
  clear hB2 d0 d1 d2
  go_wp2_with fail
  refine (hjo _).mono ?_
  clear hjo
  rintro e w3 ⟨rfl, rfl⟩
  go_wp2
  go_ret
  exact ⟨by rw [HJ.out]; rfl, HB2.out⟩
theorem mrule_ret {k : Nat} {fn : Func} {W : World} {p : Nat} {kk : Int} {f t : ByteArray} {a : Act} {P : Ending → World → Prop} (hf : fn.results = #[ResultVar.cell k 31]) (hb : BoxR W p kk f t) (ha : a.tmps[k]?.getD undef = .pointer (some ⟨p, 0, none⟩)) (hd : a.defers = []) (hP : P (.returned (rv kk f t)) W) : bodyPost Tryz.prog fn P Exit.ret a W := by
  obtain ⟨c0, c1, c2⟩ := hb.cell
  exact bodyPost_ret (v := rv kk f t) (by simp [results, hf, go_sem, ha, c0, c1, c2]) hd hP
theorem keep_any (f : ByteArray) (w : World) : Calls Tryz.prog 23 #[.string f] w fun e w' => e = .returned (rv 1 f ⟨#[]⟩) ∧ Below w.heap.size w w' := by
  have HB : Hid (BoxR (w.alloc (.cells #[.int .i64 1, .string f, .string ⟨#[]⟩] 31)) w.heap.size 1 f ⟨#[]⟩) := BoxR.new w 1 f ⟨#[]⟩
  go_enter Tryz.func23, Tryz.ntmps23
  go_wp2
  exact mrule_ret rfl HB.out rfl rfl ⟨rfl, (Below.refl _ w).alloc (Nat.le_refl _) _⟩
theorem drop_any (f : ByteArray) (w : World) : Calls Tryz.prog 45 #[.string f] w fun e w' => e = .returned (rv 2 f ⟨#[]⟩) ∧ Below w.heap.size w w' := by
  have HB : Hid (BoxR (w.alloc (.cells #[.int .i64 2, .string f, .string ⟨#[]⟩] 31)) w.heap.size 2 f ⟨#[]⟩) := BoxR.new w 2 f ⟨#[]⟩
  go_enter Tryz.func45, Tryz.ntmps45
  go_wp2
  exact mrule_ret rfl HB.out rfl rfl ⟨rfl, (Below.refl _ w).alloc (Nat.le_refl _) _⟩
theorem move_any (f t : ByteArray) (w : World) : Calls Tryz.prog 42 #[.string f, .string t] w fun e w' => e = .returned (rv 3 f t) ∧ Below w.heap.size w w' := by
  have HB : Hid (BoxR (w.alloc (.cells #[.int .i64 3, .string f, .string t] 31)) w.heap.size 3 f t) := BoxR.new w 3 f t
  go_enter Tryz.func42, Tryz.ntmps42
  go_wp2
  exact mrule_ret rfl HB.out rfl rfl ⟨rfl, (Below.refl _ w).alloc (Nat.le_refl _) _⟩
end Go.Proofs.YtggnglgehobglaaGreatDoor

/- Rules in a row of one's own, without the layer quote. -/
namespace Go.Proofs.YtggnglgehobglaaGreatDoor
open Go.RowKit Go.Shelf Go.Maps

attribute [local go_sem] Oper.semAt_some

theorem infoRule : (Tryz.prog.info? 31).map (fun i => (i.zero, i.size, i.bytes)) = some (some (.agg #[.int .i64 0, .string ⟨#[]⟩, .string ⟨#[]⟩]), 3, 40) := by kernel_rfl
def ruCells : List Ru → List Value
  | [] => []
  | x :: r => .int .i64 x.1 :: .string (mk x.2.1) :: .string (mk x.2.2) :: ruCells r
theorem ruCells_len : ∀ l : List Ru, (ruCells l).length = l.length * 3
  | [] => rfl
  | x :: r => by simp only [ruCells, List.length_cons, ruCells_len r]; omega
theorem ruCells_one : ∀ (l : List Ru), ∀ u ∈ ruCells l, u.oneCell' = true
  | [], u, h => by cases h
  | x :: r, u, h => by
    simp only [ruCells, List.mem_cons] at h
    rcases h with rfl | rfl | rfl | h
    · rfl
    · rfl
    · rfl
    · exact ruCells_one r u h
theorem ruCells_append : ∀ (l m : List Ru), ruCells (l ++ m) = ruCells l ++ ruCells m
  | [], m => rfl
  | x :: r, m => by simp [ruCells, ruCells_append r m]
theorem ruCells_get : ∀ (l : List Ru) (j : Nat) (x : Ru), l[j]? = some x → (ruCells l)[j * 3]? = some (.int .i64 x.1) ∧ (ruCells l)[j * 3 + 1]? = some (.string (mk x.2.1)) ∧ (ruCells l)[j * 3 + 2]? = some (.string (mk x.2.2))
  | [], j, x, h => by simp at h
  | y :: r, 0, x, h => by
    simp at h; subst h
    exact ⟨rfl, rfl, rfl⟩
  | y :: r, j + 1, x, h => by
    have ih := ruCells_get r j x (by simpa using h)
    rw [show (j + 1) * 3 = j * 3 + 3 by omega]
    exact ih
/-- a slice of rules -/
def Rus (w : World) (a : Option Addr) (n : Nat) (l : List Ru) : Prop := l.length = n ∧ (0 < n → ∃ b off, a = some ⟨b, off, none⟩ ∧ ∀ (j : Nat) x, l[j]? = some x → w.cell? ⟨b, off + j * 3, none⟩ = some (.int .i64 x.1) ∧ w.cell? ⟨b, off + j * 3 + 1, none⟩ = some (.string (mk x.2.1)) ∧ w.cell? ⟨b, off + j * 3 + 2, none⟩ = some (.string (mk x.2.2)))
theorem Rus.kept {w w' : World} {a : Option Addr} {n : Nat} {l : List Ru} (h : Rus w a n l) (hB : Below w.heap.size w w') : Rus w' a n l :=
  ⟨h.1, fun h0 => by
    obtain ⟨b, off, e, hc⟩ := h.2 h0
    refine ⟨b, off, e, fun j x hx => ?_⟩
    obtain ⟨h1, h2, h3⟩ := hc j x hx
    exact ⟨(hB.cell (p := ⟨b, off + j * 3, none⟩) (World.block_lt_of_cell? w _ h1)).trans h1, (hB.cell (p := ⟨b, off + j * 3 + 1, none⟩) (World.block_lt_of_cell? w _ h2)).trans h2, (hB.cell (p := ⟨b, off + j * 3 + 2, none⟩) (World.block_lt_of_cell? w _ h3)).trans h3⟩⟩
theorem rus_nil (w : World) (a : Option Addr) : Rus w a 0 [] := ⟨rfl, fun h => by omega⟩
theorem row_shapeR {w : World} {B n : Nat} {v : Value} {xs : List Value} (h : w.ownsRow B 31 3 v n xs) : ∃ ad c, v = .slice ad n c ∧ n ≤ c ∧ (ad = none → n = 0 ∧ c = 0) := by
  rcases h.2 with ⟨rfl, rfl⟩ | ⟨g, cap, cur, rfl, _, _, hc, _⟩
  · exact ⟨none, 0, rfl, Nat.le_refl _, fun _ => ⟨rfl, rfl⟩⟩
  · exact ⟨_, _, rfl, hc, fun h => by cases h⟩
theorem own_rus {w : World} {B n c : Nat} {ad : Option Addr} {l : List Ru} (h : w.ownsRow B 31 3 (.slice ad n c) n (ruCells l)) (hl : l.length = n) : Rus w ad n l := by
  refine ⟨hl, fun h0 => ?_⟩
  rcases h.2 with ⟨e, h'⟩ | ⟨g, cap, cur, e, _⟩
  · omega
  · cases e
    refine ⟨g, 0, rfl, fun j x hx => ?_⟩
    obtain ⟨h1, h2, h3⟩ := ruCells_get l j x hx
    have c1 := h.cells (g := g) rfl _ _ h1
    have c2 := h.cells (g := g) rfl _ _ h2
    have c3 := h.cells (g := g) rfl _ _ h3
    rw [Addr.add_lit] at c1 c2 c3
    simp only [Nat.zero_add] at c1 c2 c3 ⊢
    exact ⟨c1, c2, c3⟩
theorem row_blockR {W : World} {base n : Nat} {v : Value} {xs : List Value} (h : W.ownsRow base 31 3 v n xs) : ∀ r, v.ownBlock = some r → base ≤ r ∧ r < W.heap.size ∧ ∃ cur, W.heap[r]? = some (.cells cur 31 (0, 0)) := by
  intro r hr
  rcases h.2 with ⟨rfl, _⟩ | ⟨g, cap, cur, rfl, hb, hg, _⟩
  · cases hr
  · cases hr
    exact ⟨hb, (Array.getElem?_eq_some_iff.1 hg).1, cur, hg⟩
theorem below_grR {W W' : World} {B n : Nat} {v : Value} {xs : List Value} (h : W.ownsRow B 31 3 v n xs) (hB : B ≤ W.heap.size) (hg : W.grownBy W' v.ownBlock) : Below B W W' :=
  ⟨hg.os, hg.tape, hg.output, hg.size, fun k hk => hg.block k (by omega) (fun e => by have := (row_blockR h k e.symm).1; omega)⟩
theorem row_movedR {W W' : World} {base n : Nat} {v : Value} {xs : List Value} (h : W.ownsRow base 31 3 v n xs) (hs : ∀ r, v.ownBlock = some r → W'.heap[r]? = W.heap[r]?) : W'.ownsRow base 31 3 v n xs := by
  refine ⟨h.1, ?_⟩
  rcases h.2 with h | ⟨g, cap, cur, rfl, hg, hb, rest⟩
  · exact .inl h
  · exact .inr ⟨g, cap, cur, rfl, hg, (hs g rfl).trans hb, rest⟩
theorem row_baseR {W : World} {base base' n : Nat} {v : Value} {xs : List Value} (h : W.ownsRow base 31 3 v n xs) (hb : base' ≤ base) : W.ownsRow base' 31 3 v n xs := by
  refine ⟨h.1, ?_⟩
  rcases h.2 with h | ⟨g, cap, cur, rfl, hg, rest⟩
  · exact .inl h
  · exact .inr ⟨g, cap, cur, rfl, Nat.le_trans hb hg, rest⟩
theorem cells_ru_new (W : World) (x : Ru) : ∀ (j : Nat) u, (ruCells [x])[j]? = some u → (W.alloc (.cells #[.int .i64 x.1, .string (mk x.2.1), .string (mk x.2.2)] 31)).cell? (Addr.add ⟨W.heap.size, 0, none⟩ j) = some u := by
  intro j u hj
  match j, hj with
  | 0, hj => simp [ruCells] at hj; subst hj; simp [Addr.add]
  | 1, hj => simp [ruCells] at hj; subst hj; simp [Addr.add]
  | 2, hj => simp [ruCells] at hj; subst hj; simp [Addr.add]
end Go.Proofs.YtggnglgehobglaaGreatDoor
