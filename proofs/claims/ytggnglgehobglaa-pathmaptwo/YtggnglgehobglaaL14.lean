import Derived.Test.YtggnglgehobglaaL13
import Derived.Test.YtggnglgehobglaaL04
import Derived.Test.YtggnglgehobglaaL07
import Derived.Laws.StructEq
import Derived.Test.YtggnglgehobglaaL08
/- A rule in memory, and rules held against each other. -/
namespace Go.Proofs.Ytggnglgehobglaa
open Go.RowKit Go.Shelf

attribute [local go_sem] Oper.semAt_some

abbrev rv (k : Int) (f t : ByteArray) : Value := .agg #[.int .i64 k, .string f, .string t]
/-- the value of a rule -/
abbrev ruV (r : Ru) : Value := rv r.1 (mk r.2.1) (mk r.2.2)
theorem eqR (w : World) (k k' : Int) (f f' t t' : ByteArray) : (binOp .eql 41 (rv k f t) (rv k' f' t')).run Try.prog w = .ok (.bool (k == k' && (f.toList == f'.toList && t.toList == t'.toList))) w := by
  have u3 := Try.underlying3
  have u9 := Try.underlying9
  have hS : Try.prog.underlying 41 = some (.struct (Try.prog.fieldsOf 41)) := by kernel_rfl
  have hp : Try.prog.stoodInHeld 41 = false := by kernel_rfl
  rw [run_eql_struct, show (10000 : Nat) = 9999 + 1 from rfl, run_equalIn_agg w 9999 41 _ _ hS hp]
  simp only [Program.fieldsOf, Try.underlying41]
  go_simp
  cases h1 : (k == k') <;> cases h2 : (f.toList == f'.toList) <;> cases h3 : (t.toList == t'.toList) <;> simp_all
theorem neR (w : World) (k k' : Int) (f f' t t' : ByteArray) : (binOp .neq 41 (rv k f t) (rv k' f' t')).run Try.prog w = .ok (.bool (!(k == k' && (f.toList == f'.toList && t.toList == t'.toList)))) w := by
  have h := eqR w k k' f f' t t'
  rw [run_eql_struct] at h
  rw [run_neq_struct]
  generalize (Op.equalIn 10000 41 (rv k f t) (rv k' f' t')).run Try.prog w = r at *
  cases r with
  | ok b w1 =>
    simp only [Result.andThen] at h ⊢
    cases h
    rfl
  | halt x w1 => cases h
theorem eqS (w : World) (a b c d : Int) : (binOp .eql 75 (.agg #[.int .i64 a, .int .i64 b]) (.agg #[.int .i64 c, .int .i64 d])).run Try.prog w = .ok (.bool (a == c && b == d)) w := by
  have u3 := Try.underlying3
  have u9 := Try.underlying25
  have hS : Try.prog.underlying 75 = some (.struct (Try.prog.fieldsOf 75)) := by kernel_rfl
  have hp : Try.prog.stoodInHeld 75 = false := by kernel_rfl
  rw [run_eql_struct, show (10000 : Nat) = 9999 + 1 from rfl, run_equalIn_agg w 9999 75 _ _ hS hp]
  simp only [Program.fieldsOf, Try.underlying75]
  go_simp
  cases h1 : (a == c) <;> cases h2 : (b == d) <;> simp_all

def BoxR (W : World) (g : Nat) (k : Int) (f t : ByteArray) : Prop := W.heap[g]? = some (.cells #[.int .i64 k, .string f, .string t] 41 (0, 0))
theorem BoxR.lt {W : World} {g : Nat} {k : Int} {f t : ByteArray} (h : BoxR W g k f t) : g < W.heap.size := (Array.getElem?_eq_some_iff.1 h).1
theorem BoxR.new (W : World) (k : Int) (f t : ByteArray) : BoxR (W.alloc (.cells #[.int .i64 k, .string f, .string t] 41)) W.heap.size k f t := World.alloc_heap_new W _
theorem BoxR.below {W W' : World} {B g : Nat} {k : Int} {f t : ByteArray} (h : BoxR W g k f t) (hB : Below B W W') (hg : g < B) : BoxR W' g k f t := (hB.block g hg).trans h
theorem BoxR.cell {W : World} {g : Nat} {k : Int} {f t : ByteArray} (h : BoxR W g k f t) : W.cell? ⟨g, 0, none⟩ = some (.int .i64 k) ∧ W.cell? ⟨g, 1, none⟩ = some (.string f) ∧ W.cell? ⟨g, 2, none⟩ = some (.string t) := by
  unfold BoxR at h
  refine ⟨?_, ?_, ?_⟩ <;> simp [World.cell?, h]
theorem BoxR.frozen {W : World} {g : Nat} {k : Int} {f t : ByteArray} (h : BoxR W g k f t) : W.frozen? ⟨g, 0, none⟩ = false ∧ W.frozen? ⟨g, 1, none⟩ = false ∧ W.frozen? ⟨g, 2, none⟩ = false := by
  unfold BoxR at h
  refine ⟨?_, ?_, ?_⟩ <;> simp [World.frozen?, h]
theorem BoxR.all {W : World} {g : Nat} {k : Int} {f t : ByteArray} (h : BoxR W g k f t) (k' : Int) (f' t' : ByteArray) : BoxR (((W.setCell ⟨g, 0, none⟩ (.int .i64 k')).setCell ⟨g, 1, none⟩ (.string f')).setCell ⟨g, 2, none⟩ (.string t')) g k' f' t' := by
  have h' := h
  unfold BoxR at h'
  simp [BoxR, World.setCell, Array.getElem?_modify, h', Array.setIfInBounds]
theorem BoxR.set0 {W : World} {g : Nat} {k : Int} {f t : ByteArray} (h : BoxR W g k f t) (k' : Int) : BoxR (W.setCell ⟨g, 0, none⟩ (.int .i64 k')) g k' f t := by
  have h' := h
  unfold BoxR at h'
  simp [BoxR, World.setCell, Array.getElem?_modify, h', Array.setIfInBounds]
theorem BoxR.set1 {W : World} {g : Nat} {k : Int} {f t : ByteArray} (h : BoxR W g k f t) (f' : ByteArray) : BoxR (W.setCell ⟨g, 1, none⟩ (.string f')) g k f' t := by
  have h' := h
  unfold BoxR at h'
  simp [BoxR, World.setCell, Array.getElem?_modify, h', Array.setIfInBounds]
theorem BoxR.set2 {W : World} {g : Nat} {k : Int} {f t : ByteArray} (h : BoxR W g k f t) (t' : ByteArray) : BoxR (W.setCell ⟨g, 2, none⟩ (.string t')) g k f t' := by
  have h' := h
  unfold BoxR at h'
  simp [BoxR, World.setCell, Array.getElem?_modify, h', Array.setIfInBounds]
theorem BoxR.other {W : World} {g j i : Nat} {k : Int} {f t : ByteArray} (h : BoxR W g k f t) (hk : g ≠ j) (u : Value) : BoxR (W.setCell ⟨j, i, none⟩ u) g k f t :=
  (Below.heap_setCell _ _ _ _ hk).trans h
theorem str_empty (s : ByteArray) : s.toList.isEmpty = decide (bs s = []) := by
  rw [toList_bs]
  cases bs s <;> rfl
end Go.Proofs.Ytggnglgehobglaa

/- The walks of pathmap's join, isPath, lets, target, keep, drop, move, moved. -/
namespace Go.Proofs.Ytggnglgehobglaa
open Go.RowKit Go.Shelf

attribute [local go_sem] Oper.semAt_some

def joinR (p q : List UInt8) : List UInt8 := if p = [] ∨ q = [] then p ++ q else p ++ 47 :: q
def joinB (p q : ByteArray) : ByteArray := mk (joinR (bs p) (bs q))
theorem joinB_size (p q : ByteArray) : (joinB p q).size ≤ p.size + q.size + 1 := by
  unfold joinB
  rw [← bs_len, bs_mk]
  unfold joinR
  split
  · rw [List.length_append, bs_len, bs_len]; omega
  · rw [List.length_append, List.length_cons, bs_len, bs_len]; omega
theorem bs_app (a b : ByteArray) : bs (a ++ b) = bs a ++ bs b := by simp [bs]
theorem mjoin_any (p q : ByteArray) (w : World) (hp : p.size ≤ 1000000) (hq : q.size ≤ 1000000) :
    Calls Try.prog 45 #[.string p, .string q] w fun e w' => e = .returned (.string (joinB p q)) ∧ w' = w := by
  by_cases h1 : bs p = []
  · have hj : joinB p q = p ++ q := by apply bs_inj; unfold joinB; rw [bs_mk, joinR, if_pos (.inl h1), bs_app]
    have b1 : p.toList.isEmpty = true := by rw [str_empty]; simpa using h1
    rw [hj]
    clear h1 hj
    go_enter Try.func45, Try.ntmps45
    go_wp2
    go_ret
    exact ⟨rfl, rfl⟩
  · have b1 : p.toList.isEmpty = false := by rw [str_empty]; simpa using h1
    by_cases h2 : bs q = []
    · have hj : joinB p q = p ++ q := by apply bs_inj; unfold joinB; rw [bs_mk, joinR, if_pos (.inr h2), bs_app]
      have b2 : q.toList.isEmpty = true := by rw [str_empty]; simpa using h2
      rw [hj]
      clear h1 h2 hj
      go_enter Try.func45, Try.ntmps45
      go_wp2
      go_ret
      exact ⟨rfl, rfl⟩
    · have hj : joinB p q = p ++ ⟨#[47]⟩ ++ q := by
        apply bs_inj
        unfold joinB
        rw [bs_mk, joinR, if_neg (fun h => h.elim h1 h2), bs_app, bs_app, List.append_assoc]
        rfl
      have b2 : q.toList.isEmpty = false := by rw [str_empty]; simpa using h2
      rw [hj]
      clear h1 h2 hj
      go_enter Try.func45, Try.ntmps45
      go_wp2
      go_ret
      exact ⟨rfl, rfl⟩
theorem misPath_any (s : ByteArray) (w : World) (hs : s.size ≤ maxLen) :
    Calls Try.prog 24 #[.string s] w fun e w' => e = .returned (.bool (isP (bs s))) ∧ Below w.heap.size w w' := by
  have hp := path_any s w hs
  obtain ⟨e1, h1⟩ : ∃ e1, e1 = (pathSpot (bs s)).1 := ⟨_, rfl⟩
  obtain ⟨e2, h2⟩ : ∃ e2, e2 = (pathSpot (bs s)).2 := ⟨_, rfl⟩
  simp only [spotV] at hp
  rw [← h1, ← h2] at hp
  have H : Hid (((e1 : Int) == 0) = isP (bs s)) := by
    show _ = _
    unfold isP
    rw [← h1, Bool.eq_iff_iff, beq_iff_eq, beq_iff_eq]; omega
  clear h1 h2
  have hfd := fun w => field0 (.int .i64 (e1 : Int)) (.int .i64 (e2 : Int)) w
  go_enter Try.func24, Try.ntmps24
  go_wp2_with (go_at_call 47; refine hp.mono ?_; rintro e w' ⟨rfl, hB⟩)
  go_ret
  exact ⟨by rw [← H.out]; rfl, hB⟩
/-- does a rule of that kind let rows through? -/
def letsK (k : Int) : Bool := k == 1 || k == 3
theorem lets_any (k : Int) (f t : ByteArray) (w : World) : Calls Try.prog 19 #[rv k f t] w fun e w' => e = .returned (.bool (letsK k)) ∧ Below w.heap.size w w' := by
  have hb := BoxR.new w k f t
  obtain ⟨c0, c1, c2⟩ := hb.cell
  have HB : Hid (Below w.heap.size w (w.alloc (.cells #[.int .i64 k, .string f, .string t] 41))) := (Below.refl _ w).alloc (Nat.le_refl _) _
  by_cases h1 : k = 1
  · subst h1
    clear hb
    go_enter Try.func19, Try.ntmps19
    go_wp2
    go_ret
    exact ⟨rfl, HB.out⟩
  · have h1' : (k == 1) = false := beq_eq_false_iff_ne.2 h1
    by_cases h3 : k = 3
    · subst h3
      clear hb
      go_enter Try.func19, Try.ntmps19
      go_wp2
      go_ret
      exact ⟨rfl, HB.out⟩
    · have h3' : (k == 3) = false := beq_eq_false_iff_ne.2 h3
      have e : letsK k = false := by unfold letsK; rw [h1', h3']; rfl
      rw [e]
      clear hb e
      go_enter Try.func19, Try.ntmps19
      go_wp2
      go_ret
      exact ⟨rfl, HB.out⟩
def tgt (k : Int) (f t : ByteArray) : ByteArray := if k = 1 then f else t
theorem target_any (k : Int) (f t : ByteArray) (w : World) : Calls Try.prog 21 #[rv k f t] w fun e w' => e = .returned (.string (tgt k f t)) ∧ Below w.heap.size w w' := by
  have hb := BoxR.new w k f t
  obtain ⟨c0, c1, c2⟩ := hb.cell
  have HB : Hid (Below w.heap.size w (w.alloc (.cells #[.int .i64 k, .string f, .string t] 41))) := (Below.refl _ w).alloc (Nat.le_refl _) _
  by_cases h1 : k = 1
  · subst h1
    clear hb
    go_enter Try.func21, Try.ntmps21
    go_wp2
    go_ret
    exact ⟨rfl, HB.out⟩
  · have h1' : (k == 1) = false := beq_eq_false_iff_ne.2 h1
    have e : tgt k f t = t := by unfold tgt; rw [if_neg h1]
    rw [e]
    clear hb e
    go_enter Try.func21, Try.ntmps21
    go_wp2
    go_ret
    exact ⟨rfl, HB.out⟩
/-- where a rule brings a row -/
def movB (k : Int) (f t row : ByteArray) : ByteArray := joinB (tgt k f t) (restS row f)
theorem moved_any (k : Int) (f t row : ByteArray) (w : World) (hf : f.size ≤ 500000) (ht : t.size ≤ 500000) (hr : row.size ≤ 500000) (hg : rightB (bs f) = true) :
    Calls Try.prog 22 #[rv k f t, .string row] w fun e w' => e = .returned (.string (movB k f t row)) ∧ Below w.heap.size w w' := by
  have hb := BoxR.new w k f t
  obtain ⟨c0, c1, c2⟩ := hb.cell
  have HB : Hid (Below w.heap.size w (w.alloc (.cells #[.int .i64 k, .string f, .string t] 41))) := (Below.refl _ w).alloc (Nat.le_refl _) _
  have HBx : Hid (BoxR (w.alloc (.cells #[.int .i64 k, .string f, .string t] 41)) w.heap.size k f t) := hb
  have hre := fun W => mrest_any row f W hr hf hg
  have hta := fun W => target_any k f t W
  have hts : (tgt k f t).size ≤ 500000 := by unfold tgt; split <;> assumption
  have hrs : (restS row f).size ≤ 500000 := Nat.le_trans (restS_size _ _) hr
  have hjo := fun W => mjoin_any (tgt k f t) (restS row f) W (by omega) (by omega)
  have HJ : Hid (joinB (tgt k f t) (restS row f) = movB k f t row) := rfl
  generalize joinB (tgt k f t) (restS row f) = J at *
  generalize tgt k f t = T at *
  generalize restS row f = R at *
  generalize restB row f = Bv at *
  clear hb c0 c2 hf ht hr hg
  go_enter Try.func22, Try.ntmps22
  go_wp2_with fail
  refine (hre _).mono ?_
  clear hre
  rintro e w1 ⟨rfl, hB1⟩
  have HB1 : Hid (Below w.heap.size w w1) := HB.out.trans (hB1.mono HB.out.size)
  obtain ⟨d0, d1, d2⟩ := (HBx.out.below hB1 HBx.out.lt).cell
  clear hB1 c1
  go_wp2_with fail
  refine (hta _).mono ?_
  clear hta
  rintro e w2 ⟨rfl, hB2⟩
  have HB2 : Hid (Below w.heap.size w w2) := HB1.out.trans (hB2.mono HB1.out.size)
  clear hB2 d0 d1 d2
  go_wp2_with fail
  refine (hjo _).mono ?_
  clear hjo
  rintro e w3 ⟨rfl, rfl⟩
  go_wp2
  go_ret
  exact ⟨by rw [HJ.out]; rfl, HB2.out⟩
theorem mrule_ret {k : Nat} {fn : Func} {W : World} {p : Nat} {kk : Int} {f t : ByteArray} {a : Act} {P : Ending → World → Prop} (hf : fn.results = #[ResultVar.cell k 41]) (hb : BoxR W p kk f t) (ha : a.tmps[k]?.getD undef = .pointer (some ⟨p, 0, none⟩)) (hd : a.defers = []) (hP : P (.returned (rv kk f t)) W) : bodyPost Try.prog fn P Exit.ret a W := by
  obtain ⟨c0, c1, c2⟩ := hb.cell
  exact bodyPost_ret (v := rv kk f t) (by simp [results, hf, go_sem, ha, c0, c1, c2]) hd hP
theorem keep_any (f : ByteArray) (w : World) : Calls Try.prog 33 #[.string f] w fun e w' => e = .returned (rv 1 f ⟨#[]⟩) ∧ Below w.heap.size w w' := by
  have HB : Hid (BoxR (w.alloc (.cells #[.int .i64 1, .string f, .string ⟨#[]⟩] 41)) w.heap.size 1 f ⟨#[]⟩) := BoxR.new w 1 f ⟨#[]⟩
  go_enter Try.func33, Try.ntmps33
  go_wp2
  exact mrule_ret rfl HB.out rfl rfl ⟨rfl, (Below.refl _ w).alloc (Nat.le_refl _) _⟩
theorem drop_any (f : ByteArray) (w : World) : Calls Try.prog 25 #[.string f] w fun e w' => e = .returned (rv 2 f ⟨#[]⟩) ∧ Below w.heap.size w w' := by
  have HB : Hid (BoxR (w.alloc (.cells #[.int .i64 2, .string f, .string ⟨#[]⟩] 41)) w.heap.size 2 f ⟨#[]⟩) := BoxR.new w 2 f ⟨#[]⟩
  go_enter Try.func25, Try.ntmps25
  go_wp2
  exact mrule_ret rfl HB.out rfl rfl ⟨rfl, (Below.refl _ w).alloc (Nat.le_refl _) _⟩
theorem move_any (f t : ByteArray) (w : World) : Calls Try.prog 20 #[.string f, .string t] w fun e w' => e = .returned (rv 3 f t) ∧ Below w.heap.size w w' := by
  have HB : Hid (BoxR (w.alloc (.cells #[.int .i64 3, .string f, .string t] 41)) w.heap.size 3 f t) := BoxR.new w 3 f t
  go_enter Try.func20, Try.ntmps20
  go_wp2
  exact mrule_ret rfl HB.out rfl rfl ⟨rfl, (Below.refl _ w).alloc (Nat.le_refl _) _⟩
end Go.Proofs.Ytggnglgehobglaa
