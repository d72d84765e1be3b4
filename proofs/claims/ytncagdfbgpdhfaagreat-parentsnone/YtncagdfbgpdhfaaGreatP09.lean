import Derived.Test.YtncagdfbgpdhfaaGreatP08
import Derived.Test.YtncagdfbgpdhfaaGreatP07
/- What the layer answers of a commit. -/
namespace Go.Proofs.YtncagdfbgpdhfaaGreat
open Go.RowKit

attribute [local go_sem] Oper.semAt_some

abbrev coV (t : Int) (pa : Option Addr) (pn pc : Nat) (au : ByteArray) (d : Int) (tx : ByteArray) : Value := .iface 78 (cmt t pa pn pc au d tx)
theorem no_blob_com (v : Value) : ∀ xT w, (Instr.typeAssert (.iface 78 v) xT 82 true).run Tryz.prog w = .ok (.tuple #[.agg #[.slice none 0 0], .bool false]) w := no_blob 78 (by decide) v
theorem no_tree_com (v : Value) : ∀ xT w, (Instr.typeAssert (.iface 78 v) xT 125 true).run Tryz.prog w = .ok (.tuple #[.agg #[.slice none 0 0], .bool false]) w := no_tree 78 (by decide) v
theorem com_fits {t : Int} {ps : List Int} {au tx : ByteArray} (h : comErr t ps au tx = 0) : t ≠ 0 ∧ ps.length ≤ 8 ∧ au.size ≤ 64 ∧ tx.size ≤ 1024 := by
  have ht : ∀ (s : ByteArray) (m : Nat), txtErr s m = 0 → s.size ≤ m := fun s m h => by
    unfold txtErr at h
    split at h
    · omega
    · omega
  unfold comErr at h
  split at h
  · omega
  · rename_i h0
    split at h
    · rename_i h1; exact absurd h h1
    · rename_i h1
      have h1' : parErr ps = 0 := by simpa using h1
      split at h
      · rename_i h2; exact absurd h h2
      · rename_i h2
        have h2' : txtErr au 64 = 0 := by simpa using h2
        refine ⟨h0, ?_, ht _ _ h2', ht _ _ h⟩
        unfold parErr at h1'
        split at h1'
        · omega
        · omega
theorem comB_len {t : Int} {ps : List Int} {au tx : ByteArray} (d : Int) (h : comErr t ps au tx = 0) : (comB t ps au d tx).length ≤ 16384 := by
  obtain ⟨_, h1, h2, h3⟩ := com_fits h
  have a1 := short_len ps.length
  have a2 := short_len au.size
  have a3 := short_len tx.size
  have a4 := parsB_len ps ps.length (Nat.le_refl _)
  rw [List.take_length] at a4
  have a5 : au.data.toList.length = au.size := by simp
  have a6 : tx.data.toList.length = tx.size := by simp
  simp only [comB, List.length_append, List.length_singleton, owide_len, a4, a5, a6]
  omega
theorem check_com (t : Int) (pa : Option Addr) (pn pc : Nat) (ps : List Int) (au : ByteArray) (d : Int) (tx : ByteArray) (w : World) (h : Com w t pa pn pc ps au d tx) : Calls Tryz.prog 74 #[(coV t pa pn pc au d tx)] w fun e w' => e = .returned (.int .i64 (comErr t ps au tx)) ∧ Below w.heap.size w w' := by
  have h1 := no_blob_com (cmt t pa pn pc au d tx)
  have h2 := no_tree_com (cmt t pa pn pc au d tx)
  have h3 := as_commit (cmt t pa pn pc au d tx)
  have hB0 : Below w.heap.size w (w.alloc (.cells #[.int .u64 t, .slice pa pn pc, .string au, .int .i64 d, .string tx] 78)) := (Below.refl _ w).alloc (Nat.le_refl _) _
  have hc := checkCommit_any t pa pn pc ps au d tx _ (h.below hB0)
  go_enter Tryz.func74, Tryz.ntmps74
  go_wp2_with (go_at_call 102; refine hc.mono ?_; rintro e w1 ⟨rfl, hB⟩)
  go_ret
  exact ⟨rfl, hB0.trans (hB.mono (by simp))⟩
set_option maxRecDepth 20000 in
set_option maxHeartbeats 1000000 in
theorem encode_com (t : Int) (pa : Option Addr) (pn pc : Nat) (ps : List Int) (au : ByteArray) (d : Int) (tx : ByteArray) (w : World) (h : Com w t pa pn pc ps au d tx) (h0 : comErr t ps au tx = 0) :
    Calls Tryz.prog 75 #[(coV t pa pn pc au d tx)] w fun e w' => ∃ ad m cp, e = .returned (.slice ad m cp) ∧ (comB t ps au d tx).length = m ∧ OwnB w.heap.size (comB t ps au d tx) (.slice ad m cp) w' ∧ Below w.heap.size w w' := by
  obtain ⟨_, hn, hau, htx⟩ := com_fits h0
  have hpn := h.par.1
  have hmf : ∀ (fn : Fn) (first cap : Array Value) (w : World), (Instr.makeFunc fn first cap).run Tryz.prog w = .ok (.func fn first cap) w := fun _ _ _ _ => rfl
  have h1 := no_blob_com (cmt t pa pn pc au d tx)
  have h2 := no_tree_com (cmt t pa pn pc au d tx)
  have h3 := as_commit (cmt t pa pn pc au d tx)
  have HO := ((out_new w).alloc (.cells #[.int .u64 t, .slice pa pn pc, .string au, .int .i64 d, .string tx] 78)).alloc (.cells #[.int .u8 99] 5)
  have hO2 : Box5 ((w.alloc (.cells #[.slice none 0 0] 80)).alloc (.cells #[.int .u64 t, .slice pa pn pc, .string au, .int .i64 d, .string tx] 78)) (w.heap.size + 1) (.int .u64 t) (.slice pa pn pc) (.string au) (.int .i64 d) (.string tx) := by
    have := Box5.new (w.alloc (.cells #[.slice none 0 0] 80)) (.int .u64 t) (.slice pa pn pc) (.string au) (.int .i64 d) (.string tx)
    rw [World.size_alloc] at this
    exact this
  have hby := bytes_new ((w.alloc (.cells #[.slice none 0 0] 80)).alloc (.cells #[.int .u64 t, .slice pa pn pc, .string au, .int .i64 d, .string tx] 78)) [99] _ rfl
  have hp := put_any2 w w.heap.size [] (some ⟨w.heap.size + 1 + 1, 0, none⟩) 1 1 [99] _ HO (by rw [World.size_alloc, World.size_alloc] at hby; exact hby) (fun h => by cases h) (by simp)
  clear HO
  have hK := hO2.kept ((Below.refl _ _).alloc (Nat.le_refl _) (.cells #[.int .u8 99] 5))
  clear hO2 hby
  go_enter Tryz.func75, Tryz.ntmps75
  go_wp2_with first
    | (go_at_call 103; refine hp.mono ?_; rintro e w1 ⟨rfl, hO1, hk1⟩; obtain ⟨c0, c1, c2, c3, c4⟩ := (hk1.box5 hK (by omega)).cell; have HO1 : Hid (OOut w w.heap.size [99] w1) := hO1; clear hp hO1 hk1)
    | (go_at_call 105; refine (putCommit_any w w.heap.size t pa pn pc ps au d tx _ HO1.out h (by omega) hau htx).mono ?_; rintro e w2 ⟨rfl, hO2, _⟩; obtain ⟨v, hv, ho⟩ := hO2.box; have cv := hv.cell; have HO2 : Hid (OwnB w.heap.size (comB t ps au d tx) v w2 ∧ Below w.heap.size w w2) := ⟨⟨ho⟩, hO2.bel⟩; obtain ⟨ad, cp, hvv, _⟩ := HO2.out.1.shape rfl; subst hvv; clear hO2 HO1 ho hv)
  go_ret
  exact ⟨ad, _, cp, rfl, rfl, HO2.out.1, HO2.out.2⟩
theorem Encode_com (t : Int) (pa : Option Addr) (pn pc : Nat) (ps : List Int) (au : ByteArray) (d : Int) (tx : ByteArray) (w : World) (h : Com w t pa pn pc ps au d tx) (h0 : comErr t ps au tx = 0) :
    Calls Tryz.prog 52 #[(coV t pa pn pc au d tx)] w fun e w' => ∃ v, e = .returned (.tuple #[v, .int .i64 0]) ∧ OwnB w.heap.size (comB t ps au d tx) v w' ∧ Below w.heap.size w w' := by
  have c1 := check_com t pa pn pc ps au d tx w h
  rw [h0] at c1
  have he := fun w h => encode_com t pa pn pc ps au d tx w h h0
  generalize comB t ps au d tx = T at *
  go_enter Tryz.func52, Tryz.ntmps52
  go_wp2_with first
    | (go_at_call 74; refine c1.mono ?_; clear c1; rintro e w1 ⟨rfl, hB1⟩)
    | (go_at_call 75; refine (he _ (h.below hB1)).mono ?_; clear he; rintro e w2 ⟨ad, m, cp, rfl, hm, ho, hB2⟩; have HO : Hid (OwnB w1.heap.size T (.slice ad m cp) w2) := ho; clear ho hm)
  go_ret2
  exact ⟨_, rfl, ⟨row_lower HO.out.row hB1.size⟩, hB1.trans (hB2.mono hB1.size)⟩
theorem Encode_com_bad (t : Int) (pa : Option Addr) (pn pc : Nat) (ps : List Int) (au : ByteArray) (d : Int) (tx : ByteArray) (w : World) (h : Com w t pa pn pc ps au d tx) (h0 : comErr t ps au tx ≠ 0) :
    Calls Tryz.prog 52 #[(coV t pa pn pc au d tx)] w fun e w' => e = .returned (.tuple #[.slice none 0 0, .int .i64 (comErr t ps au tx)]) ∧ Below w.heap.size w w' := by
  have c1 := check_com t pa pn pc ps au d tx w h
  have h0' : (comErr t ps au tx == 0) = false := beq_eq_false_iff_ne.2 h0
  generalize comErr t ps au tx = E at *
  go_enter Tryz.func52, Tryz.ntmps52
  go_wp2_with (go_at_call 74; refine c1.mono ?_; clear c1; rintro e w1 ⟨rfl, hB1⟩)
  go_ret2
  exact ⟨rfl, hB1⟩
theorem Same_com_bad (t : Int) (pa : Option Addr) (pn pc : Nat) (ps : List Int) (au : ByteArray) (d : Int) (tx : ByteArray) (w : World) (h : Com w t pa pn pc ps au d tx) (x : Value) (h0 : comErr t ps au tx ≠ 0) :
    Calls Tryz.prog 55 #[(coV t pa pn pc au d tx), x] w fun e w' => e = .returned (.bool false) ∧ Below w.heap.size w w' := by
  have c1 := check_com t pa pn pc ps au d tx w h
  have h0' : (comErr t ps au tx == 0) = false := beq_eq_false_iff_ne.2 h0
  generalize comErr t ps au tx = E at *
  go_enter Tryz.func55, Tryz.ntmps55
  go_wp2_with (go_at_call 74; refine c1.mono ?_; clear c1; rintro e w1 ⟨rfl, hB1⟩)
  go_ret
  exact ⟨rfl, hB1⟩
theorem Same_com (t : Int) (pa : Option Addr) (pn pc : Nat) (ps : List Int) (au : ByteArray) (d : Int) (tx : ByteArray) (w : World) (h : Com w t pa pn pc ps au d tx) (h0 : comErr t ps au tx = 0) :
    Calls Tryz.prog 55 #[(coV t pa pn pc au d tx), (coV t pa pn pc au d tx)] w fun e w' => e = .returned (.bool true) ∧ Below w.heap.size w w' := by
  have c1 := fun w h => check_com t pa pn pc ps au d tx w h
  rw [h0] at c1
  have he := fun w h => encode_com t pa pn pc ps au d tx w h h0
  generalize comB t ps au d tx = T at *
  go_enter Tryz.func55, Tryz.ntmps55
  go_wp2_with first
    | (go_at_call 74; refine (c1 w h).mono ?_; rintro e w1 ⟨rfl, hB1⟩)
    | (go_at_call 74; refine (c1 _ (h.below hB1)).mono ?_; clear c1; rintro e w2 ⟨rfl, hB2⟩; have hB : Below w.heap.size w w2 := hB1.trans (hB2.mono hB1.size); have hb2 := h.below hB; clear hB1 hB2)
    | (go_at_call 75; refine (he w2 hb2).mono ?_; rintro e w3 ⟨ad, m, cp, rfl, hm, ho, hB3⟩; have hy3 := ho.bytes hm; have hb3 := hb2.below hB3; clear hb2 ho hm)
    | (go_at_call 75; refine (he _ hb3).mono ?_; clear he; rintro e w4 ⟨ad4, m4, cp4, rfl, hm4, ho, hB4⟩; have hy4 := ho.bytes hm4; have hy3' := bytes_below hy3 hB4; clear hb3 hy3 ho hm4)
    | (go_at_call 77; refine (equal_yes _ ad ad4 m m4 cp cp4 T hy3' hy4).mono ?_; rintro e w5 ⟨rfl, h5⟩; subst h5)
  go_ret
  exact ⟨rfl, hB.trans ((hB3.trans (hB4.mono hB3.size)).mono hB.size)⟩
end Go.Proofs.YtncagdfbgpdhfaaGreat

/- A commit's links, its copy, and what it answers in all. -/
namespace Go.Proofs.YtncagdfbgpdhfaaGreat
open Go.RowKit

attribute [local go_sem] Oper.semAt_some

/-- ids appended to a row of one's own -/
theorem wpList_appI (w : World) (B : Nat) (hB : B ≤ w.heap.size) {ops : Array Oper} {rest : List Oper} {o : Oper} {a : Act} {Q : Exit → Act → World → Prop} (hgd : o.guard = none) (s x : Operand)
    (ho : o.op = .call { callee := .builtin .append, args := #[s, x], argTypes := #[28, 28] })
    (v : Value) (n : Nat) (k : List Int) (hs : a.eval s = v) (hown : w.ownsRow B 31 1 v n (k.map (Value.int .u64))) (ad : Option Addr) (m c : Nat) (l : List Int) (hx : a.eval x = .slice ad m c) (hb : Ids w ad m l) (hnil : ad = none → m = 0 ∧ c = 0) (hm : n + m ≤ 1099511627776)
    (h : ∀ v' w', w'.ownsRow B 31 1 v' (n + m) ((k ++ l).map (Value.int .u64)) → w.grownBy w' v.ownBlock → wpList Tryz.prog ops Q rest (a.put o.dst v') w') : wpList Tryz.prog ops Q (o :: rest) a w := by
  obtain ⟨i0, hi, hz0, hz1, hz2⟩ := info_parts infoId
  cases ad with
  | none =>
    obtain ⟨rfl, rfl⟩ := hnil rfl
    have hl : l = [] := List.eq_nil_of_length_eq_zero hb.1
    subst hl
    refine wpList_plain hgd fun K hK => ?_
    have hr := run_append_owned_none (P := Tryz.prog) (w := w) B 28 o.type 31 i0 1 Tryz.underlying28 hi v n _ hown
    unfold Oper.wp execOp
    simp only [ho, resolve, invoke, builtin, Sem.run_bind, Sem.run_pure, Result.andThen_ok, List.map_toArray, List.map_cons, List.map_nil, hs, hx, hr]
    exact hK _ _ (h v w (by rw [List.append_nil]; exact hown) ⟨rfl, rfl, rfl, Nat.le_refl _, fun _ _ _ => rfl⟩)
  | some q =>
    refine wpList_append_own w hgd s x 28 ho B 31 i0 _ 1 8 Tryz.underlying28 hi hz0 hz1 hz2 rfl (by decide) v n _ hs hown q m c (l.map (Value.int .u64)) hx (by rw [List.length_map, hb.1]; omega) ?_ (by intro u hu; obtain ⟨y, _, rfl⟩ := List.mem_map.1 hu; rfl) (by unfold maxLen; omega) (by omega) hB fun v' w' h1 h2 _ => h v' w' (by rw [List.map_append]; exact h1) h2
    intro j u hj
    rw [List.getElem?_map] at hj
    have hl := hb.1
    cases hlj : l[j]? with
    | none => rw [hlj] at hj; cases hj
    | some y =>
      rw [hlj] at hj
      have hjl := (List.getElem?_eq_some_iff.1 hlj).1
      obtain ⟨b, off, e, hc⟩ := hb.2 (by omega)
      cases e
      rw [Addr.add_lit, hc j y hlj]
      exact hj
theorem ids_lit (w : World) (x : Int) : Ids (w.alloc (.cells #[.int .u64 x] 31)) (some ⟨w.heap.size, 0, none⟩) 1 [x] := by
  refine ⟨rfl, fun _ => ⟨_, _, rfl, fun j y hy => ?_⟩⟩
  match j, hy with
  | 0, hy =>
    simp at hy; subst hy
    exact (Boxed.new w 31 (.int .u64 x)).cell

set_option maxRecDepth 20000 in
set_option maxHeartbeats 2000000 in
theorem links_com (t : Int) (pa : Option Addr) (pn pc : Nat) (ps : List Int) (au : ByteArray) (d : Int) (tx : ByteArray) (w : World) (h : Com w t pa pn pc ps au d tx) (hn : pn ≤ 8) :
    Calls Tryz.prog 86 #[(coV t pa pn pc au d tx)] w fun e w' => ∃ v, e = .returned v ∧ w'.ownsRow w.heap.size 31 1 v (t :: ps).length ((t :: ps).map (Value.int .u64)) ∧ Below w.heap.size w w' := by
  have h2 := no_tree_com (cmt t pa pn pc au d tx)
  have h3 := as_commit (cmt t pa pn pc au d tx)
  have hll := h.par.1
  have hB0 : Below w.heap.size w ((w.alloc (.cells #[.int .u64 t, .slice pa pn pc, .string au, .int .i64 d, .string tx] 78)).alloc (.cells #[.int .u64 t] 31)) := ((Below.refl _ w).alloc (Nat.le_refl _) _).alloc (by simp) _
  have b0 := (Box5.new w (.int .u64 t) (.slice pa pn pc) (.string au) (.int .i64 d) (.string tx)).kept ((Below.refl _ _).alloc (Nat.le_refl _) (.cells #[.int .u64 t] 31))
  have hl0 := ids_lit (w.alloc (.cells #[.int .u64 t, .slice pa pn pc, .string au, .int .i64 d, .string tx] 78)) t
  rw [World.size_alloc] at hl0
  have HP : Hid (Com w t pa pn pc ps au d tx) := h
  go_enter Tryz.func86, Tryz.ntmps86
  go_wp2_with first
    | (at_builtin; refine wpList_appI _ w.heap.size hB0.size rfl _ _ rfl (.slice none 0 0) 0 [] rfl (World.ownsRow_nil _ _ _ _) (some ⟨w.heap.size + 1, 0, none⟩) 1 1 [t] rfl hl0 (fun h => by cases h) (by omega) ?_; intro v1 w1 ho1 hg1; have hB1 : Below w.heap.size w w1 := hB0.trans (below_gr (World.ownsRow_nil _ w.heap.size 31 1) hB0.size hg1); have hBB : Below (w.heap.size + 1 + 1) ((w.alloc (.cells #[.int .u64 t, .slice pa pn pc, .string au, .int .i64 d, .string tx] 78)).alloc (.cells #[.int .u64 t] 31)) w1 := ⟨hg1.os, hg1.tape, hg1.output, hg1.size, fun k hk => hg1.block k (by simp; omega) (by simp [Value.ownBlock])⟩; have b1 : Box5 w1 w.heap.size (.int .u64 t) (.slice pa pn pc) (.string au) (.int .i64 d) (.string tx) := (hBB.block _ (by omega)).trans b0; obtain ⟨c0, c1, c2, c3, c4⟩ := b1.cell; obtain ⟨ad1, cp1, hv1, _⟩ := row_shape ho1; subst hv1; clear hg1 hBB hl0 b0)
    | (at_builtin; refine wpList_appI _ w.heap.size hB1.size rfl _ _ rfl _ (0 + 1) _ rfl ho1 pa pn pc ps rfl (HP.out.par.below hB1) HP.out.len.2.2 (by omega) ?_; intro v2 w2 ho2 hg2; have H2 : Hid (w2.ownsRow w.heap.size 31 1 v2 (t :: ps).length ((t :: ps).map (Value.int .u64)) ∧ Below w.heap.size w w2) := ⟨by have e : (t :: ps).length = 0 + 1 + pn := (by simp [hll]; omega); rw [e]; exact ho2, hB1.trans (below_gr ho1 hB1.size hg2)⟩; obtain ⟨ad2, cp2, hv2, _⟩ := row_shape ho2; subst hv2; clear hg2 ho2)
  go_ret
  exact ⟨_, rfl, H2.out.1, H2.out.2⟩
def comI (t : Int) (ps : List Int) (au tx : ByteArray) : List Int := if comErr t ps au tx = 0 then t :: ps else []
theorem Links_com (t : Int) (pa : Option Addr) (pn pc : Nat) (ps : List Int) (au : ByteArray) (d : Int) (tx : ByteArray) (w : World) (h : Com w t pa pn pc ps au d tx) :
    Calls Tryz.prog 64 #[(coV t pa pn pc au d tx)] w fun e w' => ∃ v, e = .returned v ∧ w'.ownsRow w.heap.size 31 1 v (comI t ps au tx).length ((comI t ps au tx).map (Value.int .u64)) ∧ Below w.heap.size w w' := by
  have c1 := check_com t pa pn pc ps au d tx w h
  unfold comI
  by_cases h0 : comErr t ps au tx = 0
  · have hl := (com_fits h0).2.1
    have hll := h.par.1
    rw [if_pos h0]
    rw [h0] at c1
    have hk := fun w h => links_com t pa pn pc ps au d tx w h (by omega)
    generalize t :: ps = I at *
    go_enter Tryz.func64, Tryz.ntmps64
    go_wp2_with first
      | (go_at_call 74; refine c1.mono ?_; clear c1; rintro e w1 ⟨rfl, hB1⟩)
      | (go_at_call 86; refine (hk _ (h.below hB1)).mono ?_; clear hk; rintro e w2 ⟨v, rfl, ho, hB2⟩; have HO : Hid (w2.ownsRow w1.heap.size 31 1 v I.length (I.map (Value.int .u64))) := ho; obtain ⟨ad, cp, hv, _⟩ := row_shape ho; subst hv; clear ho)
    go_ret
    exact ⟨_, rfl, row_lower HO.out hB1.size, hB1.trans (hB2.mono hB1.size)⟩
  · rw [if_neg h0]
    have h0' : (comErr t ps au tx == 0) = false := beq_eq_false_iff_ne.2 h0
    generalize comErr t ps au tx = E at *
    go_enter Tryz.func64, Tryz.ntmps64
    go_wp2_with (go_at_call 74; refine c1.mono ?_; clear c1; rintro e w1 ⟨rfl, hB1⟩)
    go_ret
    exact ⟨_, rfl, World.ownsRow_nil _ _ _ _, hB1⟩
def comT (t : Int) (ps : List Int) (au : ByteArray) (d : Int) (tx : ByteArray) : List UInt8 := if comErr t ps au tx = 0 then comB t ps au d tx else []
end Go.Proofs.YtncagdfbgpdhfaaGreat
