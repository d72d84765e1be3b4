/- The walk of the law ObjectRunes. -/
import Derived.Test.YtdibdcbihleflabORunes
import Derived.Test.YtdibdcbihleflabOTree5
import Derived.Deep.DeepCutAuto
import Derived.Deep.CutRange
import Derived.BigQuiet
namespace Go.Proofs.Ytdibdcbihleflab
open Go.RowKit

attribute [local go_sem] Oper.semAt_some

theorem run_minR (ty : TypeId) (n k : Nat) (w : World) : (Builtin.min_ #[3, 3] ty #[.int .i64 (n : Int), .int .i64 (k : Int)]).run Try.prog w = .ok (.int .i64 ((min n k : Nat) : Int)) w := by
  have hm : (min n k : Nat) = if k < n then k else n := by split <;> omega
  rw [hm]
  by_cases hkn : k < n
  · have i1 : (k : Int) < (n : Int) := by omega
    rw [if_pos hkn]
    simp [Builtin.min_, Builtin.min2, go_sem, i1]
  · have i1 : ¬ (k : Int) < (n : Int) := by omega
    rw [if_neg hkn]
    simp [Builtin.min_, Builtin.min2, go_sem, i1]
theorem wpList_minR (w : World) {ops : Array Oper} {rest : List Oper} {o : Oper} {a : Act} {Q : Exit → Act → World → Prop} (hgd : o.guard = none) (x y : Operand)
    (ho : o.op = .call { callee := .builtin .min, args := #[x, y], argTypes := #[3, 3] }) (n k : Nat) (K : Int) (hx : a.eval x = .int .i64 (n : Int)) (hy : a.eval y = .int .i64 K) (hk : K = (k : Int))
    (h : wpList Try.prog ops Q rest (a.put o.dst (.int .i64 ((min n k : Nat) : Int))) w) : wpList Try.prog ops Q (o :: rest) a w := by
  refine wpList_plain hgd fun K hK => ?_
  subst hk
  unfold Oper.wp execOp
  simp only [ho, resolve, invoke, builtin, Sem.run_bind, Sem.run_pure, Result.andThen_ok, List.map_toArray, List.map_cons, List.map_nil, hx, hy, run_minR]
  exact hK _ _ h

theorem infoText : (Try.prog.info? 9).map (fun i => (i.zero, i.size, i.bytes)) = some (some (.string ⟨#[]⟩), 1, 16) := by kernel_rfl
/-- the texts that are gathered: a row of one's own, laid behind a world -/
structure RT (w2 : World) (ad : Option Addr) (k cp : Nat) (TS : List ByteArray) (W : World) : Prop where
  row : W.ownsRow w2.heap.size 9 1 (.slice ad k cp) k (TS.map Value.string)
  bel : Below w2.heap.size w2 W
  ok : AllR TS
  le : k ≤ 258
theorem RT.below {w2 W W' : World} {ad : Option Addr} {k cp : Nat} {TS : List ByteArray} (h : RT w2 ad k cp TS W) (hB : Below W.heap.size W W') : RT w2 ad k cp TS W' :=
  ⟨h.row.kept (row := none) ⟨hB.os, hB.tape, hB.output, hB.size, fun k hk _ => hB.block k hk⟩ (by cases (Value.slice ad k cp).ownBlock <;> simp), h.bel.trans (hB.mono h.bel.size), h.ok, h.le⟩
theorem RT.at {w2 W : World} {ad : Option Addr} {k cp : Nat} {TS : List ByteArray} (h : RT w2 ad k cp TS W) (j : Nat) (hj : j < k) : ∃ g s, ad = some ⟨g, 0, none⟩ ∧ W.cell? ⟨g, j, none⟩ = some (.string s) ∧ rightL (bs s) = true ∧ s.size ≤ 2000 := by
  have hl := h.row.1
  rw [List.length_map] at hl
  obtain ⟨s, hs⟩ : ∃ s, TS[j]? = some s := ⟨_, List.getElem?_eq_getElem (by omega)⟩
  rcases h.row.2 with ⟨_, h'⟩ | ⟨g, cap, cur, e, _⟩
  · omega
  · cases e
    refine ⟨g, s, rfl, ?_, h.ok s (List.mem_of_getElem? hs)⟩
    exact (h.row.cellAt j (by omega)).trans (by rw [List.getElem?_map, hs]; rfl)
theorem str_lit (W : World) (ss : List ByteArray) (j : Nat) (u : Value) (h : (ss.map Value.string)[j]? = some u) : (W.alloc (.cells (ss.map Value.string).toArray 9)).cell? (Addr.add ⟨W.heap.size, 0, none⟩ j) = some u := by
  rw [Addr.add_lit]
  simp only [World.cell?, World.alloc_heap_new]
  show (ss.map Value.string).toArray[0 + j]? = _
  rw [Nat.zero_add, List.getElem?_toArray]
  exact h
theorem row_grow {w2 W W' : World} {v : Value} {n : Nat} {xs : List Value} (h : W.ownsRow w2.heap.size 9 1 v n xs) (hB : Below w2.heap.size w2 W) (hg : W.grownBy W' v.ownBlock) : Below w2.heap.size w2 W' :=
  hB.grown hg hB.size (fun k hk => by
    rcases h.2 with ⟨rfl, _⟩ | ⟨g, cap, cur, rfl, hb, _⟩
    · cases hk
    · cases hk; exact hb)
theorem shape_str {W : World} {B n : Nat} {v : Value} {xs : List Value} (h : W.ownsRow B 9 1 v n xs) : ∃ ad c, v = .slice ad n c := by
  rcases h.2 with ⟨rfl, rfl⟩ | ⟨g, cap, cur, rfl, _⟩
  · exact ⟨none, 0, rfl⟩
  · exact ⟨_, _, rfl⟩
theorem Ents.takeR {w : World} {a : Option Addr} {n : Nat} {l : List Ent} (h : Ents w a n l) (m : Nat) (hm : m ≤ n) : Ents w a m (l.take m) := by
  refine ⟨by simp [h.1]; omega, fun h0 => ?_⟩
  obtain ⟨b, off, e, hc⟩ := h.2 (by omega)
  refine ⟨b, off, e, fun j x hx => hc j x ?_⟩
  rw [List.getElem?_take] at hx
  split at hx
  · exact hx
  · cases hx
theorem Fields.takeR {l : List Ent} (h : Fields l) (m : Nat) : Fields (l.take m) := by
  have up : ∀ (j : Nat) x, (l.take m)[j]? = some x → l[j]? = some x := fun j x hx => by
    rw [List.getElem?_take] at hx
    split at hx
    · exact hx
    · cases hx
  exact ⟨fun j x hx => h.name j x (up j x hx), fun j x hx => h.id j x (up j x hx)⟩
theorem names_take (l : List Ent) (k : Nat) (x : Ent) (h : l[k]? = some x) : (l.take (k + 1)).map (fun y => Value.string y.1) = (l.take k).map (fun y => Value.string y.1) ++ [Value.string x.1] := by
  rw [List.take_add_one, h]
  simp

set_option maxRecDepth 100000 in
set_option maxHeartbeats 8000000 in
theorem objectRunes_walk (a : Option Addr) (n c : Nat) (l : List Ent) (t : Int) (pa : Option Addr) (pn pc : Nat) (ps : List Int) (au : ByteArray) (d : Int) (tx : ByteArray) (w : World) (hb : Ents w a n l) (hf0 : Fields l) (hnc : n ≤ c) (h : Com w t pa pn pc ps au d tx) :
    Calls Try.prog 5 #[.slice a n c, cmt t pa pn pc au d tx] w fun e w' => e = .returned (.bool true) ∧ Below w.heap.size w w' := by
  obtain ⟨i0, hi0, hzz0, hzz1, hzz2⟩ := info_parts infoText
  obtain ⟨m, hm⟩ : ∃ m, m = min n 256 := ⟨_, rfl⟩
  have im : (m : Int) ≤ (c : Int) := by omega
  have HM : Hid (m = min n 256) := hm
  have hm9 : m ≤ 256 := by omega
  have HY : Hid (Ents w a m (l.take m)) := hb.takeR m (by omega)
  have HF : Hid (Fields (l.take m)) := hf0.takeR m
  have hlt : (l.take m).length = m := HY.out.1
  generalize l.take m = L at HY hlt HF
  have HC : Hid (Com w t pa pn pc ps au d tx) := h
  have b0 := Box5.new w (.int .u64 t) (.slice pa pn pc) (.string au) (.int .i64 d) (.string tx)
  have hB0 : Below w.heap.size w (w.alloc (.cells #[.int .u64 t, .slice pa pn pc, .string au, .int .i64 d, .string tx] 28)) := (Below.refl _ w).alloc (Nat.le_refl _) _
  obtain ⟨E, hE⟩ : ∃ E, E = treeErrs L := ⟨_, rfl⟩
  obtain ⟨F, hF⟩ : ∃ F, F = comErr t ps au tx := ⟨_, rfl⟩
  have HCT : Hid (∀ W, Below w.heap.size w W → Calls Try.prog 9 #[trV a m c] W fun e w' => e = .returned (.int .i64 E) ∧ Below W.heap.size W w') := fun W hB => by rw [hE]; exact Check_tree a m c L W (HY.out.below hB) HF.out.name (by omega)
  have HCC : Hid (∀ W, Below w.heap.size w W → Calls Try.prog 9 #[coV t pa pn pc au d tx] W fun e w' => e = .returned (.int .i64 F) ∧ Below W.heap.size W w') := fun W hB => by rw [hF]; exact Check_com t pa pn pc ps au d tx W (HC.out.below hB)
  have HE : Hid (E = 0 → treeErrs L = 0) := fun e => by rw [← hE]; exact e
  have HG : Hid (F = 0 → AllR [au, tx]) := fun e => com_right (by rw [← hF]; exact e)
  clear hm hb hf0 h hE hF
  go_enter Try.func5, Try.ntmps5
  go_upto_if 23 with (first
    | (go_at_call 7; refine (wakes_any _).mono ?_; rintro e w1 ⟨rfl, hB1⟩; have HB1 : Hid (Below w.heap.size w w1) := hB0.trans (hB1.mono hB0.size); have b1 := b0.kept hB1; clear hB1)
    | (refine wpList_minR _ rfl _ _ rfl n 256 _ rfl rfl rfl ?_; rw [← HM.out])
    | (go_at_call 9; refine (HCT.out _ HB1.out).mono ?_; clear HCT; rintro e w2 ⟨rfl, hB2⟩; have HB2 : Hid (Below w.heap.size w w2) := HB1.out.trans (hB2.mono HB1.out.size); have b2 := b1.kept hB2; clear hB2))
  go_cut [5, 6, 7] from 24 to 49 (fun v5 _ _ wr => ∃ (k : Nat) (ad : Option Addr) (cp : Nat) (TS : List ByteArray), v5 = .slice ad k cp ∧ k ≤ 256 ∧ Hid (RT w2 ad k cp TS wr))
  case first =>
    clear HCC HG
    by_cases h0 : E = 0
    · have HT : Hid (treeErrs L = 0) := HE.out h0
      subst h0
      have HYY : Hid (Ents w2 a m L) := HY.out.below HB2.out
      have hge := run_geq
      clear HE b2
      go_wp2_with fail
      go_loopw [5, 26] (fun v i wr => ∃ (k : Nat) (ad : Option Addr) (cp : Nat), k ≤ m ∧ i = .int .i64 (k : Int) ∧ v = .slice ad k cp ∧ Hid (wr.ownsRow w2.heap.size 9 1 (.slice ad k cp) k ((L.take k).map (fun y => Value.string y.1)) ∧ Below w2.heap.size w2 wr)) (fun _ i _ => m - (intOf i).toNat)
      case atStart => exact ⟨0, none, 0, Nat.zero_le _, rfl, rfl, World.ownsRow_nil _ _ _ _, Below.refl _ _⟩
      case round =>
        obtain ⟨k, ad, cp, hk, rfl, rfl, H⟩ := hrel
        by_cases hkm : k < m
        · obtain ⟨x, hx⟩ : ∃ x, L[k]? = some x := ⟨_, List.getElem?_eq_getElem (by omega)⟩
          have hBw := H.out.2
          obtain ⟨b1', o1, hab, hc1⟩ := (HYY.out.below hBw).2 (by omega)
          subst hab
          obtain ⟨q1, q2, q3⟩ := hc1 k x hx
          have i2 : (k : Int) < (m : Int) := by omega
          have i3 : ¬ m ≤ k := by omega
          have HTK : Hid ((L.take (k + 1)).map (fun y => Value.string y.1) = (L.take k).map (fun y => Value.string y.1) ++ [Value.string x.1]) := names_take L k x hx
          obtain ⟨nm, fo, id⟩ := x
          simp only at q1 q2 q3 HTK
          have hsw := hBw.size
          have HQ : Hid (∀ q, (((wr.alloc (.cells #[.string nm, .bool fo, .int .u64 id] 56)).drewN q).alloc (.cells #[.string nm] 9)).ownsRow w2.heap.size 9 1 (.slice ad k cp) k ((L.take k).map (fun y => Value.string y.1)) ∧ Below w2.heap.size w2 (((wr.alloc (.cells #[.string nm, .bool fo, .int .u64 id] 56)).drewN q).alloc (.cells #[.string nm] 9)) ∧ (∀ j u, ([Value.string nm] : List Value)[j]? = some u → (((wr.alloc (.cells #[.string nm, .bool fo, .int .u64 id] 56)).drewN q).alloc (.cells #[.string nm] 9)).cell? (Addr.add ⟨wr.heap.size + 1, 0, none⟩ j) = some u) ∧ w2.heap.size ≤ (((wr.alloc (.cells #[.string nm, .bool fo, .int .u64 id] 56)).drewN q).alloc (.cells #[.string nm] 9)).heap.size) := fun q => by
            have h1 : (wr.alloc (.cells #[.string nm, .bool fo, .int .u64 id] 56)).ownsRow w2.heap.size 9 1 (.slice ad k cp) k ((L.take k).map (fun y => Value.string y.1)) := H.out.1.alloc _
            have h2 : ((wr.alloc (.cells #[.string nm, .bool fo, .int .u64 id] 56)).drewN q).ownsRow w2.heap.size 9 1 (.slice ad k cp) k ((L.take k).map (fun y => Value.string y.1)) := h1
            have h3 : Below w2.heap.size w2 ((wr.alloc (.cells #[.string nm, .bool fo, .int .u64 id] 56)).drewN q) := below_drewN (hBw.alloc hBw.size _) q
            refine ⟨h2.alloc _, h3.alloc h3.size _, fun j u hj => ?_, (h3.alloc h3.size _).size⟩
            have := str_lit ((wr.alloc (.cells #[.string nm, .bool fo, .int .u64 id] 56)).drewN q) [nm] j u hj
            rw [show ((wr.alloc (.cells #[.string nm, .bool fo, .int .u64 id] 56)).drewN q).heap.size = wr.heap.size + 1 from World.size_alloc wr _] at this
            exact this
          by_cases hz : 0 < k
          · obtain ⟨k', hk'⟩ : ∃ k', k = k' + 1 := ⟨k - 1, by omega⟩
            obtain ⟨y, hy⟩ : ∃ y, L[k']? = some y := ⟨_, List.getElem?_eq_getElem (by omega)⟩
            obtain ⟨y1, _, _⟩ := hc1 k' y hy
            have hls : Op.bytesLess y.1.toList nm.toList = true := sle_less (tree_order HT.out (by rw [← hk']; exact hx) hy)
            have i7 : 0 < k := by omega
            have i7' : decide (0 < k) = true := decide_eq_true i7
            have i7'' : decide ((0 : Int) < (k : Int)) = true := decide_eq_true (by omega)
            have i8 : (k : Int) - 1 = (k' : Int) := by omega
            have i9 : ¬ m ≤ k' := by omega
            have i11 : IntKind.i64.wrap (k' : Int) = (k' : Int) := by simp [IntKind.wrap, IntKind.bits, IntKind.signed]; omega
            have i10 : (k' : Int) < (m : Int) := by omega
            obtain ⟨ny, fy, iy⟩ := y
            simp only at y1 hls
            have y2 : (wr.alloc (.cells #[.string nm, .bool fo, .int .u64 id] 56)).cell? ⟨b1', o1 + k' * 3, none⟩ = some (.string ny) := (((Below.refl wr.heap.size wr).alloc (Nat.le_refl _) (.cells #[.string nm, .bool fo, .int .u64 id] 56)).cell (p := ⟨b1', o1 + k' * 3, none⟩) (World.block_lt_of_cell? wr _ y1)).trans y1
            clear hc1 hx hBw H hy hk' hz
            go_wp2_with fail
            go_quiet (fail)
            go_wp2_with (at_builtin; refine wpList_append_own _ rfl _ _ 54 rfl w2.heap.size 9 i0 _ 1 16 Try.underlying54 hi0 hzz0 hzz1 hzz2 rfl (by decide) _ k _ rfl (HQ.out _).1 ⟨_, 0, none⟩ 1 1 [.string nm] rfl rfl (HQ.out _).2.2.1 (by simp [Value.oneCell']) (by unfold maxLen; omega) (by omega) (HQ.out _).2.2.2 ?_; intro v' x5 hown5 hgr5 _; have H5 : Hid (x5.ownsRow w2.heap.size 9 1 v' (k + 1) ((L.take (k + 1)).map (fun y => Value.string y.1)) ∧ Below w2.heap.size w2 x5) := ⟨by rw [HTK.out]; exact hown5, row_grow (HQ.out _).1 (HQ.out _).2.1 hgr5⟩; obtain ⟨ad5, cp5, e5⟩ := shape_str hown5; subst e5; clear hown5 hgr5)
            go_roundw
            case rel =>
              refine ⟨_, _, _, _, _, _, _, _, _, _, _, _, _, _, _, _, _, _, _, _, _, _, _, _, _, _, _, _, ⟨k + 1, ad5, cp5, by omega, ?_, rfl, H5.out⟩, rfl⟩
              simp
            case measure => simp [intOf]; omega
          · have i7' : decide (0 < k) = false := decide_eq_false hz
            have i7'' : decide ((0 : Int) < (k : Int)) = false := decide_eq_false (by omega)
            clear hc1 hx hBw H hz
            go_wp2_with fail
            go_quiet (fail)
            go_wp2_with (at_builtin; refine wpList_append_own _ rfl _ _ 54 rfl w2.heap.size 9 i0 _ 1 16 Try.underlying54 hi0 hzz0 hzz1 hzz2 rfl (by decide) _ k _ rfl (HQ.out _).1 ⟨_, 0, none⟩ 1 1 [.string nm] rfl rfl (HQ.out _).2.2.1 (by simp [Value.oneCell']) (by unfold maxLen; omega) (by omega) (HQ.out _).2.2.2 ?_; intro v' x5 hown5 hgr5 _; have H5 : Hid (x5.ownsRow w2.heap.size 9 1 v' (k + 1) ((L.take (k + 1)).map (fun y => Value.string y.1)) ∧ Below w2.heap.size w2 x5) := ⟨by rw [HTK.out]; exact hown5, row_grow (HQ.out _).1 (HQ.out _).2.1 hgr5⟩; obtain ⟨ad5, cp5, e5⟩ := shape_str hown5; subst e5; clear hown5 hgr5)
            go_roundw
            case rel =>
              refine ⟨_, _, _, _, _, _, _, _, _, _, _, _, _, _, _, _, _, _, _, _, _, _, _, _, _, _, _, _, ⟨k + 1, ad5, cp5, by omega, ?_, rfl, H5.out⟩, rfl⟩
              simp
            case measure => simp [intOf]; omega
        · obtain rfl : k = m := by omega
          have i2 : ¬ (k : Int) < (k : Int) := by omega
          have HR : Hid (RT w2 ad k cp (L.map (fun y => y.1)) wr) := ⟨by
            have h1 := H.out.1
            rw [List.take_of_length_le (by omega)] at h1
            rw [List.map_map]
            exact h1, H.out.2, fun s hs => by
              obtain ⟨y, hy, rfl⟩ := List.mem_map.1 hs
              obtain ⟨j, hj⟩ := List.mem_iff_getElem?.1 hy
              exact tree_name HT.out hj, by omega⟩
          clear H
          go_wp2_with fail
          go_meet
          exact ⟨k, ad, cp, _, rfl, hm9, HR.out⟩
    · have h0' : (E == 0) = false := beq_eq_false_iff_ne.2 h0
      go_wp2_with fail
      go_meet
      exact ⟨0, none, 0, [], rfl, by omega, World.ownsRow_nil _ _ _ _, Below.refl _ _, AllR.nil, by omega⟩
  case rest =>
    obtain ⟨k, ad, cp, TS, rfl, hk6, H⟩ := hcut
    have HBc : Hid (Below w.heap.size w wc) := HB2.out.trans (H.out.bel.mono HB2.out.size)
    have b3 := b2.kept H.out.bel
    obtain ⟨c0, c1, c2, c3, c4⟩ := b3.cell
    clear HE HY HF HB1 b1 b0 hB0 hlt b2
    go_upto_if 53 with (go_at_call 9; refine (HCC.out _ HBc.out).mono ?_; clear HCC; rintro e w3 ⟨rfl, hB3⟩; have HR3 : Hid (RT w2 ad k cp TS w3) := H.out.below hB3; have HB3 : Hid (Below w.heap.size w w3) := HBc.out.trans (hB3.mono HBc.out.size); have b4 := b3.kept hB3; clear hB3 H)
    go_cut [5] from 54 to 60 (fun v5 wr => ∃ (k : Nat) (ad : Option Addr) (cp : Nat) (TS : List ByteArray), v5 = .slice ad k cp ∧ k ≤ 258 ∧ Hid (RT w2 ad k cp TS wr))
    case first =>
      by_cases h0 : F = 0
      · have HA : Hid (AllR [au, tx]) := HG.out h0
        subst h0
        have hb5 : (w3.alloc (.cells #[.string au, .string tx] 9)).ownsRow w2.heap.size 9 1 (.slice ad k cp) k (TS.map Value.string) := HR3.out.row.alloc _
        have hB5 : Below w2.heap.size w2 (w3.alloc (.cells #[.string au, .string tx] 9)) := HR3.out.bel.alloc HR3.out.bel.size _
        have HL1 : Hid (∀ j u, ([Value.string au, Value.string tx] : List Value)[j]? = some u → (w3.alloc (.cells #[.string au, .string tx] 9)).cell? (Addr.add ⟨w3.heap.size, 0, none⟩ j) = some u) := fun j u hj => str_lit w3 [au, tx] j u hj
        obtain ⟨d0, d1, d2, d3, d4⟩ := b4.cell
        have hz5 := hB5.size
        clear HG b3 c0 c1 c2 c3 c4
        go_wp2_with (at_builtin; refine wpList_append_own _ rfl _ _ 54 rfl w2.heap.size 9 i0 _ 1 16 Try.underlying54 hi0 hzz0 hzz1 hzz2 rfl (by decide) _ k _ rfl hb5 ⟨_, 0, none⟩ 2 2 [.string au, .string tx] rfl rfl HL1.out (by simp [Value.oneCell']) (by unfold maxLen; omega) (by omega) hz5 ?_; intro v' x5 hown5 hgr5 _; have H5 : Hid (x5.ownsRow w2.heap.size 9 1 v' (k + 2) ((TS ++ [au, tx]).map Value.string) ∧ Below w2.heap.size w2 x5) := ⟨by rw [List.map_append]; exact hown5, row_grow hb5 hB5 hgr5⟩; clear hown5 hgr5 hb5 hB5 hz5)
        go_meet
        obtain ⟨ad5, cp5, e5⟩ := shape_str H5.out.1
        have h5 := H5.out
        rw [e5] at h5
        exact ⟨k + 2, ad5, cp5, TS ++ [au, tx], e5, by omega, h5.1, h5.2, HR3.out.ok.app HA.out, by omega⟩
      · have h0' : (F == 0) = false := beq_eq_false_iff_ne.2 h0
        go_wp2_with fail
        go_meet
        exact ⟨k, ad, cp, TS, rfl, by omega, HR3.out⟩
    case rest =>
      clear HR3 b4 HB3 HG b3 c0 c1 c2 c3 c4 HBc hk6
      obtain ⟨k, ad, cp, TS, rfl, hk8, H⟩ := hcut
      rename_i wd
      go_wp2_with fail
      go_loopw [63] (fun i wr => ∃ j : Nat, j ≤ k ∧ i = .int .i64 (j : Int) ∧ Hid (RT w2 ad k cp TS wr)) (fun i _ => k - (intOf i).toNat)
      case atStart => exact ⟨0, Nat.zero_le _, rfl, H.out⟩
      case round =>
        clear H
        obtain ⟨j, hj, rfl, H⟩ := hrel
        by_cases hjk : j < k
        · obtain ⟨g, s, hg, cs, hrs, hss⟩ := H.out.at j hjk
          subst hg
          have i2 : (j : Int) < (k : Int) := by omega
          have i3 : ¬ k ≤ j := by omega
          obtain ⟨nr, cr, w4, hc1, hc2, hB4⟩ := runes_row wr s (by omega)
          have e1 : runesBytes (runesL (bs s)) = s := bs_inj (runes_back _ (right_B _ _ (Nat.le_refl _) hrs))
          rw [e1] at hc2
          have HR4 : Hid (RT w2 (some ⟨g, 0, none⟩) k cp TS w4) := H.out.below hB4
          have HRS : Hid (rightL (bs s) = true) := hrs
          have e2 : (s.toList == s.toList) = true := by simp
          clear H hB4 e1 hrs
          go_wp2_with fail
          go_loopw [] (fun wx => ∃ p : Nat, p ≤ s.size ∧ wx = w4.iter s p ∧ Hid (rightL ((bs s).drop p) = true)) (fun wx => s.size - wx.iterPos w4.heap.size)
          case atStart => exact ⟨0, Nat.zero_le _, rfl, by simpa [Hid] using HRS.out⟩
          case round =>
            obtain ⟨p, hp, rfl, H⟩ := hrel
            by_cases hlt : p < s.size
            · obtain ⟨r, hr⟩ : ∃ r, r = (dec ((bs s).drop p)).1 := ⟨_, rfl⟩
              obtain ⟨dd, hd⟩ : ∃ dd, dd = (dec ((bs s).drop p)).2 := ⟨_, rfl⟩
              have hne : (bs s).drop p ≠ [] := fun e => by
                have := congrArg List.length e
                rw [List.length_drop, bs_len] at this; simp at this; omega
              have hd1 : 1 ≤ dd := by rw [hd]; exact dec_pos _
              have hd2 : p + dd ≤ s.size := by
                have := dec_le _ hne
                rw [← hd, List.length_drop, bs_len] at this; omega
              have hdec : Utf8.decode s p = (r, dd) := by rw [decode_dec, hr, hd]; rfl
              have hrle : r ≤ 2147483647 := by have := decode_le s p; rw [hdec] at this; exact this
              have hnx := run_next_any (P := Try.prog) w4 s p (h := hlt)
              rw [hdec] at hnx
              obtain ⟨W1, hW1⟩ : ∃ W1, W1 = w4.iter s p := ⟨_, rfl⟩
              obtain ⟨W2, hW2⟩ : ∃ W2, W2 = w4.iter s (p + dd) := ⟨_, rfl⟩
              have hm1 : Hid (s.size - W2.iterPos w4.heap.size < s.size - W1.iterPos w4.heap.size) := by
                have e1 := World.iterPos_iter w4 s p
                have e2 := World.iterPos_iter w4 s (p + dd)
                rw [← hW1] at e1
                rw [← hW2] at e2
                show _ < _
                rw [e1, e2]; omega
              obtain ⟨hz, hrr⟩ := right_head _ hne H.out
              rw [← hr] at hz
              rw [← hd, List.drop_drop] at hrr
              have HX : Hid (∃ p', p' ≤ s.size ∧ W2 = w4.iter s p' ∧ Hid (rightL ((bs s).drop p') = true)) := ⟨p + dd, hd2, hW2, hrr⟩
              rw [← hW1, ← hW2] at hnx
              rw [← hW1]
              have i0 : ((r : Int) == 0) = false := beq_eq_false_iff_ne.2 (by omega)
              have i6 : ¬ (r : Int) = 0 := by omega
              clear hne hd hr hdec hW1 hW2 H hrr hz
              go_wp2
              go_roundw
              case rel => exact HX.out
              case measure => exact hm1.out
            · obtain rfl : p = s.size := by omega
              have hnx := run_next_end (P := Try.prog) w4 s s.size (h := Nat.lt_irrefl _)
              obtain ⟨W1, hW1⟩ : ∃ W1, W1 = w4.iter s s.size := ⟨_, rfl⟩
              have HR5 : Hid (RT w2 (some ⟨g, 0, none⟩) k cp TS W1) := HR4.out.below (by rw [hW1]; exact (Below.refl _ w4).alloc (Nat.le_refl _) _)
              rw [← hW1] at hnx
              rw [← hW1]
              clear hW1 H HR4
              go_wp2
              go_roundw
              case rel => exact ⟨j + 1, by omega, by simp, HR5.out⟩
              case measure => simp [intOf]; omega
        · obtain rfl : j = k := by omega
          have i2 : ¬ (j : Int) < (j : Int) := by omega
          go_wp2_with (go_at_call 7; refine (wakes_any _).mono ?_; rintro e w9 ⟨rfl, hB9⟩)
          go_ret
          exact ⟨rfl, HB2.out.trans ((H.out.bel.trans (hB9.mono H.out.bel.size)).mono HB2.out.size)⟩
end Go.Proofs.Ytdibdcbihleflab
