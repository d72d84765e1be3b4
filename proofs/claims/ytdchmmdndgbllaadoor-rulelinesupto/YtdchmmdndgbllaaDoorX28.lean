import Derived.Test.YtdchmmdndgbllaaDoorX25
import Derived.Test.YtdchmmdndgbllaaDoorX27
import Derived.Shelf.Strings.Split
import Derived.Lib.IndexLaws
import Derived.Lib.IndexBytes
/- The walks of the document's Parts and Path. -/
namespace Go.Proofs.YtdchmmdndgbllaaDoor
open Go.RowKit Go.Shelf

theorem indexB_stroke (s : ByteArray) : Lib.indexB s ⟨#[47]⟩ = Lib.indexByte (bs s) 47 := Lib.index_one _ _
theorem split_cut : ∀ (k : Nat) (s : ByteArray), (bs s).count 47 = k → Lib.splitB ⟨#[47]⟩ 0 k s = (cutS [] (bs s)).map mk
  | 0, s, h => by
    have hn : (47 : UInt8) ∉ bs s := List.count_eq_zero.1 h
    rw [Lib.splitB_zero, cutS_end _ _ hn]
    simp [mk_bs]
  | k + 1, s, h => by
    have hm : (47 : UInt8) ∈ bs s := List.count_pos_iff.1 (by omega)
    have hi := indexB_stroke s
    have hg := Lib.indexByte_ge (bs s) 47
    have hne : Lib.indexByte (bs s) 47 ≠ -1 := fun e => by
      obtain ⟨j, hj, he⟩ := List.getElem_of_mem hm
      exact Lib.indexByte_none e j (by rw [List.getElem?_eq_getElem hj, he])
    obtain ⟨o, ho⟩ : ∃ o : Nat, Lib.indexByte (bs s) 47 = (o : Int) := ⟨(Lib.indexByte (bs s) 47).toNat, by omega⟩
    obtain ⟨h1, h2⟩ := Lib.indexByte_some ho
    have hol : o < (bs s).length := (List.getElem?_eq_some_iff.1 h1).1
    have hsp : bs s = (bs s).take o ++ 47 :: (bs s).drop (o + 1) := by
      have : (bs s).drop o = 47 :: (bs s).drop (o + 1) := by
        rw [List.drop_eq_getElem_cons hol]
        congr 1
        rw [List.getElem?_eq_getElem hol] at h1
        exact Option.some.inj h1
      rw [← this, List.take_append_drop]
    have hns : (47 : UInt8) ∉ (bs s).take o := fun hc => by
      obtain ⟨j, hj, he⟩ := List.getElem_of_mem hc
      rw [List.length_take] at hj
      rw [List.getElem_take] at he
      exact h2 j (by omega) (by rw [List.getElem?_eq_getElem (by omega), he])
    have hso : s.size = (bs s).length := (bs_len s).symm
    have ho2 : (Lib.indexB s ⟨#[47]⟩).toNat = o := by rw [hi, ho]; rfl
    unfold Lib.splitB
    rw [if_neg (by rw [hi, beq_iff_eq]; exact hne), ho2]
    have e1 : s.extract 0 (o + 0) = mk ((bs s).take o) := bs_inj (by rw [bs_extract, bs_mk]; simp)
    have e2 : bs (s.extract (o + (⟨#[47]⟩ : ByteArray).size) s.size) = (bs s).drop (o + 1) := by
      rw [bs_extract, hso, List.take_length]; rfl
    have hcnt : (bs (s.extract (o + (⟨#[47]⟩ : ByteArray).size) s.size)).count 47 = k := by
      rw [e2]
      rw [hsp, List.count_append, List.count_eq_zero.2 hns, List.count_cons_self] at h
      omega
    rw [e1, split_cut k _ hcnt, e2]
    conv => rhs; rw [hsp]
    rw [cutS_stroke _ _ _ hns]; rfl

set_option maxHeartbeats 1000000 in
theorem split_any (s : ByteArray) (w : World) (hs : s.size ≤ 4000000) :
    Calls Tryd.prog 78 #[.string s, .string ⟨#[47]⟩] w fun e w' => e = .returned (.slice (some ⟨w.heap.size, 0, none⟩) (cutS [] (bs s)).length (cutS [] (bs s)).length) ∧ w' = w.alloc (.cells (((cutS [] (bs s)).map mk).map Value.string).toArray 9) := by
  have hcb : Lib.countB s ⟨#[47]⟩ = (bs s).count 47 := Lib.count_one _ _
  have hle := Lib.countB_le ⟨#[47]⟩ (by decide) s.size s (Nat.le_refl _)
  have hlen := Lib.splitB_all ⟨#[47]⟩ (by decide) 0 _ s rfl
  have c := Any.strings_genSplit_core Tryd.lays221 (by kernel_rfl) s ⟨#[47]⟩ 0 (-1) (Lib.countB s ⟨#[47]⟩ + 1) w (by omega) (by decide) (Nat.zero_le _)
    (fun x c hx => (Tryd.strings_Index_one x 47 _).mono fun e w' ⟨he, hw⟩ => ⟨by rw [he]; show _ = Ending.returned (Value.int .i64 (Lib.indexB x ⟨#[47]⟩)); rw [indexB_stroke]; rfl, hw⟩)
    ((Tryd.strings_Count_one s 47 w).mono fun e w' ⟨he, hw⟩ => ⟨by rw [he, hcb]; rfl, hw⟩) (by decide) (by decide) (by rw [if_pos (by decide)]; omega)
  rw [Nat.add_sub_cancel, hlen] at c
  have e2 : Lib.cellsOf (Lib.splitB ⟨#[47]⟩ 0 (Lib.countB s ⟨#[47]⟩) s) (Lib.countB s ⟨#[47]⟩ + 1) = ((Lib.splitB ⟨#[47]⟩ 0 (Lib.countB s ⟨#[47]⟩) s).map Value.string).toArray := by rw [← hlen]; exact Lib.cellsOf_full _
  rw [e2] at c
  have hsc := split_cut _ s hcb.symm
  have hl2 : (cutS [] (bs s)).length = Lib.countB s ⟨#[47]⟩ + 1 := by rw [← hlen, hsc, List.length_map]
  rw [hsc] at c
  rw [hl2]
  clear hsc hlen e2 hle
  generalize ((cutS [] (bs s)).map mk).map Value.string = C at c ⊢
  have c' : Calls Tryd.prog 81 #[.string s, .string ⟨#[47]⟩, .int .i64 0, .int .i64 (-1)] w fun e w' => e = .returned (.slice (some ⟨w.heap.size, 0, none⟩) (Lib.countB s ⟨#[47]⟩ + 1) (Lib.countB s ⟨#[47]⟩ + 1)) ∧ w' = w.alloc (.cells C.toArray 9) := c
  generalize Lib.countB s ⟨#[47]⟩ + 1 = n at c' ⊢
  go_enter Tryd.func78, Tryd.ntmps78
  go_wp2_with (go_at_call 81; refine c'.mono ?_; rintro e w' ⟨rfl, rfl⟩)
  go_ret
  exact ⟨rfl, rfl⟩

/-- the names of a path, in new memory -/
theorem parts_any (s : ByteArray) (w : World) (hs : s.size ≤ 4000000) :
    Calls Tryd.prog 69 #[.string s] w fun e w' => (∃ a, e = .returned (.slice a (parts (bs s)).length (parts (bs s)).length) ∧ Strs w' a (parts (bs s)).length ((parts (bs s)).map mk) ∧ (a = none → (parts (bs s)).length = 0)) ∧ Below w.heap.size w w' := by
  by_cases h1 : s.toList = []
  · have hp : parts (bs s) = [] := by rw [← toList_bs, h1]; rfl
    rw [hp]
    go_enter Tryd.func69, Tryd.ntmps69
    go_wp2
    go_ret
    exact ⟨⟨none, rfl, ⟨rfl, fun h => absurd h (Nat.lt_irrefl _)⟩, fun _ => by first | rfl | trivial⟩, Below.refl _ _⟩
  · have b1 : s.toList.isEmpty = false := by simpa using h1
    have hp : parts (bs s) = cutS [] (bs s) := by unfold parts; rw [if_neg (by rw [← toList_bs]; exact h1)]
    rw [hp]
    have hx := split_any s w hs
    have hst := strs_new w ((cutS [] (bs s)).map mk) 9 (cutS [] (bs s)).length (by simp)
    have H : Hid (Strs (w.alloc (.cells (((cutS [] (bs s)).map mk).map Value.string).toArray 9)) (some ⟨w.heap.size, 0, none⟩) (cutS [] (bs s)).length ((cutS [] (bs s)).map mk)) := hst
    clear hst hp
    generalize (((cutS [] (bs s)).map mk).map Value.string) = C at hx H
    generalize (cutS [] (bs s)).map mk = D at H ⊢
    generalize (cutS [] (bs s)).length = n at hx H ⊢
    go_enter Tryd.func69, Tryd.ntmps69
    go_wp2_with (go_at_call 78; refine hx.mono ?_; rintro e w' ⟨rfl, rfl⟩)
    go_ret
    exact ⟨⟨_, rfl, H.out, fun h => by cases h⟩, (Below.refl _ w).alloc (Nat.le_refl _) _⟩

/-- the place of the k-th name -/
def offAt (ns : List (List UInt8)) : Nat → Nat
  | 0 => 0
  | k + 1 => offAt ns k + (ns.getD k []).length + 1
theorem pathFrom_at (ns : List (List UInt8)) : ∀ (k : Nat), k ≤ ns.length → k ≤ 16 → (∀ j, j < k → okName (ns.getD j []) = true) → pathFrom ns 0 0 = pathFrom (ns.drop k) k (offAt ns k)
  | 0, _, _, _ => rfl
  | k + 1, hk, h16, hok => by
    rw [pathFrom_at ns k (by omega) (by omega) (fun j hj => hok j (by omega)), List.drop_eq_getElem_cons (show k < ns.length by omega)]
    have h1 := hok k (by omega)
    have hg : ns.getD k [] = ns[k] := by rw [List.getD_eq_getElem?_getD, List.getElem?_eq_getElem (show k < ns.length by omega)]; rfl
    rw [hg] at h1
    rw [pathFrom, if_neg (by omega), if_pos h1, offAt, hg]
theorem cutS_len : ∀ (l cur n : List UInt8), n ∈ cutS cur l → n.length ≤ cur.length + l.length
  | [], cur, n, h => by rw [cutS, List.mem_singleton] at h; rw [h]; simp
  | c :: t, cur, n, h => by
    unfold cutS at h
    split at h
    · rcases List.mem_cons.1 h with e | h
      · rw [e]; omega
      · have := cutS_len t [] n h; simp at this ⊢; omega
    · have := cutS_len t _ n h; simp at this ⊢; omega
theorem parts_mem_len (l n : List UInt8) (h : n ∈ parts l) : n.length ≤ l.length := by
  unfold parts at h
  split at h
  · cases h
  · have := cutS_len l [] n h; simpa using this
theorem offAt_small (ns : List (List UInt8)) : ∀ k, (∀ j, j < k → okName (ns.getD j []) = true) → offAt ns k ≤ 33 * k
  | 0, _ => Nat.zero_le _
  | k + 1, h => by
    have h1 := offAt_small ns k (fun j hj => h j (by omega))
    have h2 := (okName_parts _ (h k (by omega))).2.1
    rw [offAt]; omega

theorem rpath_ret {w W : World} {s : ByteArray} {v0 v1 : Value} (a b : Int) (hb : Box2 W w.heap.size v0 v1) (hB : Below w.heap.size w W) (h : spotV (pathSpot (bs s)) = .agg #[.int .i64 a, .int .i64 b]) {x : Act} (ha : x.tmps[2]?.getD undef = .pointer (some ⟨w.heap.size, 0, none⟩)) (hd : x.defers = []) :
    bodyPost Tryd.prog Tryd.f54 (fun e w' => e = Ending.returned (spotV (pathSpot (bs s))) ∧ Below w.heap.size w w') Exit.ret x ((W.setCell ⟨w.heap.size, 0, none⟩ (.int .i64 a)).setCell ⟨w.heap.size, 1, none⟩ (.int .i64 b)) :=
  spot_ret (k := 2) rfl (hb.all _ _) ha hd ⟨by rw [h], (hB.setCell (p := ⟨w.heap.size, 0, none⟩) (Nat.le_refl _) _).setCell (p := ⟨w.heap.size, 1, none⟩) (Nat.le_refl _) _⟩

set_option maxRecDepth 20000 in
set_option maxHeartbeats 4000000 in
theorem refPath_any (s : ByteArray) (w : World) (hs : s.size ≤ 4000000) :
    Calls Tryd.prog 54 #[.string s] w fun e w' => e = .returned (spotV (pathSpot (bs s))) ∧ Below w.heap.size w w' := by
  by_cases h2 : 200 < s.size
  · have i2 : (200 : Int) < s.size := by omega
    go_enter Tryd.func54, Tryd.ntmps54
    go_wp2
    exact spot_ret (k := 2) rfl (Box2.new _ _ _) rfl rfl ⟨by unfold pathSpot; rw [if_pos (show 200 < (bs s).length by rw [bs_len]; exact h2)]; rfl, (Below.refl _ w).alloc (Nat.le_refl _) _⟩
  · have i2 : ¬ (200 : Int) < s.size := by omega
    have hps : pathSpot (bs s) = pathFrom (parts (bs s)) 0 0 := by unfold pathSpot; rw [if_neg (by rw [bs_len]; omega)]
    have hx := parts_any s (w.alloc (.cells #[.int .i64 0, .int .i64 0] 35)) hs
    have hpc := parts_count (bs s)
    rw [bs_len] at hpc
    have HB0 : Hid (Below w.heap.size w (w.alloc (.cells #[.int .i64 0, .int .i64 0] 35)) ∧ Box2 (w.alloc (.cells #[.int .i64 0, .int .i64 0] 35)) w.heap.size (.int .i64 0) (.int .i64 0)) := ⟨(Below.refl _ w).alloc (Nat.le_refl _) _, Box2.new _ _ _⟩
    have HPS : Hid (pathSpot (bs s) = pathFrom (parts (bs s)) 0 0) := hps
    obtain ⟨ns, hns⟩ : ∃ ns, ns = parts (bs s) := ⟨_, rfl⟩
    obtain ⟨N, hN⟩ : ∃ N, N = ns.length := ⟨_, rfl⟩
    rw [← hns] at hx hpc HPS
    rw [← hN] at hx hpc
    have HN : Hid (N = ns.length) := hN
    have HML : Hid (∀ n ∈ ns, n.length ≤ s.size) := fun n hn => by have := parts_mem_len (bs s) n (by rw [← hns]; exact hn); rw [bs_len] at this; exact this
    clear hps hns hN
    go_enter Tryd.func54, Tryd.ntmps54
    go_wp2_with (go_at_call 69; refine hx.mono ?_; clear hx; rintro e w2 ⟨⟨a, rfl, hst, hnl⟩, hB2⟩)
    have HB2 : Hid (Below w.heap.size w w2 ∧ Box2 w2 w.heap.size (.int .i64 0) (.int .i64 0) ∧ Strs w2 a N (ns.map mk)) := ⟨HB0.out.1.trans (hB2.mono HB0.out.1.size), HB0.out.2.kept hB2, hst⟩
    clear HB0 hB2 hst
    go_loopw [3, 14] (fun v i wr => ∃ k : Nat, k ≤ N ∧ k ≤ 16 ∧ v = .int .i64 (offAt ns k : Int) ∧ i = .int .i64 (k : Int) ∧ Hid (Below w2.heap.size w2 wr ∧ ∀ j, j < k → okName (ns.getD j []) = true)) (fun _ i _ => N - (intOf i).toNat)
    case atStart => exact ⟨0, Nat.zero_le _, by omega, rfl, rfl, Below.refl _ _, fun j hj => by omega⟩
    case round =>
      obtain ⟨k, hk, hk16, rfl, rfl, H⟩ := hrel
      have hoff := offAt_small ns k H.out.2
      have hbox : Box2 wr w.heap.size (.int .i64 0) (.int .i64 0) := HB2.out.2.1.kept H.out.1
      have HBw : Hid (Below w.heap.size w wr ∧ Box2 wr w.heap.size (.int .i64 0) (.int .i64 0)) := ⟨HB2.out.1.trans (H.out.1.mono HB2.out.1.size), hbox⟩
      obtain ⟨c0, c1⟩ := hbox.cell
      obtain ⟨f0, f1⟩ := hbox.frozen
      have HF : Hid (pathSpot (bs s) = pathFrom (ns.drop k) k (offAt ns k)) := by
        show _ = _
        rw [HPS.out]; exact pathFrom_at ns k (by rw [← HN.out]; exact hk) hk16 H.out.2
      obtain ⟨O, hO⟩ : ∃ O, O = offAt ns k := ⟨_, rfl⟩
      have HO : Hid (O = offAt ns k) := hO
      rw [← hO] at hoff ⊢
      clear hbox hO
      by_cases hlt : k < N
      · have hkl : k < ns.length := by rw [← HN.out]; exact hlt
        obtain ⟨b, off, rfl, hcl⟩ := HB2.out.2.2.2 (by omega)
        obtain ⟨x, hx⟩ : ∃ x, (ns.map mk)[k]? = some x := ⟨_, List.getElem?_eq_getElem (by rw [List.length_map]; exact hkl)⟩
        have hxn : bs x = ns[k] := by
          rw [List.getElem?_map, List.getElem?_eq_getElem hkl] at hx
          have := Option.some.inj hx
          rw [← this, bs_mk]
        have hcr : wr.cell? ⟨b, off + k, none⟩ = some (.string x) := (H.out.1.cell (p := ⟨b, off + k, none⟩) (World.block_lt_of_cell? w2 _ (hcl k x hx))).trans (hcl k x hx)
        have HD : Hid (ns.drop k = bs x :: ns.drop (k + 1) ∧ ns.getD k [] = bs x) := ⟨by rw [hxn]; exact List.drop_eq_getElem_cons hkl, by rw [hxn, List.getD_eq_getElem?_getD, List.getElem?_eq_getElem hkl]; rfl⟩
        have i1 : (k : Int) < (N : Int) := by omega
        have i3 : ¬ N ≤ k := by omega
        clear hcl hx hxn hkl
        by_cases h16 : k = 16
        · subst h16
          have HR : Hid (spotV (pathSpot (bs s)) = .agg #[.int .i64 3, .int .i64 (O : Int)]) := by
            show _ = _
            rw [HF.out, HD.out.1, pathFrom, if_pos rfl, HO.out]; rfl
          go_wp2
          exact rpath_ret _ _ HBw.out.2 HBw.out.1 HR.out rfl rfl
        · have i16 : ¬ (k : Int) = 16 := by omega
          have hxs : x.size ≤ 4000000 := by
            have h1 : bs x ∈ ns := by
              have : bs x ∈ ns.drop k := by rw [HD.out.1]; simp
              exact List.mem_of_mem_drop this
            have := HML.out _ h1
            rw [bs_len] at this; omega
          have hp := refSpot_any x wr (by unfold maxLen; omega)
          have hsl := (spot_le (bs x)).2
          obtain ⟨e1, h1⟩ : ∃ e1, e1 = (spot (bs x)).1 := ⟨_, rfl⟩
          obtain ⟨e2, h2⟩ : ∃ e2, e2 = (spot (bs x)).2 := ⟨_, rfl⟩
          simp only [spotV] at hp
          rw [← h1, ← h2] at hp
          rw [← h2] at hsl
          have H1 : Hid (e1 = (spot (bs x)).1 ∧ e2 = (spot (bs x)).2) := ⟨h1, h2⟩
          clear h1 h2
          by_cases h0 : e1 = 0
          · subst h0
            have HI : Hid (okName (bs x) = true) := by show _ = _; unfold okName; rw [← H1.out.1]; rfl
            have HO2 : Hid (offAt ns (k + 1) = O + (x.size + 1)) := by
              show _ = _
              rw [offAt, HD.out.2, ← HO.out, bs_len]; omega
            go_wp2_with (go_at_call 70; refine hp.mono ?_; clear hp; rintro e w3 ⟨rfl, hB3⟩; obtain ⟨q0, q1⟩ := box2_at w3 (.int .i64 0) (.int .i64 (e2 : Int)))
            go_roundw
            case rel => exact ⟨k + 1, by omega, by omega, by rw [HO2.out]; simp, by simp, (H.out.1.trans (hB3.mono H.out.1.size)).alloc (by have := H.out.1.size; have := hB3.size; omega) _, fun j hj => by
              by_cases e : j = k
              · rw [e, HD.out.2]; exact HI.out
              · exact H.out.2 j (by omega)⟩
            case measure => simp [intOf]; omega
          · have j0 : ¬ (e1 : Int) = 0 := by omega
            have HR : Hid (spotV (pathSpot (bs s)) = .agg #[.int .i64 (e1 : Int), .int .i64 ((O : Int) + e2)]) := by
              show _ = _
              have hno : okName (bs x) = false := by unfold okName; rw [← H1.out.1]; simpa using h0
              rw [HF.out, HD.out.1, pathFrom, if_neg h16, hno, H1.out.1, H1.out.2, HO.out]
              simp [spotV]
            go_wp2_with (go_at_call 70; refine hp.mono ?_; clear hp; rintro e w3 ⟨rfl, hB3⟩; obtain ⟨q0, q1⟩ := box2_at w3 (.int .i64 (e1 : Int)) (.int .i64 (e2 : Int)); have hb3 := (HBw.out.2.kept hB3).kept ((Below.refl _ _).alloc (Nat.le_refl _) (.cells #[.int .i64 (e1 : Int), .int .i64 (e2 : Int)] 35)); obtain ⟨d0, d1⟩ := hb3.cell; obtain ⟨g0, g1⟩ := hb3.frozen; have HB3 : Hid _ := hb3; clear hb3)
            exact rpath_ret _ _ HB3.out ((HBw.out.1.trans (hB3.mono HBw.out.1.size)).alloc (by have := HBw.out.1.size; have := hB3.size; omega) _) HR.out rfl rfl
      · obtain rfl : k = N := by omega
        have HR : Hid (spotV (pathSpot (bs s)) = .agg #[.int .i64 0, .int .i64 0]) := by
          show _ = _
          rw [HF.out, List.drop_eq_nil_of_le (by rw [← HN.out]; exact Nat.le_refl _)]; rfl
        go_wp2
        exact rpath_ret _ _ HBw.out.2 HBw.out.1 HR.out rfl rfl
end Go.Proofs.YtdchmmdndgbllaaDoor
