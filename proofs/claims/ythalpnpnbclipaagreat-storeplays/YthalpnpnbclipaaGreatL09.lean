import Derived.Test.YthalpnpnbclipaaGreatL07
import Derived.Deep.QuietTactic
import Derived.BigQuiet
import Derived.Test.YthalpnpnbclipaaGreatL08
/- The document's check of a tree. -/
namespace Go.Proofs.YthalpnpnbclipaaGreat
open Go.RowKit

attribute [local go_sem] Oper.semAt_some

theorem sle_none (nm : ByteArray) (h : (spot (bs nm)).1 = 0) : sle nm ⟨#[]⟩ = false := by
  have hne : nm.toList ≠ [] := by
    intro e
    rw [toList_bs] at e
    rw [e] at h
    exact absurd h (by decide)
  unfold sle
  have : (⟨#[]⟩ : ByteArray).toList = [] := by rw [toList_bs]; rfl
  rw [this]
  cases hn : nm.toList with
  | nil => exact absurd hn hne
  | cons x r => rfl

set_option maxRecDepth 100000 in
set_option maxHeartbeats 8000000 in
theorem refCheckTree_any (a : Option Addr) (n c : Nat) (l : List Ent) (w : World) (h : Ents w a n l) (hs : Short l) (hn : n ≤ 9223372036854775807) :
    Calls Tryz.prog 66 #[.slice a n c] w fun e w' => e = .returned (.int .i64 (treeErrs l)) ∧ Below w.heap.size w w' := by
  have hll := h.1
  have hlq := run_leq
  by_cases h256 : 256 < n
  · have i1 : (256 : Int) < n := by omega
    have e1 : treeErrs l = 3 := by unfold treeErrs; rw [if_pos (by omega)]
    go_enter Tryz.func66, Tryz.ntmps66
    go_wp2
    go_ret
    exact ⟨by rw [e1]; rfl, Below.refl _ _⟩
  · have i1 : ¬ (256 : Int) < n := by omega
    have e1 : treeErrs l = treeErr ⟨#[]⟩ l := by unfold treeErrs; rw [if_neg (by omega)]
    rw [e1]
    obtain ⟨E, hE⟩ : ∃ E, E = treeErr ⟨#[]⟩ l := ⟨_, rfl⟩
    rw [← hE]
    go_enter Tryz.func66, Tryz.ntmps66
    go_wp2
    go_loopw [11] (fun i wr => ∃ (k : Nat) (s : ByteArray), k ≤ n ∧ i = .int .i64 (k : Int) ∧ Hid (E = treeErr s (l.drop k) ∧ (k = 0 → s = ⟨#[]⟩) ∧ (∀ x, 0 < k → l[k - 1]? = some x → s = x.1) ∧ Below w.heap.size w wr)) (fun i _ => n - (intOf i).toNat)
    case atStart => exact ⟨0, _, Nat.zero_le _, rfl, hE, fun _ => rfl, fun _ h => by omega, Below.refl _ _⟩
    case round =>
      clear hE e1
      obtain ⟨k, s, hk, rfl, H⟩ := hrel
      by_cases hlt : k < n
      · obtain ⟨x, hx⟩ : ∃ x, l[k]? = some x := ⟨_, List.getElem?_eq_getElem (by omega)⟩
        obtain ⟨b1, o1, rfl, hc1⟩ := h.2 (by omega)
        obtain ⟨t1, t2, t3⟩ := hc1 k x hx
        have hBw := H.out.2.2.2
        have q1 := (hBw.cell (p := ⟨b1, o1 + k * 3, none⟩) (World.block_lt_of_cell? w _ t1)).trans t1
        have q2 := (hBw.cell (p := ⟨b1, o1 + k * 3 + 1, none⟩) (World.block_lt_of_cell? w _ t2)).trans t2
        have q3 := (hBw.cell (p := ⟨b1, o1 + k * 3 + 2, none⟩) (World.block_lt_of_cell? w _ t3)).trans t3
        have hd := treeErr_drop s l k x hx
        have hck := fun w => refSpot_any x.1 w (hs k x hx)
        have i2 : (k : Int) < (n : Int) := by omega
        have i3 : ¬ n ≤ k := by omega
        have HD : Hid (treeErr s (l.drop k) = if (spot (bs x.1)).1 ≠ 0 then ((spot (bs x.1)).1 : Int) else if sle x.1 s then 161 else if x.2.2 = 0 then 2 else treeErr x.1 (l.drop (k + 1))) := hd
        have HX : Hid (l[k]? = some x) := hx
        have HP : Hid (0 < k → ∀ W, Below w.heap.size w W → W.cell? ⟨b1, o1 + (k - 1) * 3, none⟩ = some (.string s)) := fun h0 W hW => by
          obtain ⟨y, hy⟩ : ∃ y, l[k - 1]? = some y := ⟨_, List.getElem?_eq_getElem (by omega)⟩
          rw [H.out.2.2.1 y h0 hy]
          obtain ⟨u1, _, _⟩ := hc1 (k - 1) y hy
          exact (hW.cell (p := ⟨b1, o1 + (k - 1) * 3, none⟩) (World.block_lt_of_cell? w _ u1)).trans u1
        have HZ : Hid ((spot (bs x.1)).1 = 0 → k = 0 → sle x.1 s = false) := fun h1 h2 => by rw [H.out.2.1 h2]; exact sle_none _ h1
        clear hc1 hx t1 t2 t3 hd h
        obtain ⟨nm, fo, id⟩ := x
        simp only at q1 q2 q3 hck HD HZ
        obtain ⟨se, sp⟩ : ∃ se, se = spot (bs nm) := ⟨_, rfl⟩
        rw [← sp] at hck HD HZ
        clear sp
        simp only [spotV] at hck
        obtain ⟨se1, se2⟩ := se
        simp only at hck HD HZ
        by_cases h1 : se1 = 0
        · subst h1
          rw [if_neg (by simp)] at HD
          simp only [show ((0 : Nat) : Int) = 0 from rfl] at hck
          go_wp2_with (go_at_call 94; refine (hck _).mono ?_; clear hck; rintro e w2 ⟨rfl, hB2⟩; have hs2 := hB2.size; obtain ⟨c0, c1, c2⟩ := ((Box3.new wr (.string nm) (.bool fo) (.int .u64 id)).below (hB2.alloc hB2.size (.cells #[.int .i64 0, .int .i64 (se2 : Int)] 153)) (by simp)).cell; have HB : Hid (Below w.heap.size w (w2.alloc (.cells #[.int .i64 0, .int .i64 (se2 : Int)] 153))) := ((hBw.alloc hBw.size _).trans (hB2.mono (by simp; have := hBw.size; omega))).alloc (by have := hBw.size; have := hB2.size; simp at this; omega) _; clear hB2)
          clear q1 q2 q3
          cases k with
          | zero =>
            have h2 := HZ.out trivial rfl
            rw [if_neg (by rw [h2]; simp)] at HD
            simp only [show ((0 : Nat) : Int) = 0 from rfl] at i2 ⊢
            go_quiet (fail)
            by_cases h3 : id = 0
            · rw [if_pos h3] at HD
              subst h3
              have HE : Hid (E = 2) := H.out.1.trans HD.out
              clear HD
              go_wp2_with fail
              go_ret
              exact ⟨by rw [HE.out]; rfl, below_drewN HB.out _⟩
            · rw [if_neg h3] at HD
              have h3' : (id == 0) = false := beq_eq_false_iff_ne.2 h3
              have HE : Hid (E = treeErr nm (l.drop 1)) := H.out.1.trans HD.out
              clear HD
              go_wp2_with fail
              go_roundw
              case rel => exact ⟨1, nm, by omega, by simp, HE.out, fun h => by omega, fun x _ hx => by have := HX.out; rw [hx] at this; cases this; rfl, below_drewN HB.out _⟩
              case measure => simp [intOf]; omega
          | succ j =>
            have cp := HP.out (by omega) _ HB.out
            simp only [Nat.add_sub_cancel] at cp
            have hq := run_leq nm s
            clear hlq
            by_cases h2 : sle nm s = true
            · rw [if_pos h2] at HD
              rw [h2] at hq
              clear h2
              go_quiet (fail)
              have HE : Hid (E = 161) := H.out.1.trans HD.out
              clear HD
              go_wp2_with fail
              go_ret
              exact ⟨by rw [HE.out]; rfl, below_drewN HB.out _⟩
            · rw [if_neg h2] at HD
              rw [show sle nm s = false by simpa using h2] at hq
              clear h2
              go_quiet (fail)
              by_cases h3 : id = 0
              · rw [if_pos h3] at HD
                subst h3
                have HE : Hid (E = 2) := H.out.1.trans HD.out
                clear HD
                go_wp2_with fail
                go_ret
                exact ⟨by rw [HE.out]; rfl, below_drewN HB.out _⟩
              · rw [if_neg h3] at HD
                have h3' : (id == 0) = false := beq_eq_false_iff_ne.2 h3
                have HE : Hid (E = treeErr nm (l.drop (j + 1 + 1))) := H.out.1.trans HD.out
                clear HD
                go_wp2_with fail
                go_roundw
                case rel => exact ⟨j + 1 + 1, nm, by omega, by simp, HE.out, fun h => by omega, fun x _ hx => by have := HX.out; rw [Nat.add_sub_cancel] at hx; rw [hx] at this; cases this; rfl, below_drewN HB.out _⟩
                case measure => simp [intOf]; omega
        · rw [if_pos h1] at HD
          have h1' : ((se1 : Int) == 0) = false := beq_eq_false_iff_ne.2 (by omega)
          have HE : Hid (E = (se1 : Int)) := H.out.1.trans HD.out
          clear HD
          go_wp2_with (go_at_call 94; refine (hck _).mono ?_; clear hck; rintro e w2 ⟨rfl, hB2⟩; have hs2 := hB2.size; obtain ⟨c0, c1, c2⟩ := ((Box3.new wr (.string nm) (.bool fo) (.int .u64 id)).below (hB2.alloc hB2.size (.cells #[.int .i64 (se1 : Int), .int .i64 (se2 : Int)] 153)) (by simp)).cell; have HB : Hid (Below w.heap.size w (w2.alloc (.cells #[.int .i64 (se1 : Int), .int .i64 (se2 : Int)] 153))) := ((hBw.alloc hBw.size _).trans (hB2.mono (by simp; have := hBw.size; omega))).alloc (by have := hBw.size; have := hB2.size; simp at this; omega) _; clear hB2)
          go_ret
          exact ⟨by rw [HE.out]; rfl, HB.out⟩
      · obtain rfl : k = n := by omega
        have i2 : ¬ (k : Int) < (k : Int) := by omega
        have e0 : E = 0 := by rw [H.out.1, ← hll]; exact treeErr_end _ _
        subst e0
        go_wp2
        go_ret
        exact ⟨rfl, H.out.2.2.2⟩
end Go.Proofs.YthalpnpnbclipaaGreat

/- What the calls of the layer answer of a tree. -/
namespace Go.Proofs.YthalpnpnbclipaaGreat
open Go.RowKit

theorem Ents.below {w W : World} {a : Option Addr} {n : Nat} {l : List Ent} (h : Ents w a n l) (hB : Below w.heap.size w W) : Ents W a n l := h.kept hB
abbrev trV (a : Option Addr) (n c : Nat) : Value := .iface 69 (.agg #[.slice a n c])
def treeB (l : List Ent) : List UInt8 := 116 :: (short l.length ++ entsB l)
theorem no_blob_tree (v : Value) : ∀ xT w, (Instr.typeAssert (.iface 69 v) xT 65 true).run Tryz.prog w = .ok (.tuple #[.agg #[.slice none 0 0], .bool false]) w := no_blob 69 (by decide) v

theorem check_tree (a : Option Addr) (n c : Nat) (l : List Ent) (w : World) (h : Ents w a n l) (hs : Short l) (hn : n ≤ 9223372036854775807) : Calls Tryz.prog 69 #[trV a n c] w fun e w' => e = .returned (.int .i64 (treeErrs l)) ∧ Below w.heap.size w w' := by
  have h1 := no_blob_tree (.agg #[.slice a n c])
  have h2 := as_tree (.agg #[.slice a n c])
  have hB0 : Below w.heap.size w (w.alloc (.cells #[.slice a n c] 69)) := (Below.refl _ w).alloc (Nat.le_refl _) _
  have hc := checkTree_any a n c l _ (h.below hB0) hs hn
  go_enter Tryz.func69, Tryz.ntmps69
  go_wp2_with (go_at_call 97; refine hc.mono ?_; rintro e w1 ⟨rfl, hB⟩)
  go_ret
  exact ⟨rfl, hB0.trans (hB.mono (by simp))⟩
set_option maxRecDepth 20000 in
set_option maxHeartbeats 1000000 in
theorem encode_tree (a : Option Addr) (n c : Nat) (l : List Ent) (w : World) (h : Ents w a n l) (hF : Fits l) (hn : n ≤ 256) :
    Calls Tryz.prog 70 #[trV a n c] w fun e w' => ∃ ad m cp, e = .returned (.slice ad m cp) ∧ (treeB l).length = m ∧ OwnB w.heap.size (treeB l) (.slice ad m cp) w' ∧ Below w.heap.size w w' := by
  have hmf : ∀ (fn : Fn) (first cap : Array Value) (w : World), (Instr.makeFunc fn first cap).run Tryz.prog w = .ok (.func fn first cap) w := fun _ _ _ _ => rfl
  have h1 := no_blob_tree (.agg #[.slice a n c])
  have h2 := as_tree (.agg #[.slice a n c])
  have HO := ((out_new w).alloc (.cells #[.slice a n c] 69)).alloc (.cells #[.int .u8 116] 5)
  have hO2 : Boxed ((w.alloc (.cells #[.slice none 0 0] 36)).alloc (.cells #[.slice a n c] 69)) (w.heap.size + 1) 69 (.slice a n c) := by
    have := Boxed.new (w.alloc (.cells #[.slice none 0 0] 36)) 69 (.slice a n c)
    rw [World.size_alloc] at this
    exact this
  have hby := bytes_new ((w.alloc (.cells #[.slice none 0 0] 36)).alloc (.cells #[.slice a n c] 69)) [116] _ rfl
  have hp := put_any2 w w.heap.size [] (some ⟨w.heap.size + 1 + 1, 0, none⟩) 1 1 [116] _ HO (by rw [World.size_alloc, World.size_alloc] at hby; exact hby) (fun h => by cases h) (by simp)
  clear HO
  have hK := hO2.alloc (.cells #[.int .u8 116] 5)
  have hll := h.1
  clear hO2 hby
  go_enter Tryz.func70, Tryz.ntmps70
  go_wp2_with first
    | (go_at_call 99; refine hp.mono ?_; rintro e w1 ⟨rfl, hO1, hk1⟩; have hbx : Boxed w1 (w.heap.size + 1) 69 (.slice a n c) := hk1 _ _ _ hK (by decide) (by omega); have cb := hbx.cell; have HO1 : Hid (OOut w w.heap.size ([] ++ [116]) w1) := hO1; clear hp hO1 hk1 hbx)
    | (go_at_call 100; refine (putTree_any w w.heap.size ([] ++ [116]) a n c l _ HO1.out h hF hn (by simp)).mono ?_; rintro e w2 ⟨rfl, hO2, _⟩; obtain ⟨v, hv, ho⟩ := hO2.box; have cv := hv.cell; have HO2 : Hid (OwnB w.heap.size (treeB l) v w2 ∧ Below w.heap.size w w2) := ⟨⟨by have e : treeB l = [] ++ [116] ++ (short n ++ entsB l) := (by unfold treeB; rw [hll]; rfl); rw [e]; exact ho⟩, hO2.bel⟩; obtain ⟨ad, cp, hvv, _⟩ := HO2.out.1.shape rfl; subst hvv; clear hO2 HO1 ho hv)
  go_ret
  exact ⟨ad, _, cp, rfl, rfl, HO2.out.1, HO2.out.2⟩

/-- entries of a tree that may be -/
theorem treeErr_ok : ∀ (l : List Ent) (p : ByteArray), treeErr p l = 0 → ∀ (j : Nat) x, l[j]? = some x → (spot (bs x.1)).1 = 0
  | [], _, _, j, x, h => by simp at h
  | y :: r, p, h0, j, x, h => by
    unfold treeErr at h0
    split at h0
    · rename_i h1; omega
    · rename_i h1
      have h1' : (spot (bs y.1)).1 = 0 := by simpa using h1
      split at h0
      · omega
      · split at h0
        · omega
        · cases j with
          | zero => simp at h; rw [← h]; exact h1'
          | succ j => exact treeErr_ok r _ h0 j x (by simpa using h)
end Go.Proofs.YthalpnpnbclipaaGreat

/- What the layer answers of a tree: encode, id, sameness, links. -/
namespace Go.Proofs.YthalpnpnbclipaaGreat
open Go.RowKit

theorem spot_short (nm : ByteArray) (h : (spot (bs nm)).1 = 0) : nm.size ≤ 32 := by
  have hl : (bs nm).length = nm.size := bs_len nm
  unfold spot at h
  split at h
  · cases h
  · split at h
    · cases h
    · omega
/-- the fields of entries that came in -/
structure Fields (l : List Ent) : Prop where
  name : Short l
  id : ∀ (j : Nat) x, l[j]? = some x → 0 ≤ x.2.2 ∧ x.2.2 < 18446744073709551616
theorem fits_of {l : List Ent} (hf : Fields l) (h : treeErrs l = 0) : l.length ≤ 256 ∧ Fits l := by
  unfold treeErrs at h
  split at h
  · omega
  · rename_i h1
    exact ⟨by omega, fun j x hx => spot_short _ (treeErr_ok l _ h j x hx), hf.id⟩
theorem Encode_tree (a : Option Addr) (n c : Nat) (l : List Ent) (w : World) (h : Ents w a n l) (hf : Fields l) (hn : n ≤ 9223372036854775807) (h0 : treeErrs l = 0) :
    Calls Tryz.prog 35 #[trV a n c] w fun e w' => ∃ v, e = .returned (.tuple #[v, .int .i64 0]) ∧ OwnB w.heap.size (treeB l) v w' ∧ Below w.heap.size w w' := by
  have c1 := check_tree a n c l w h hf.name hn
  rw [h0] at c1
  obtain ⟨hl, hF⟩ := fits_of hf h0
  have hll := h.1
  go_enter Tryz.func35, Tryz.ntmps35
  go_wp2_with first
    | (go_at_call 69; refine c1.mono ?_; clear c1; rintro e w1 ⟨rfl, hB1⟩)
    | (go_at_call 70; refine (encode_tree a n c l _ (h.below hB1) hF (by omega)).mono ?_; rintro e w2 ⟨ad, m, cp, rfl, hm, ho, hB2⟩; have HO : Hid (OwnB w1.heap.size (treeB l) (.slice ad m cp) w2) := ho; clear ho hm)
  go_ret2
  exact ⟨_, rfl, ⟨row_lower HO.out.row hB1.size⟩, hB1.trans (hB2.mono hB1.size)⟩
theorem Encode_tree_bad (a : Option Addr) (n c : Nat) (l : List Ent) (w : World) (h : Ents w a n l) (hf : Fields l) (hn : n ≤ 9223372036854775807) (h0 : treeErrs l ≠ 0) :
    Calls Tryz.prog 35 #[trV a n c] w fun e w' => e = .returned (.tuple #[.slice none 0 0, .int .i64 (treeErrs l)]) ∧ Below w.heap.size w w' := by
  have c1 := check_tree a n c l w h hf.name hn
  have h0' : (treeErrs l == 0) = false := beq_eq_false_iff_ne.2 h0
  generalize treeErrs l = E at *
  go_enter Tryz.func35, Tryz.ntmps35
  go_wp2_with (go_at_call 69; refine c1.mono ?_; clear c1; rintro e w1 ⟨rfl, hB1⟩)
  go_ret2
  exact ⟨rfl, hB1⟩
theorem Same_tree_bad (a : Option Addr) (n c : Nat) (l : List Ent) (x : Value) (w : World) (h : Ents w a n l) (hf : Fields l) (hn : n ≤ 9223372036854775807) (h0 : treeErrs l ≠ 0) :
    Calls Tryz.prog 38 #[trV a n c, x] w fun e w' => e = .returned (.bool false) ∧ Below w.heap.size w w' := by
  have c1 := check_tree a n c l w h hf.name hn
  have h0' : (treeErrs l == 0) = false := beq_eq_false_iff_ne.2 h0
  generalize treeErrs l = E at *
  go_enter Tryz.func38, Tryz.ntmps38
  go_wp2_with (go_at_call 69; refine c1.mono ?_; clear c1; rintro e w1 ⟨rfl, hB1⟩)
  go_ret
  exact ⟨rfl, hB1⟩
theorem Same_tree (a : Option Addr) (n c : Nat) (l : List Ent) (w : World) (h : Ents w a n l) (hf : Fields l) (hn : n ≤ 9223372036854775807) (h0 : treeErrs l = 0) :
    Calls Tryz.prog 38 #[trV a n c, trV a n c] w fun e w' => e = .returned (.bool true) ∧ Below w.heap.size w w' := by
  have c1 := fun w h => check_tree a n c l w h hf.name hn
  rw [h0] at c1
  obtain ⟨hl, hF⟩ := fits_of hf h0
  have hll := h.1
  have he := fun w h => encode_tree a n c l w h hF (by omega)
  generalize treeB l = T at *
  go_enter Tryz.func38, Tryz.ntmps38
  go_wp2_with first
    | (go_at_call 69; refine (c1 w h).mono ?_; rintro e w1 ⟨rfl, hB1⟩)
    | (go_at_call 69; refine (c1 _ (h.below hB1)).mono ?_; clear c1; rintro e w2 ⟨rfl, hB2⟩; have hB : Below w.heap.size w w2 := hB1.trans (hB2.mono hB1.size); have hb2 := h.below hB; clear hB1 hB2)
    | (go_at_call 70; refine (he w2 hb2).mono ?_; rintro e w3 ⟨ad, m, cp, rfl, hm, ho, hB3⟩; have hy3 := ho.bytes hm; have hb3 := hb2.below hB3; clear hb2 ho hm)
    | (go_at_call 70; refine (he _ hb3).mono ?_; clear he; rintro e w4 ⟨ad4, m4, cp4, rfl, hm4, ho, hB4⟩; have hy4 := ho.bytes hm4; have hy3' := bytes_below hy3 hB4; clear hb3 hy3 ho hm4)
    | (go_at_call 72; refine (equal_yes _ ad ad4 m m4 cp cp4 T hy3' hy4).mono ?_; rintro e w5 ⟨rfl, h5⟩; subst h5)
  go_ret
  exact ⟨rfl, hB.trans ((hB3.trans (hB4.mono hB3.size)).mono hB.size)⟩
end Go.Proofs.YthalpnpnbclipaaGreat

/- A tree's links, and what it answers in all. -/
namespace Go.Proofs.YthalpnpnbclipaaGreat
open Go.RowKit

attribute [local go_sem] Oper.semAt_some

theorem infoId : (Tryz.prog.info? 24).map (fun i => (i.zero, i.size, i.bytes)) = some (some (.int .u64 0), 1, 8) := by kernel_rfl
theorem infoEntry : (Tryz.prog.info? 127).map (fun i => (i.zero, i.size, i.bytes)) = some (some (.agg #[.string ⟨#[]⟩, .bool false, .int .u64 0]), 3, 32) := by kernel_rfl
def idsOf (l : List Ent) : List Int := l.map fun x => x.2.2
theorem cells_one (W : World) (t : TypeId) (a : Value) : ∀ (j : Nat) u, [a][j]? = some u → (W.alloc (.cells #[a] t)).cell? (Addr.add ⟨W.heap.size, 0, none⟩ j) = some u := by
  intro j u hj
  match j, hj with
  | 0, hj => simp at hj; subst hj; simp [Addr.add]
theorem idsOf_take (l : List Ent) (k : Nat) (x : Ent) (h : l[k]? = some x) : idsOf (l.take (k + 1)) = idsOf (l.take k) ++ [x.2.2] := by
  unfold idsOf
  rw [List.take_add_one, h]
  simp

end Go.Proofs.YthalpnpnbclipaaGreat

/- The document's bytes of a tree. -/
namespace Go.Proofs.YthalpnpnbclipaaGreat
open Go.RowKit

attribute [local go_sem] Oper.semAt_some

/-- bytes put together in a row of the call's own -/
structure RO (w : World) (l : List UInt8) (v : Value) (W : World) : Prop where
  own : OwnB w.heap.size l v W
  bel : Below w.heap.size w W
def Keeps' (W W' : World) : Prop := ∀ (K : Nat) (cs : Array Value) (t : TypeId), W.heap[K]? = some (.cells cs t (0, 0)) → t ≠ 5 → W'.heap[K]? = some (.cells cs t (0, 0))
theorem RO.below {w W W' : World} {l : List UInt8} {v : Value} (h : RO w l v W) (hb : Below W.heap.size W W') : RO w l v W' :=
  ⟨⟨h.own.row.kept (row := none) ⟨hb.os, hb.tape, hb.output, hb.size, fun k hk _ => hb.block k hk⟩ (by cases v.ownBlock <;> simp)⟩, h.bel.trans (hb.mono h.bel.size)⟩
theorem RO.alloc {w W : World} {l : List UInt8} {v : Value} (h : RO w l v W) (o : Obj) : RO w l v (W.alloc o) := h.below ((Below.refl _ _).alloc (Nat.le_refl _) _)
theorem wpList_ro (w W : World) {ops : Array Oper} {rest : List Oper} {o : Oper} {a : Act} {Q : Exit → Act → World → Prop} (hgd : o.guard = none) (s x : Operand)
    (ho : o.op = .call { callee := .builtin .append, args := #[s, x], argTypes := #[36, 36] })
    (v : Value) (l : List UInt8) (hs : a.eval s = v) (h : RO w l v W) (ad : Option Addr) (m c : Nat) (k : List UInt8) (hx : a.eval x = .slice ad m c) (hb : Bytes W ad m k) (hnil : ad = none → m = 0 ∧ c = 0) (hm : l.length + m ≤ 140737488355328)
    (hc : ∀ v' W', RO w (l ++ k) v' W' → Keeps' W W' → wpList Tryz.prog ops Q rest (a.put o.dst v') W') : wpList Tryz.prog ops Q (o :: rest) a W := by
  refine wpList_app W w.heap.size h.bel.size hgd s x ho v l.length _ hs h.own.row ad m c k hx hb hnil hm fun v' W' h2 h3 _ => hc v' W' ⟨⟨?_⟩, h.bel.trans (below_gr h.own.row h.bel.size h3)⟩ fun K cs t hK ht => ?_
  · rw [List.length_append, hb.1, cellsOf_append]
    exact h2
  · refine (h3.block K (Array.getElem?_eq_some_iff.1 hK).1 (fun e => ?_)).trans hK
    obtain ⟨_, _, cur, hcur⟩ := row_block h.own.row K e.symm
    rw [hK] at hcur
    cases hcur
    exact ht rfl
theorem Keeps'.box3 {W W' : World} {g : Nat} {u0 u1 u2 : Value} (h : Keeps' W W') (hb : Box3 W g u0 u1 u2) : Box3 W' g u0 u1 u2 := h g _ _ hb (by decide)

set_option maxRecDepth 100000 in
set_option maxHeartbeats 8000000 in
theorem refTree_any (a : Option Addr) (n c : Nat) (l : List Ent) (w : World) (h : Ents w a n l) (hf : Fields l) (hn : n ≤ 9223372036854775807) :
    Calls Tryz.prog 33 #[.slice a n c] w fun e w' => ∃ v, e = .returned (.tuple #[v, .int .i64 (treeErrs l)]) ∧ OwnB w.heap.size (if treeErrs l = 0 then treeB l else []) v w' ∧ Below w.heap.size w w' := by
  have hck := refCheckTree_any a n c l w h hf.name hn
  have hll := h.1
  by_cases h0 : treeErrs l = 0
  · obtain ⟨hl, hF⟩ := fits_of hf h0
    rw [if_pos h0]
    rw [h0] at hck ⊢
    have hsn := short_len n
    have hru := fun w => refUint_any n w (by omega)
    have hTB : treeB l = [116] ++ short n ++ entsB l := by unfold treeB; rw [hll]; simp
    rw [hTB]
    clear hTB h0
    go_enter Tryz.func33, Tryz.ntmps33
    go_wp2_with first
      | (go_at_call 66; refine hck.mono ?_; clear hck; rintro e w1 ⟨rfl, hB1⟩)
      | (go_at_call 67; refine (hru _).mono ?_; clear hru; rintro e w2 ⟨v2, rfl, ho2, hB2⟩; obtain ⟨ua, uc, hv2, hun⟩ := row_shape ho2; subst hv2; have hy2 := row_bytes ho2; have hB12 : Below w.heap.size w w2 := hB1.trans (hB2.mono hB1.size); have hR2 : RO w [116] (.slice (some ⟨w2.heap.size, 0, none⟩) 1 1) (w2.alloc (.cells #[.int .u8 116] 5)) := ⟨⟨World.ownsRow_lit w2 #[.int .u8 116] 1 hB12.size (by unfold maxLen; omega) rfl⟩, hB12.alloc hB12.size _⟩; have hy3 := bytes_below hy2 ((Below.refl _ w2).alloc (Nat.le_refl _) (.cells #[.int .u8 116] 5)); clear ho2 hy2 hB1 hB2 hB12)
      | (at_builtin; refine wpList_ro w _ rfl _ _ rfl _ [116] rfl hR2 ua _ uc (short n) rfl hy3 hun.2 (by simp only [List.length_singleton]; omega) ?_; intro v3 w3 hR3 _; have H3 : Hid (RO w ([116] ++ short n ++ entsB (l.take 0)) v3 w3) := (by have e : entsB (l.take 0) = [] := rfl; rw [e, List.append_nil]; exact hR3); clear hR3 hR2 hy3)
    go_loopw [5, 23] (fun v i wr => ∃ k : Nat, k ≤ n ∧ i = .int .i64 (k : Int) ∧ Hid (RO w ([116] ++ short n ++ entsB (l.take k)) v wr)) (fun _ i _ => n - (intOf i).toNat)
    case atStart => exact ⟨0, Nat.zero_le _, rfl, H3.out⟩
    case round =>
      clear H3
      obtain ⟨k, hk, rfl, H⟩ := hrel
      by_cases hlt : k < n
      · obtain ⟨x, hx⟩ : ∃ x, l[k]? = some x := ⟨_, List.getElem?_eq_getElem (by omega)⟩
        obtain ⟨b1, o1, rfl, hc1⟩ := h.2 (by omega)
        obtain ⟨t1, t2, t3⟩ := hc1 k x hx
        have hBw := H.out.bel
        have q1 := (hBw.cell (p := ⟨b1, o1 + k * 3, none⟩) (World.block_lt_of_cell? w _ t1)).trans t1
        have q2 := (hBw.cell (p := ⟨b1, o1 + k * 3 + 1, none⟩) (World.block_lt_of_cell? w _ t2)).trans t2
        have q3 := (hBw.cell (p := ⟨b1, o1 + k * 3 + 2, none⟩) (World.block_lt_of_cell? w _ t3)).trans t3
        have i2 : (k : Int) < (n : Int) := by omega
        have i3 : ¬ n ≤ k := by omega
        have HT := entsB_take l k x hx
        have hln := entsB_len l hF k (by omega)
        have hsz := hF.name k x hx
        have hid := hF.id k x hx
        obtain ⟨nm, fo, id⟩ := x
        simp only at q1 q2 q3 hsz hid HT
        obtain ⟨y, rfl⟩ := Int.eq_ofNat_of_zero_le hid.1
        have HTe : Hid ([116] ++ short n ++ entsB (l.take (k + 1)) = [116] ++ short n ++ entsB (l.take k) ++ (short nm.size ++ nm.data.toList) ++ [if fo then 1 else 0] ++ wide y) := by
          show _ = _
          rw [HT]
          simp [entB]
        generalize hP : [116] ++ short n ++ entsB (l.take k) = P at *
        have hPl : P.length ≤ 16384 := by rw [← hP]; simp only [List.length_append, List.length_singleton]; omega
        have hsm := short_len nm.size
        have hnl : nm.data.toList.length = nm.size := by simp
        have hrt := fun w => refText_any nm w (by omega)
        have bx : Box3 (wr.alloc (.cells #[.string nm, .bool fo, .int .u64 (y : Int)] 127)) wr.heap.size (.string nm) (.bool fo) (.int .u64 (y : Int)) := Box3.new wr _ _ _
        have hR2 := H.out.alloc (.cells #[.string nm, .bool fo, .int .u64 (y : Int)] 127)
        clear hP hc1 hx t1 t2 t3 hBw HT hln H
        cases fo with
        | false =>
          simp only [Bool.false_eq_true, if_false] at HTe
          go_wp2_with first
            | (go_at_call 50; refine (hrt _).mono ?_; clear hrt; rintro e x3 ⟨v3, rfl, ho3, hB3⟩; obtain ⟨ta, tc, hv3, htn⟩ := row_shape ho3; subst hv3; have hy3 := row_bytes ho3; have hR3 := hR2.below hB3; have bx3 := bx.below hB3 bx.lt; clear ho3 hR2 bx hB3)
            | (at_builtin; refine wpList_ro w _ rfl _ _ rfl _ P rfl hR3 ta _ tc (short nm.size ++ nm.data.toList) rfl hy3 htn.2 (by omega) ?_; intro v4 x4 hR4 hK4; have bx4 := hK4.box3 bx3; obtain ⟨c0, c1, c2⟩ := bx4.cell; have hR4' := hR4.alloc (.cells #[.int .u8 0] 5); clear hR3 hy3 hK4 bx3 hR4)
            | (at_builtin; refine wpList_ro w _ rfl _ _ rfl _ _ rfl hR4' (some ⟨_, 0, none⟩) 1 1 [0] rfl (bytes_new _ [0] _ rfl) (fun h => by cases h) (by simp only [List.length_append, hnl]; omega) ?_; intro v5 x5 hR5 hK5; have bx5 := hK5.box3 (bx4.below ((Below.refl _ _).alloc (Nat.le_refl _) _) bx4.lt); obtain ⟨d0, d1, d2⟩ := bx5.cell; clear hR4' hK5 bx4 c0 c1 c2 bx5)
            | (go_at_call 51; refine (refWord_any y _ (by omega)).mono ?_; rintro e x6 ⟨rfl, hy6, hB6⟩; have hR6 := hR5.below hB6; clear hR5 hB6)
            | (at_builtin; refine wpList_ro w _ rfl _ _ rfl _ _ rfl hR6 (some ⟨_, 0, none⟩) 8 8 (wide y) rfl hy6 (fun h => by cases h) (by simp only [List.length_append, hnl, List.length_singleton]; omega) ?_; intro v7 x7 hR7 _; have H7 : Hid (RO w ([116] ++ short n ++ entsB (l.take (k + 1))) v7 x7) := (by rw [HTe.out]; exact hR7); clear hR6 hy6 hR7)
          go_roundw
          case rel => exact ⟨k + 1, by omega, by simp, H7.out⟩
          case measure => simp [intOf]; omega
        | true =>
          simp only [if_true] at HTe
          go_wp2_with first
            | (go_at_call 50; refine (hrt _).mono ?_; clear hrt; rintro e x3 ⟨v3, rfl, ho3, hB3⟩; obtain ⟨ta, tc, hv3, htn⟩ := row_shape ho3; subst hv3; have hy3 := row_bytes ho3; have hR3 := hR2.below hB3; have bx3 := bx.below hB3 bx.lt; clear ho3 hR2 bx hB3)
            | (at_builtin; refine wpList_ro w _ rfl _ _ rfl _ P rfl hR3 ta _ tc (short nm.size ++ nm.data.toList) rfl hy3 htn.2 (by omega) ?_; intro v4 x4 hR4 hK4; have bx4 := hK4.box3 bx3; obtain ⟨c0, c1, c2⟩ := bx4.cell; have hR4' := hR4.alloc (.cells #[.int .u8 1] 5); clear hR3 hy3 hK4 bx3 hR4)
            | (at_builtin; refine wpList_ro w _ rfl _ _ rfl _ _ rfl hR4' (some ⟨_, 0, none⟩) 1 1 [1] rfl (bytes_new _ [1] _ rfl) (fun h => by cases h) (by simp only [List.length_append, hnl]; omega) ?_; intro v5 x5 hR5 hK5; have bx5 := hK5.box3 (bx4.below ((Below.refl _ _).alloc (Nat.le_refl _) _) bx4.lt); obtain ⟨d0, d1, d2⟩ := bx5.cell; clear hR4' hK5 bx4 c0 c1 c2 bx5)
            | (go_at_call 51; refine (refWord_any y _ (by omega)).mono ?_; rintro e x6 ⟨rfl, hy6, hB6⟩; have hR6 := hR5.below hB6; clear hR5 hB6)
            | (at_builtin; refine wpList_ro w _ rfl _ _ rfl _ _ rfl hR6 (some ⟨_, 0, none⟩) 8 8 (wide y) rfl hy6 (fun h => by cases h) (by simp only [List.length_append, hnl, List.length_singleton]; omega) ?_; intro v7 x7 hR7 _; have H7 : Hid (RO w ([116] ++ short n ++ entsB (l.take (k + 1))) v7 x7) := (by rw [HTe.out]; exact hR7); clear hR6 hy6 hR7)
          go_roundw
          case rel => exact ⟨k + 1, by omega, by simp, H7.out⟩
          case measure => simp [intOf]; omega
      · obtain rfl : k = n := by omega
        have i2 : ¬ (k : Int) < (k : Int) := by omega
        go_wp2
        go_ret2
        refine ⟨_, rfl, ?_, H.out.bel⟩
        have := H.out.own
        rw [List.take_of_length_le (by omega)] at this
        exact this
  · rw [if_neg h0]
    have h0' : (treeErrs l == 0) = false := beq_eq_false_iff_ne.2 h0
    generalize treeErrs l = E at *
    go_enter Tryz.func33, Tryz.ntmps33
    go_wp2_with (go_at_call 66; refine hck.mono ?_; clear hck; rintro e w1 ⟨rfl, hB1⟩)
    go_ret2
    exact ⟨_, rfl, ⟨World.ownsRow_nil _ _ _ _⟩, hB1⟩
end Go.Proofs.YthalpnpnbclipaaGreat
