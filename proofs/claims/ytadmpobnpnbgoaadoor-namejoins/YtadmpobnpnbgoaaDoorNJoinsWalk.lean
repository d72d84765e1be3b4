/- The walk of NameJoins. -/
import Derived.Test.YtadmpobnpnbgoaaDoorNRefJoin
import Derived.Test.YtadmpobnpnbgoaaDoorNDir
namespace Go.Proofs.YtadmpobnpnbgoaaDoor
open Go.RowKit Go.Shelf

theorem make_init (a : List UInt8) (h : isP a = true) : makeP (parts a).dropLast = (glue (parts a).dropLast, 0) := by
  have hg := isP_good h
  have ha := (isP_iff a).1 h
  have hgd : Good (parts a).dropLast := hg.sub (fun n hn => (List.dropLast_prefix _).subset hn)
  have hl := glue_pre_len _ _ (List.dropLast_prefix (parts a))
  rw [glue_parts] at hl
  have hll := (List.dropLast_prefix (parts a)).length_le
  unfold makeP
  rw [firstN_of _ hgd, if_neg (by simp), if_neg (by omega)]

set_option maxRecDepth 100000 in
set_option maxHeartbeats 20000000 in
theorem joins_any (a b : ByteArray) (w : World) (ha : a.size ≤ maxLen) (hb : b.size ≤ maxLen) :
    Calls Tryd.prog 5 #[.string a, .string b] w fun e w' => e = .returned (.bool true) ∧ Below w.heap.size w w' := by
  have hwk := fun w => wakes_any w
  have hca := fun w => cut_any a w ha
  have hcb := fun w => cut_any b w hb
  have hA := cutT_size a
  have hB := cutT_size b
  generalize cutT a = A at hca hA
  generalize cutT b = B at hcb hB
  have h1 := fun w => Join_any A B w (by omega) (by omega)
  have h2 := fun w => refJoin_any A B w (by omega) (by omega)
  have hje : rjoinR (bs A) (bs B) = joinR (bs A) (bs B) := rfl
  rw [hje] at h2
  generalize mk (joinR (bs A) (bs B)).1 = M at h1 h2
  generalize (joinR (bs A) (bs B)).2 = me at h1 h2
  have h3 := fun w => Dir_any A w (by omega)
  obtain ⟨e1, he1⟩ : ∃ e1, e1 = (pathSpot (bs A)).1 := ⟨_, rfl⟩
  have h4 := rpath_is A (by omega) e1 he1
  generalize (pathSpot (bs A)).2 = e2 at h4
  have hfd := field0
  have hBc : Below w.heap.size w w := Below.refl _ _
  clear ha hb hje
  cases hpa : isP (bs A) with
  | false =>
    have hd : dirP (bs A) = ([], [], e1) := by unfold dirP; rw [hpa, he1]; rfl
    have j0 : ¬ (e1 : Int) = 0 := by have := isP_err _ hpa; rw [← he1] at this; omega
    simp only [hd, show mk [] = (⟨#[]⟩ : ByteArray) from rfl] at h3
    clear hd hpa he1
    go_enter Tryd.func5, Tryd.ntmps5
    go_wp2_with first
      | (go_at_call 8; refine (hwk _).mono ?_; rintro e wn ⟨rfl, hBn⟩; replace hBc := hBc.trans (hBn.mono hBc.size); clear hBn)
      | (go_at_call 9; refine (hca _).mono ?_; clear hca; rintro e wn ⟨rfl, rfl⟩)
      | (go_at_call 9; refine (hcb _).mono ?_; clear hcb; rintro e wn ⟨rfl, rfl⟩)
      | (go_at_call 19; refine (h1 _).mono ?_; rintro e wn ⟨rfl, hBn⟩; replace hBc := hBc.trans (hBn.mono hBc.size); clear hBn)
      | (go_at_call 20; refine (h2 _).mono ?_; rintro e wn ⟨rfl, hBn⟩; replace hBc := hBc.trans (hBn.mono hBc.size); clear hBn)
      | (go_at_call 21; refine (h3 _).mono ?_; rintro e wn ⟨rfl, hBn⟩; replace hBc := hBc.trans (hBn.mono hBc.size); clear hBn)
      | (go_at_call 13; refine (h4 _).mono ?_; rintro e wn ⟨rfl, hBn⟩; replace hBc := hBc.trans (hBn.mono hBc.size); clear hBn)
    go_ret
    exact ⟨rfl, hBc⟩
  | true =>
    have h0 : e1 = 0 := by rw [he1]; exact (isP_zero _).1 hpa
    subst h0
    by_cases hz : bs A = []
    · have hd : dirP (bs A) = ([], [], 141) := by unfold dirP; rw [hpa, if_pos rfl, if_pos hz]
      have h5 := fun w => parts_own A w (by omega)
      have hk0 : (parts (bs A)).length = 0 := by rw [hz]; rfl
      simp only [hd, hk0, show mk [] = (⟨#[]⟩ : ByteArray) from rfl, show ((141 : Nat) : Int) = 141 from rfl] at h3 h5
      clear hd hpa he1 hz hk0
      go_enter Tryd.func5, Tryd.ntmps5
      go_wp2_with first
        | (go_at_call 8; refine (hwk _).mono ?_; rintro e wn ⟨rfl, hBn⟩; replace hBc := hBc.trans (hBn.mono hBc.size); clear hBn)
        | (go_at_call 9; refine (hca _).mono ?_; clear hca; rintro e wn ⟨rfl, rfl⟩)
        | (go_at_call 9; refine (hcb _).mono ?_; clear hcb; rintro e wn ⟨rfl, rfl⟩)
        | (go_at_call 19; refine (h1 _).mono ?_; rintro e wn ⟨rfl, hBn⟩; replace hBc := hBc.trans (hBn.mono hBc.size); clear hBn)
        | (go_at_call 20; refine (h2 _).mono ?_; rintro e wn ⟨rfl, hBn⟩; replace hBc := hBc.trans (hBn.mono hBc.size); clear hBn)
        | (go_at_call 21; refine (h3 _).mono ?_; rintro e wn ⟨rfl, hBn⟩; replace hBc := hBc.trans (hBn.mono hBc.size); clear hBn)
        | (go_at_call 13; refine (h4 _).mono ?_; rintro e wn ⟨rfl, hBn⟩; replace hBc := hBc.trans (hBn.mono hBc.size); clear hBn)
        | (go_at_call 14; refine (h5 _).mono ?_; rintro e wp ⟨⟨a5, rfl, s5, n5⟩, hBn⟩; replace hBc := hBc.trans (hBn.mono hBc.size); clear hBn)
      go_ret
      exact ⟨rfl, hBc⟩
    · have hd : dirP (bs A) = (glue (parts (bs A)).dropLast, (parts (bs A)).getLastD [], 0) := by unfold dirP; rw [hpa, if_pos rfl, if_neg hz]
      have hn := parts_ne hz
      have hmi := make_init (bs A) hpa
      have hlen : (parts (bs A)).length ≤ 16 := ((isP_iff _).1 hpa).2.2
      have hpos : 0 < (parts (bs A)).length := List.length_pos_iff.2 hn
      have hgd := isP_good hpa
      have h5 := fun w => parts_any A w (by omega)
      simp only [hd, show ((0 : Nat) : Int) = 0 from rfl] at h3
      have HM : Hid (∀ w1 (aa : Option Addr), Strs w1 aa (parts (bs A)).length ((parts (bs A)).map mk) → Calls Tryd.prog 22 #[.slice aa ((parts (bs A)).length - 1) (parts (bs A)).length] w1 fun e w' => e = .returned (.tuple #[.string (mk (glue (parts (bs A)).dropLast)), .int .i64 0]) ∧ Below w1.heap.size w1 w') := fun w1 aa hs => by
        have hs2 : Strs w1 aa ((parts (bs A)).length - 1) ((parts (bs A)).dropLast.map mk) := by
          refine ⟨by simp, fun h0 => ?_⟩
          obtain ⟨b0, off, e, hc⟩ := hs.2 hpos
          exact ⟨b0, off, e, fun j x hx => hc j x (by
            rw [List.getElem?_map] at hx ⊢
            have hj : j < (parts (bs A)).length - 1 := by
              cases hq : (parts (bs A)).dropLast[j]? with
              | none => rw [hq] at hx; cases hx
              | some y => have := (List.getElem?_eq_some_iff.1 hq).1; simpa using this
            rw [List.getElem?_dropLast, if_pos hj] at hx
            exact hx)⟩
        have := refMake_any w1 aa _ (parts (bs A)).length _ hs2 (fun x hx => by
          obtain ⟨y, hy, rfl⟩ := List.mem_map.1 hx
          have := (okName_parts y (hgd y ((List.dropLast_prefix _).subset hy))).2.1
          rw [← bs_len, bs_mk]; unfold maxLen; omega) (by omega) (by omega)
        have hmm : ((parts (bs A)).dropLast.map mk).map bs = (parts (bs A)).dropLast := by
          rw [List.map_map]
          have : ∀ x ∈ (parts (bs A)).dropLast, (bs ∘ mk) x = x := fun x _ => bs_mk x
          rw [List.map_congr_left this, List.map_id']
        rw [hmm, hmi] at this
        exact this
      have HL : Hid (∀ w1 (aa : Option Addr), Strs w1 aa (parts (bs A)).length ((parts (bs A)).map mk) → ∃ b0 off, aa = some ⟨b0, off, none⟩ ∧ w1.cell? ⟨b0, off + ((parts (bs A)).length - 1), none⟩ = some (.string (mk ((parts (bs A)).getLastD [])))) := fun w1 aa hs => by
        obtain ⟨b0, off, e, hc⟩ := hs.2 hpos
        refine ⟨b0, off, e, hc _ _ ?_⟩
        rw [List.getElem?_map, ← List.getLast?_eq_getElem?, List.getLast?_eq_some_getLast hn, List.getLastD_eq_getLast?, List.getLast?_eq_some_getLast hn]; rfl
      obtain ⟨D1, hD1⟩ : ∃ D1, D1 = mk (glue (parts (bs A)).dropLast) := ⟨_, rfl⟩
      obtain ⟨D2, hD2⟩ : ∃ D2, D2 = mk ((parts (bs A)).getLastD []) := ⟨_, rfl⟩
      obtain ⟨K, hK⟩ : ∃ K, K + 1 = (parts (bs A)).length := ⟨(parts (bs A)).length - 1, by omega⟩
      rw [← hD1] at h3 HM
      rw [← hD2] at h3 HL
      rw [← hK] at h5 HM HL hlen
      simp only [Nat.add_sub_cancel] at HM HL
      generalize (parts (bs A)).map mk = AM at h5 HM HL
      have i1 : ¬ ((K : Int) + 1) = 0 := by omega
      have i2 : (K : Int) ≤ (K : Int) + 1 := by omega
      have i3 : (K : Int) < (K : Int) + 1 := by omega
      have i4 : ¬ K + 1 ≤ K := by omega
      clear hd hpa he1 hz hn hmi hpos hgd hD1 hD2 hK
      go_enter Tryd.func5, Tryd.ntmps5
      go_wp2_with first
        | (go_at_call 8; refine (hwk _).mono ?_; rintro e wn ⟨rfl, hBn⟩; replace hBc := hBc.trans (hBn.mono hBc.size); clear hBn)
        | (go_at_call 9; refine (hca _).mono ?_; clear hca; rintro e wn ⟨rfl, rfl⟩)
        | (go_at_call 9; refine (hcb _).mono ?_; clear hcb; rintro e wn ⟨rfl, rfl⟩)
        | (go_at_call 19; refine (h1 _).mono ?_; rintro e wn ⟨rfl, hBn⟩; replace hBc := hBc.trans (hBn.mono hBc.size); clear hBn)
        | (go_at_call 20; refine (h2 _).mono ?_; rintro e wn ⟨rfl, hBn⟩; replace hBc := hBc.trans (hBn.mono hBc.size); clear hBn)
        | (go_at_call 21; refine (h3 _).mono ?_; rintro e wn ⟨rfl, hBn⟩; replace hBc := hBc.trans (hBn.mono hBc.size); clear hBn)
        | (go_at_call 13; refine (h4 _).mono ?_; rintro e wn ⟨rfl, hBn⟩; replace hBc := hBc.trans (hBn.mono hBc.size); clear hBn)
        | (go_at_call 14; refine (h5 _).mono ?_; rintro e wp ⟨⟨a5, rfl, s5, n5⟩, hBn⟩; replace hBc := hBc.trans (hBn.mono hBc.size); clear hBn; have h6 := HM.out wp a5 s5; obtain ⟨b0, off, rfl, hcl⟩ := HL.out wp a5 s5; have HC := Hid.mkJ (show wp.cell? _ = _ from hcl))
        | (go_at_call 22; refine h6.mono ?_; clear h6; rintro e wq ⟨rfl, hBn⟩; replace hBc := hBc.trans (hBn.mono hBc.size); have hcq := (hBn.cell (World.block_lt_of_cell? wp _ HC.out)).trans HC.out; clear hBn)
      go_ret
      exact ⟨rfl, hBc⟩
where
  Hid.mkJ {p : Prop} (h : p) : Hid p := h
end Go.Proofs.YtadmpobnpnbgoaaDoor
