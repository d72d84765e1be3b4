import Derived.Test.YtdchmmdndgbllaaDoorU39
import Derived.Test.YtdchmmdndgbllaaDoorU40
import Derived.Test.YtdchmmdndgbllaaDoorU19
import Derived.Deep.LoopGhost
import Derived.BigRegion
/- The walk of the document's Words. -/
namespace Go.Proofs.YtdchmmdndgbllaaDoor
open Go.RowKit

/-- words that a call puts together -/
structure WO (w : World) (v : Value) (acc : List (List UInt8)) (W : World) : Prop where
  row : W.ownsRow w.heap.size 9 1 v acc.length (wcells acc)
  bel : Below w.heap.size w W
theorem WO.below {w W W' : World} {v : Value} {acc : List (List UInt8)} (h : WO w v acc W) (hb : Below W.heap.size W W') : WO w v acc W' :=
  ⟨h.row.kept (row := none) ⟨hb.os, hb.tape, hb.output, hb.size, fun k hk _ => hb.block k hk⟩ (by cases v.ownBlock <;> simp), h.bel.trans (hb.mono h.bel.size)⟩
theorem WO.alloc {w W : World} {v : Value} {acc : List (List UInt8)} (h : WO w v acc W) (o : Obj) : WO w v acc (W.alloc o) := h.below ((Below.refl _ _).alloc (Nat.le_refl _) _)
theorem WO.drew {w W : World} {v : Value} {acc : List (List UInt8)} (h : WO w v acc W) : WO w v acc W.drew := ⟨h.row, ⟨h.bel.os, h.bel.tape, h.bel.output, h.bel.size, h.bel.block⟩⟩
theorem WO.grown {w W W' : World} {v v' : Value} {acc : List (List UInt8)} {x : List UInt8} (h : WO w v acc W) (hg : W.grownBy W' v.ownBlock) (hr : W'.ownsRow w.heap.size 9 1 v' (acc.length + 1) (wcells acc ++ [wcell x])) : WO w v' (acc ++ [x]) W' := by
  refine ⟨?_, h.bel.grown hg h.bel.size (fun k hk => by have := (row_block h.row k hk).1; omega)⟩
  rw [List.length_append, show wcells (acc ++ [x]) = wcells acc ++ [wcell x] by simp [wcells]]
  exact hr
/-- what the document's Words answers -/
def RWPost (s : ByteArray) (w : World) (e : Ending) (w' : World) : Prop :=
  ((∃ ws v, wordsL (bs s) 0 = .ok ws ∧ e = .returned (.tuple #[v, .int .i64 (-1)]) ∧ w'.ownsRow w.heap.size 9 1 v ws.length (wcells ws) ∧ ws.length ≤ s.size) ∨
   (∃ p : Nat, wordsL (bs s) 0 = .error p ∧ e = .returned (.tuple #[.slice none 0 0, .int .i64 (p : Int)]))) ∧ Below w.heap.size w w'
set_option maxRecDepth 20000 in
set_option maxHeartbeats 8000000 in
theorem rwords_any (s : ByteArray) (w : World) (hs : s.size ≤ 2199023255552) :
    Calls Tryd.prog 30 #[.string s] w (RWPost s w) := by
  have hs' : s.size ≤ 9223372036854775807 := by omega
  have hl := bs_len s
  have HL : Hid ((bs s).length = s.size) := hl
  clear hl
  obtain ⟨i0, hi0, hz0, hz1, hz2⟩ := info_parts infoString
  go_enter Tryd.func30, Tryd.ntmps30
  go_wp2
  go_loopg [4, 5] s.size (fun g v i wr => ∃ (p : Nat) (acc : List (List UInt8)), p + g = s.size ∧ acc.length ≤ p ∧ i = .int .i64 (p : Int) ∧ Hid (WO w v acc wr ∧ W0 (bs s) acc p))
  case atStart => exact ⟨0, [], by omega, by simp, rfl, ⟨World.ownsRow_nil _ _ _ _, Below.refl _ _⟩, ⟨by omega, (addW_nil _).symm⟩⟩
  case round =>
    obtain ⟨p, acc, hpg, hac, rfl, H⟩ := hrel
    by_cases hz : p = s.size
    · have HX : Hid (wordsL (bs s) 0 = .ok acc) := H.out.2.stop (.inl (by rw [HL.out]; exact hz))
      have i1 : ¬ (p : Int) < (s.size : Int) := by omega
      have HW : Hid (WO w u4 acc wr) := H.out.1
      clear H
      go_wp2
      go_ret2
      exact ⟨.inl ⟨acc, u4, HX.out, rfl, HW.out.row, by omega⟩, HW.out.bel⟩
    · have hlt : p < s.size := by omega
      have ilt : (p : Int) < s.size := by omega
      obtain ⟨c, hc⟩ : ∃ c, s[p]'hlt = c := ⟨_, rfl⟩
      have HC : Hid ((bs s).getD p 0 = c) := by show _ = _; rw [← at_bs s p hlt, hc]
      by_cases h35 : c = 35
      · have HX : Hid (wordsL (bs s) 0 = .ok acc) := H.out.2.stop (.inr ⟨by rw [HL.out]; exact hlt, by rw [HC.out, h35]⟩)
        have HW : Hid (WO w u4 acc wr) := H.out.1
        subst h35
        clear H
        go_wp2
        go_ret2
        exact ⟨.inl ⟨acc, u4, HX.out, rfl, HW.out.row, by omega⟩, HW.out.bel⟩
      · have b35 : ((c.toNat : Int) == 35) = false := beq_eq_false_iff_ne.2 (fun e => h35 (UInt8.toNat_inj.1 (by show _ = 35; omega)))
        by_cases h32 : c = 32
        · have HX : Hid (WO w u4 acc wr ∧ W0 (bs s) acc (p + 1)) := ⟨H.out.1, H.out.2.blank (by rw [HL.out]; exact hlt) (by rw [HC.out, h32])⟩
          subst h32
          clear H b35 h35
          go_wp2
          go_roundg (s.size - (p + 1))
          case measure => omega
          case rel => exact ⟨p + 1, acc, by omega, by omega, by go_num, HX.out⟩
        · have b32 : ((c.toNat : Int) == 32) = false := beq_eq_false_iff_ne.2 (fun e => h32 (UInt8.toNat_inj.1 (by show _ = 32; omega)))
          by_cases h34 : c = 34
          · have HW1 : Hid (W1 (bs s) acc p p) := H.out.2.quote (by rw [HL.out]; exact hlt) (by rw [HC.out, h34])
            have HW : Hid (WO w u4 acc wr) := H.out.1
            subst h34
            clear H b35 b32 h35 h32
            go_wp2_with fail
            obtain ⟨wo, hwo⟩ : ∃ wo : World, wo = wr := ⟨_, rfl⟩
            subst hwo
            go_loopg [6, 7] (s.size + 2 - (p + 1)) (fun g i cl wr => ∃ (t : Nat) (b : Bool), t + g = s.size + 2 ∧ p < t ∧ t ≤ s.size + 1 ∧ i = .int .i64 (t : Int) ∧ cl = .bool b ∧ Hid (wr = wo ∧ ((b = false ∧ W1 (bs s) acc p (t - 1)) ∨ (b = true ∧ t ≤ s.size ∧ W3 (bs s) acc ((unq (((bs s).drop p).take (t - p))).getD []) (unq (((bs s).drop p).take (t - p))).isSome p t))))
            case atStart => exact ⟨p + 1, false, by omega, by omega, by omega, by go_num, rfl, rfl, .inl ⟨rfl, by rw [Nat.add_sub_cancel]; exact HW1.out⟩⟩
            case round =>
              clear HW1
              obtain ⟨t, b, htg, hpt, htm, rfl, rfl, HI⟩ := hrel
              have hwr := HI.out.1
              subst hwr
              have ht1 : t - 1 + 1 = t := by omega
              cases b with
              | false =>
                have HW1 : Hid (W1 (bs s) acc p (t - 1)) := by
                  rcases HI.out.2 with ⟨_, h⟩ | ⟨h, _⟩
                  · exact h
                  · cases h
                clear HI
                by_cases htl : t < s.size
                · have i1 : (t : Int) < s.size := by omega
                  obtain ⟨d, hd⟩ : ∃ d, s[t]'htl = d := ⟨_, rfl⟩
                  have HD : Hid ((bs s).getD (t - 1 + 1) 0 = d) := by show _ = _; rw [ht1, ← at_bs s t htl, hd]
                  have Hlt : Hid (t - 1 + 1 < (bs s).length) := by show _ < _; rw [ht1, HL.out]; exact htl
                  by_cases d92 : d = 92
                  · have HN : Hid (W1 (bs s) acc p (t + 2 - 1)) := by
                      have h := HW1.out.esc Hlt.out (by rw [HD.out, d92])
                      rw [show t - 1 + 2 = t + 2 - 1 by omega] at h
                      exact h
                    subst d92
                    clear HW1 HD Hlt
                    go_wp2
                    go_roundg (s.size + 2 - (t + 2))
                    case measure => omega
                    case rel => exact ⟨t + 2, false, by omega, by omega, by omega, by go_num, rfl, rfl, .inl ⟨rfl, HN.out⟩⟩
                  · have e92 : ((d.toNat : Int) == 92) = false := beq_eq_false_iff_ne.2 (fun e => d92 (UInt8.toNat_inj.1 (by show _ = 92; omega)))
                    by_cases d34 : d = 34
                    · have HN : Hid (W3 (bs s) acc ((unq (((bs s).drop p).take (t + 1 - p))).getD []) (unq (((bs s).drop p).take (t + 1 - p))).isSome p (t + 1)) := by
                        have h := HW1.out.close Hlt.out (by rw [HD.out, d34])
                        rw [show t - 1 + 2 = t + 1 by omega] at h
                        exact h
                      subst d34
                      clear HW1 HD Hlt e92 d92
                      go_wp2
                      go_roundg (s.size + 2 - (t + 1))
                      case measure => omega
                      case rel => exact ⟨t + 1, true, by omega, by omega, by omega, by go_num, rfl, rfl, .inr ⟨rfl, by omega, HN.out⟩⟩
                    · have e34 : ((d.toNat : Int) == 34) = false := beq_eq_false_iff_ne.2 (fun e => d34 (UInt8.toNat_inj.1 (by show _ = 34; omega)))
                      have HN : Hid (W1 (bs s) acc p (t + 1 - 1)) := by
                        have h := HW1.out.go Hlt.out (by rw [HD.out]; exact d92) (by rw [HD.out]; exact d34)
                        rw [show t - 1 + 1 = t + 1 - 1 by omega] at h
                        exact h
                      clear HW1 HD Hlt d92 d34
                      go_wp2
                      go_roundg (s.size + 2 - (t + 1))
                      case measure => omega
                      case rel => exact ⟨t + 1, false, by omega, by omega, by omega, by go_num, rfl, rfl, .inl ⟨rfl, HN.out⟩⟩
                · have HX : Hid (wordsL (bs s) 0 = .error p) := HW1.out.over (by rw [HL.out]; omega)
                  have i1 : ¬ (t : Int) < s.size := by omega
                  clear HW1
                  go_wp2
                  go_ret2
                  exact ⟨.inr ⟨p, HX.out, rfl⟩, HW.out.bel⟩
              | true =>
                have HW3 : Hid (t ≤ s.size ∧ W3 (bs s) acc ((unq (((bs s).drop p).take (t - p))).getD []) (unq (((bs s).drop p).take (t - p))).isSome p t) := by
                  rcases HI.out.2 with ⟨h, _⟩ | ⟨_, h⟩
                  · cases h
                  · exact h
                clear HI
                have htle := HW3.out.1
                have exs : (s.extract p t).size ≤ s.size := by simp; omega
                have eb : bs (s.extract p t) = ((bs s).drop p).take (t - p) := by rw [bs_extract, List.drop_take]
                have hun := fun X => runquote_of (s.extract p t) X (by omega) (fun t W ht => rquote_any t W ht)
                rw [runqO_eq, eb] at hun
                clear eb exs
                generalize unq (((bs s).drop p).take (t - p)) = o at *
                have hun2 := hun wr
                clear hun
                have i2 : (p : Int) ≤ (t : Int) := by omega
                have i3 : (t : Int) ≤ (s.size : Int) := by omega
                have i4 : (0 : Int) ≤ (p : Int) := by omega
                by_cases hts : t = s.size
                · have HEn : Hid (endsL ((bs s).drop t) = true) := by
                    show _ = _
                    unfold endsL
                    rw [List.drop_eq_nil_of_le (by rw [HL.out]; omega)]; rfl
                  have i1 : ¬ (t : Int) < s.size := by omega
                  have Hts : Hid (t = s.size) := hts
                  clear hts
                  cases o with
                  | none =>
                    have HX : Hid (wordsL (bs s) 0 = .error p) := HW3.out.2.wrong (.inl rfl)
                    simp only [Option.getD_none, Option.isSome_none] at hun2
                    clear HW3 HEn
                    go_wp2_with fail
                    refine hun2.mono ?_
                    clear hun2
                    rintro e w3 ⟨rfl, hB3⟩
                    have HB3 : Hid (Below w.heap.size w w3) := HW.out.bel.trans (hB3.mono HW.out.bel.size)
                    clear hB3
                    go_wp2
                    go_ret2
                    exact ⟨.inr ⟨p, HX.out, rfl⟩, HB3.out⟩
                  | some x =>
                    have HX : Hid (W0 (bs s) (acc ++ [x]) t) := HW3.out.2.next rfl HEn.out
                    simp only [Option.getD_some, Option.isSome_some] at hun2
                    clear HW3 HEn
                    go_wp2_with fail
                    refine hun2.mono ?_
                    clear hun2
                    rintro e w3 ⟨rfl, hB3⟩
                    have HW4 : Hid (WO w u4 acc w3) := HW.out.below hB3
                    have hsz := HW4.out.bel.size
                    clear hB3
                    go_wp2_with (at_builtin; refine wpList_append_own _ rfl _ _ 43 rfl w.heap.size 9 i0 (.string ⟨#[]⟩) 1 16 Tryd.underlying43 hi0 hz0 hz1 hz2 rfl (by decide) u4 acc.length _ rfl (HW4.out.alloc _).row ⟨_, 0, none⟩ 1 1 [.string (mk x)] rfl rfl (cell_one_new _ _ _) (by simp [Value.oneCell']) (by unfold maxLen; omega) (by omega) (by simp; omega) ?_; intro v' w4 hown4 hgr4 _)
                    have HF : Hid (WO w v' (acc ++ [x]) w4) := (HW4.out.alloc _).grown hgr4 hown4
                    clear hown4 hgr4 HW4 HW
                    go_wp2
                    go_roundg (s.size - t)
                    case measure => omega
                    case rel => exact ⟨t, acc ++ [x], by omega, by rw [List.length_append]; simp; omega, rfl, HF.out, HX.out⟩
                · have htl : t < s.size := by omega
                  have i1 : (t : Int) < s.size := by omega
                  obtain ⟨d, hd⟩ : ∃ d, s[t]'htl = d := ⟨_, rfl⟩
                  have HE : Hid (endsL ((bs s).drop t) = decide (d = 32)) := by
                    show _ = _
                    unfold endsL
                    rw [getD_drop, Nat.add_zero, ← at_bs s t htl, hd, decide_eq_false (drop_ne _ _ (by rw [HL.out]; exact htl)), Bool.false_or]
                  by_cases d32 : d = 32
                  · have HEn : Hid (endsL ((bs s).drop t) = true) := by rw [HE.out]; exact decide_eq_true d32
                    subst d32
                    clear HE
                    cases o with
                    | none =>
                      have HX : Hid (wordsL (bs s) 0 = .error p) := HW3.out.2.wrong (.inl rfl)
                      simp only [Option.getD_none, Option.isSome_none] at hun2
                      clear HW3 HEn
                      go_wp2_with fail
                      refine hun2.mono ?_
                      clear hun2
                      rintro e w3 ⟨rfl, hB3⟩
                      have HB3 : Hid (Below w.heap.size w w3) := HW.out.bel.trans (hB3.mono HW.out.bel.size)
                      clear hB3
                      go_wp2
                      go_ret2
                      exact ⟨.inr ⟨p, HX.out, rfl⟩, HB3.out⟩
                    | some x =>
                      have HX : Hid (W0 (bs s) (acc ++ [x]) t) := HW3.out.2.next rfl HEn.out
                      simp only [Option.getD_some, Option.isSome_some] at hun2
                      clear HW3 HEn
                      go_wp2_with fail
                      refine hun2.mono ?_
                      clear hun2
                      rintro e w3 ⟨rfl, hB3⟩
                      have HW4 : Hid (WO w u4 acc w3) := HW.out.below hB3
                      have hsz := HW4.out.bel.size
                      clear hB3
                      go_wp2_with (at_builtin; refine wpList_append_own _ rfl _ _ 43 rfl w.heap.size 9 i0 (.string ⟨#[]⟩) 1 16 Tryd.underlying43 hi0 hz0 hz1 hz2 rfl (by decide) u4 acc.length _ rfl (HW4.out.alloc _).row ⟨_, 0, none⟩ 1 1 [.string (mk x)] rfl rfl (cell_one_new _ _ _) (by simp [Value.oneCell']) (by unfold maxLen; omega) (by omega) (by simp; omega) ?_; intro v' w4 hown4 hgr4 _)
                      have HF : Hid (WO w v' (acc ++ [x]) w4) := (HW4.out.alloc _).grown hgr4 hown4
                      clear hown4 hgr4 HW4 HW
                      go_wp2
                      go_roundg (s.size - t)
                      case measure => omega
                      case rel => exact ⟨t, acc ++ [x], by omega, by rw [List.length_append]; simp; omega, rfl, HF.out, HX.out⟩
                  · have HX : Hid (wordsL (bs s) 0 = .error p) := HW3.out.2.wrong (.inr (by rw [HE.out]; exact decide_eq_false d32))
                    have e32 : ((d.toNat : Int) == 32) = false := beq_eq_false_iff_ne.2 (fun e => d32 (UInt8.toNat_inj.1 (by show _ = 32; omega)))
                    clear HE HW3 hun2 d32
                    go_wp2
                    go_ret2
                    exact ⟨.inr ⟨p, HX.out, rfl⟩, HW.out.bel⟩
          · have b34 : ((c.toNat : Int) == 34) = false := beq_eq_false_iff_ne.2 (fun e => h34 (UInt8.toNat_inj.1 (by show _ = 34; omega)))
            have HW2 : Hid (W2 (bs s) acc p p) := H.out.2.plain (by rw [HL.out]; exact hlt) (by rw [HC.out]; exact h35) (by rw [HC.out]; exact h32) (by rw [HC.out]; exact h34)
            have HW : Hid (WO w u4 acc wr) := H.out.1
            clear H
            go_wp2_with fail
            obtain ⟨wo, hwo⟩ : ∃ wo : World, wo = wr := ⟨_, rfl⟩
            subst hwo
            go_loopg [6] (s.size - (p + 1)) (fun g i wr => ∃ t : Nat, t + g = s.size ∧ p < t ∧ i = .int .i64 (t : Int) ∧ Hid (wr = wo ∧ W2 (bs s) acc p (t - 1)))
            case atStart => exact ⟨p + 1, by omega, by omega, by go_num, rfl, by rw [Nat.add_sub_cancel]; exact HW2.out⟩
            case round =>
              clear HW2
              obtain ⟨t, htg, hpt, rfl, HI⟩ := hrel
              have hwr := HI.out.1
              subst hwr
              have HW2 : Hid (W2 (bs s) acc p (t - 1)) := HI.out.2
              clear HI
              have ht1 : t - 1 + 1 = t := by omega
              by_cases hgo : ∃ h : t < s.size, s[t]'h ≠ 32
              · obtain ⟨htl, hne⟩ := hgo
                have i1 : (t : Int) < s.size := by omega
                obtain ⟨d, hd⟩ : ∃ d, s[t]'htl = d := ⟨_, rfl⟩
                rw [hd] at hne
                have bd : ((d.toNat : Int) == 32) = false := beq_eq_false_iff_ne.2 (fun e => hne (UInt8.toNat_inj.1 (by show _ = 32; omega)))
                have HN : Hid (W2 (bs s) acc p (t + 1 - 1)) := by
                  have h := HW2.out.go (by rw [ht1, HL.out]; exact htl) (by rw [ht1, ← at_bs s t htl, hd]; exact hne)
                  rw [ht1] at h
                  rw [Nat.add_sub_cancel]
                  exact h
                clear HW2 hne
                go_wp2
                go_roundg (s.size - (t + 1))
                case measure => omega
                case rel => exact ⟨t + 1, by omega, by omega, by go_num, rfl, HN.out⟩
              · have hends : t = s.size ∨ ∃ h : t < s.size, s[t]'h = 32 := by
                  by_cases h : t = s.size
                  · exact .inl h
                  · have h2 : t < s.size := by omega
                    refine .inr ⟨h2, ?_⟩
                    exact Classical.byContradiction fun e => hgo ⟨h2, e⟩
                have HW3 : Hid (W3 (bs s) acc (((bs s).drop p).take (t - p)) (plainL (((bs s).drop p).take (t - p))) p t) := by
                  have h := HW2.out.ends (by
                    rw [ht1, HL.out]
                    rcases hends with h | ⟨h, h2⟩
                    · exact .inl h
                    · exact .inr ⟨h, by rw [← at_bs s t h, h2]⟩)
                  rw [ht1] at h
                  exact h
                have HEn : Hid (endsL ((bs s).drop t) = true) := by
                  show _ = _
                  unfold endsL
                  rcases hends with h | ⟨h, h2⟩
                  · rw [List.drop_eq_nil_of_le (by rw [HL.out]; omega)]; rfl
                  · rw [getD_drop, Nat.add_zero, ← at_bs s t h, h2]; simp
                have htle : t ≤ s.size := by omega
                have ex : (s.extract p t).size ≤ maxLen := by unfold maxLen; simp; omega
                have eb : bs (s.extract p t) = ((bs s).drop p).take (t - p) := by rw [bs_extract, List.drop_take]
                have hpl := fun X => rplain_any (s.extract p t) X ex
                rw [eb] at hpl
                have Heb : Hid (mk (((bs s).drop p).take (t - p)) = s.extract p t) := by show _ = _; rw [← eb, mk_bs]
                clear HW2 hgo eb ex
                generalize ((bs s).drop p).take (t - p) = wd at *
                have i2 : (p : Int) ≤ (t : Int) := by omega
                have i3 : (t : Int) ≤ (s.size : Int) := by omega
                have i4 : (0 : Int) ≤ (p : Int) := by omega
                cases hpw : plainL wd with
                | false =>
                  have HX : Hid (wordsL (bs s) 0 = .error p) := HW3.out.wrong (.inl hpw)
                  rw [hpw] at hpl
                  have hpl2 := hpl wr
                  clear hpl HW3 HEn
                  rcases hends with h | ⟨h, h2⟩
                  · have i1 : ¬ (t : Int) < s.size := by omega
                    have Hts : Hid (t = s.size) := h
                    clear h
                    go_wp2_with fail
                    refine hpl2.mono ?_
                    clear hpl2
                    rintro e w3 ⟨rfl, hB3⟩
                    have HB3 : Hid (Below w.heap.size w w3) := HW.out.bel.trans (hB3.mono HW.out.bel.size)
                    clear hB3
                    go_wp2
                    go_ret2
                    exact ⟨.inr ⟨p, HX.out, rfl⟩, HB3.out⟩
                  · have i1 : (t : Int) < s.size := by omega
                    go_wp2_with fail
                    refine hpl2.mono ?_
                    clear hpl2
                    rintro e w3 ⟨rfl, hB3⟩
                    have HB3 : Hid (Below w.heap.size w w3) := HW.out.bel.trans (hB3.mono HW.out.bel.size)
                    clear hB3
                    go_wp2
                    go_ret2
                    exact ⟨.inr ⟨p, HX.out, rfl⟩, HB3.out⟩
                | true =>
                  have HX : Hid (W0 (bs s) (acc ++ [wd]) t) := HW3.out.next hpw HEn.out
                  rw [hpw] at hpl
                  have hpl2 := hpl wr
                  clear hpl HW3 HEn
                  rcases hends with h | ⟨h, h2⟩
                  · have i1 : ¬ (t : Int) < s.size := by omega
                    have Hts : Hid (t = s.size) := h
                    clear h
                    go_wp2_with fail
                    refine hpl2.mono ?_
                    clear hpl2
                    rintro e w3 ⟨rfl, hB3⟩
                    have HW4 : Hid (WO w u4 acc w3) := HW.out.below hB3
                    have hsz := HW4.out.bel.size
                    clear hB3
                    go_wp2_with (at_builtin; refine wpList_append_own _ rfl _ _ 43 rfl w.heap.size 9 i0 (.string ⟨#[]⟩) 1 16 Tryd.underlying43 hi0 hz0 hz1 hz2 rfl (by decide) u4 acc.length _ rfl (HW4.out.alloc _).row ⟨_, 0, none⟩ 1 1 [.string (s.extract p t)] rfl rfl (cell_one_new _ _ _) (by simp [Value.oneCell']) (by unfold maxLen; omega) (by omega) (by simp; omega) ?_; intro v' w4 hown4 hgr4 _)
                    have HF : Hid (WO w v' (acc ++ [wd]) w4) := (HW4.out.alloc _).grown hgr4 (by show w4.ownsRow _ _ _ _ _ (wcells acc ++ [Value.string (mk wd)]); rw [Heb.out]; exact hown4)
                    clear hown4 hgr4 HW4 HW
                    go_wp2
                    go_roundg (s.size - t)
                    case measure => omega
                    case rel => exact ⟨t, acc ++ [wd], by omega, by rw [List.length_append]; simp; omega, rfl, HF.out, HX.out⟩
                  · have i1 : (t : Int) < s.size := by omega
                    go_wp2_with fail
                    refine hpl2.mono ?_
                    clear hpl2
                    rintro e w3 ⟨rfl, hB3⟩
                    have HW4 : Hid (WO w u4 acc w3) := HW.out.below hB3
                    have hsz := HW4.out.bel.size
                    clear hB3
                    go_wp2_with (at_builtin; refine wpList_append_own _ rfl _ _ 43 rfl w.heap.size 9 i0 (.string ⟨#[]⟩) 1 16 Tryd.underlying43 hi0 hz0 hz1 hz2 rfl (by decide) u4 acc.length _ rfl (HW4.out.alloc _).row ⟨_, 0, none⟩ 1 1 [.string (s.extract p t)] rfl rfl (cell_one_new _ _ _) (by simp [Value.oneCell']) (by unfold maxLen; omega) (by omega) (by simp; omega) ?_; intro v' w4 hown4 hgr4 _)
                    have HF : Hid (WO w v' (acc ++ [wd]) w4) := (HW4.out.alloc _).grown hgr4 (by show w4.ownsRow _ _ _ _ _ (wcells acc ++ [Value.string (mk wd)]); rw [Heb.out]; exact hown4)
                    clear hown4 hgr4 HW4 HW
                    go_wp2
                    go_roundg (s.size - t)
                    case measure => omega
                    case rel => exact ⟨t, acc ++ [wd], by omega, by rw [List.length_append]; simp; omega, rfl, HF.out, HX.out⟩
end Go.Proofs.YtdchmmdndgbllaaDoor
