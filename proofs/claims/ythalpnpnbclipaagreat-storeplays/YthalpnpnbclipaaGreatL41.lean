import Derived.Test.YthalpnpnbclipaaGreatL40
/- The document's cursor: numbers, words, texts. -/
namespace Go.Proofs.YthalpnpnbclipaaGreat
open Go.RowKit

attribute [local go_sem] Oper.semAt_some

theorem and127 (c : Int) (h0 : 0 ≤ c) (h1 : c ≤ 255) : bits .and .u8 c 127 = c % 128 := by
  have key : ∀ n : Fin 256, bits .and .u8 ((n.val : Nat) : Int) 127 = ((n.val : Nat) : Int) % 128 := by decide +kernel
  obtain ⟨n, rfl⟩ := Int.eq_ofNat_of_zero_le h0
  exact key ⟨n, by omega⟩
/-- what is left to be read of a number -/
def contN : Nat → Int → List UInt8 → Int × List UInt8 × Bool
  | 0, _, s => (0, s, true)
  | k + 1, n, s => match s with
    | [] => (0, [], true)
    | x :: r => if x.toNat < 128 then (n + (x.toNat : Int) % 128 * (if k = 0 then 128 else 1), r, decide (x.toNat = 0) && decide (k = 0)) else contN k (n + (x.toNat : Int) % 128 * (if k = 0 then 128 else 1)) r
def numC (s : List UInt8) (wr : Bool) : Int × List UInt8 × Bool := if wr then (0, s, true) else contN 2 0 s
theorem Cu.bytes1 {W : World} {q bk off cp : Nat} {x : UInt8} {r : List UInt8} {wr : Bool} (h : Cu W q bk off cp (x :: r) wr) : W.cell? ⟨bk, off, none⟩ = some (.int .u8 (x.toNat : Int)) := by
  obtain ⟨b, o, e, hc⟩ := h.by_.2 (by simp)
  cases e
  have := hc 0 (by simp)
  simpa [bt] using this
theorem cell_grown {W W' : World} {q bk off : Nat} {v : Value} (h : W.cell? ⟨bk, off, none⟩ = some v) (hg : W.grownBy W' (some q)) (hn : bk ≠ q) : W'.cell? ⟨bk, off, none⟩ = some v := hg.cell h (by simp; exact fun e => hn e)

set_option maxRecDepth 20000 in
set_option maxHeartbeats 4000000 in
theorem number_c (W : World) (q bk off cp : Nat) (s : List UInt8) (wr : Bool) (h : Cu W q bk off cp s wr) :
    Calls Tryz.prog 88 #[.pointer (some ⟨q, 0, none⟩)] W fun e w' => e = .returned (.int .i64 (numC s wr).1) ∧ (∃ off' cp', Cu w' q bk off' cp' (numC s wr).2.1 (numC s wr).2.2) ∧ W.grownBy w' (some q) := by
  cases wr with
  | true =>
    have hb := take_bad W q bk off cp s true 1 h (.inl rfl)
    have e : numC s true = (0, s, true) := rfl
    rw [e]
    clear e h
    go_enter Tryz.func88, Tryz.ntmps88
    go_wp2_with fail
    go_loopw [3, 4] (fun a b wx => a = .int .i64 0 ∧ b = .int .i64 0 ∧ wx = W) (fun _ b _ => 14 - (intOf b).toNat)
    case atStart => exact ⟨rfl, rfl, rfl⟩
    case round =>
      obtain ⟨rfl, rfl, rfl⟩ := hrel
      go_wp2_with (go_at_call 90; refine hb.mono ?_; clear hb; rintro e w1 ⟨rfl, hC, hG⟩; have c1 := hC.cell.2.1)
      go_ret
      exact ⟨rfl, ⟨off, cp, hC⟩, hG⟩
  | false =>
    obtain ⟨RES, hRES⟩ : ∃ RES, RES = numC s false := ⟨_, rfl⟩
    rw [← hRES]
    have hR : RES = contN 2 0 s := hRES
    have F0 : Hid (Cu W q bk off cp s false ∧ W.grownBy W (some q)) := ⟨h, ⟨rfl, rfl, rfl, Nat.le_refl _, fun _ _ _ => rfl⟩⟩
    have HR : Hid (RES = contN 2 0 s) := hR
    clear hRES hR h
    go_enter Tryz.func88, Tryz.ntmps88
    go_wp2_with fail
    go_loopw [3, 4] (fun a b wx => ∃ (k : Nat) (nn : Int) (t : List UInt8) (o p : Nat), k ≤ 2 ∧ 0 ≤ nn ∧ nn ≤ 127 * (2 - (k : Int)) * 128 ∧ a = .int .i64 nn ∧ b = .int .i64 (14 - 7 * (k : Int)) ∧ Hid (Cu wx q bk o p t false ∧ W.grownBy wx (some q) ∧ RES = contN k nn t)) (fun _ b _ => 14 - (intOf b).toNat)
    case atStart => exact ⟨2, 0, s, off, cp, by omega, by omega, by omega, rfl, rfl, F0.out.1, F0.out.2, HR.out⟩
    case round =>
      clear F0 HR
      obtain ⟨k, nn, t, o, p, hk, hn0, hn1, rfl, rfl, H⟩ := hrel
      match k, hk with
      | 0, _ =>
        have hC := H.out.1
        obtain ⟨c0, c1, f0, f1⟩ := hC.cell
        have HF : Hid (Cu (wr.setCell ⟨q, 1, none⟩ (.bool true)) q bk o p t true ∧ W.grownBy (wr.setCell ⟨q, 1, none⟩ (.bool true)) (some q)) := ⟨hC.setW true, grownBy_trans H.out.2.1 (grownBy_setCell _ _ _ _)⟩
        have e := H.out.2.2
        clear hC
        go_wp2
        go_ret
        rw [e]
        exact ⟨rfl, ⟨o, p, HF.out.1⟩, HF.out.2⟩
      | 1, _ =>
        cases t with
        | nil =>
          have hb := take_bad wr q bk o p [] false 1 H.out.1 (.inr (by simp))
          have e : RES = (0, [], true) := H.out.2.2
          have HG : Hid (W.grownBy wr (some q)) := H.out.2.1
          subst e
          clear H
          go_wp2_with (go_at_call 90; refine hb.mono ?_; clear hb; rintro e w1 ⟨rfl, hC, hG⟩; have c1 := hC.cell.2.1)
          go_ret
          exact ⟨rfl, ⟨o, p, hC⟩, grownBy_trans HG.out hG⟩
        | cons x r =>
          have hb := take_ok wr q bk o p (x :: r) 1 H.out.1 (by simp)
          have cx := H.out.1.bytes1
          have hne := H.out.1.ne
          have hxl := x.toNat_lt
          have hand : bits .and .u8 (x.toNat : Int) 127 = (x.toNat : Int) % 128 := and127 _ (by omega) (by omega)
          have HE0 : RES = if x.toNat < 128 then (nn + (x.toNat : Int) % 128 * 128, r, decide (x.toNat = 0) && true) else contN 0 (nn + (x.toNat : Int) % 128 * 128) r := by have := H.out.2.2; simpa [contN] using this
          have HE : Hid (RES = if x.toNat < 128 then (nn + (x.toNat : Int) % 128 * 128, r, decide (x.toNat = 0) && true) else contN 0 (nn + (x.toNat : Int) % 128 * 128) r) := HE0
          clear HE0
          have HG : Hid (W.grownBy wr (some q)) := H.out.2.1
          have hxm : (x.toNat : Int) % 128 ≤ 127 := by omega
          have hxn : 0 ≤ (x.toNat : Int) % 128 := by omega
          by_cases h8 : x.toNat < 128
          · have i1 : (x.toNat : Int) < 128 := by omega
            have d1 : decide ((x.toNat : Int) < 128) = true := decide_eq_true i1
            by_cases hx0 : x.toNat = 0
            · have z1 : ((x.toNat : Int) == 0) = true := by simp [hx0]
              clear H
              go_wp2_with (go_at_call 90; refine hb.mono ?_; clear hb; rintro e w1 ⟨rfl, ⟨o', hC⟩, hG⟩; obtain ⟨c0, c1, f0, f1⟩ := hC.cell; have cx1 := cell_grown cx hG hne; have H1 : Hid (Cu w1 q bk o' (p - 1) r false ∧ W.grownBy w1 (some q)) := ⟨hC, grownBy_trans HG.out hG⟩; clear hC hG cx)
              go_ret
              rw [HE.out, if_pos h8]
              refine ⟨?_, ⟨o', p - 1, ?_⟩, grownBy_trans H1.out.2 (grownBy_setCell _ _ _ _)⟩
              · have a0 : bits BinOp.and IntKind.u8 0 127 = 0 := and127 0 (by omega) (by omega)
                simp [hx0, a0]
                unfold wrap64
                omega
              · have := H1.out.1.setW true
                simpa [hx0] using this
            · have z1 : ((x.toNat : Int) == 0) = false := by simp [hx0]
              have z2 : ¬ (x.toNat : Int) = 0 := by omega
              clear H
              go_wp2_with (go_at_call 90; refine hb.mono ?_; clear hb; rintro e w1 ⟨rfl, ⟨o', hC⟩, hG⟩; obtain ⟨c0, c1, f0, f1⟩ := hC.cell; have cx1 := cell_grown cx hG hne; have H1 : Hid (Cu w1 q bk o' (p - 1) r false ∧ W.grownBy w1 (some q)) := ⟨hC, grownBy_trans HG.out hG⟩; clear hC hG cx)
              go_ret
              rw [HE.out, if_pos h8]
              refine ⟨?_, ⟨o', p - 1, ?_⟩, grownBy_trans H1.out.2 (grownBy_setCell _ _ _ _)⟩
              · skip
                simp


              · have := H1.out.1.setW false
                simpa [hx0] using this
          · have i1 : ¬ (x.toNat : Int) < 128 := by omega
            have d1 : decide ((x.toNat : Int) < 128) = false := decide_eq_false i1
            have he := HE.out
            rw [if_neg h8] at he
            have HE2 : Hid (RES = contN 0 (nn + (x.toNat : Int) % 128 * 128) r) := he
            clear he H
            go_wp2_with (go_at_call 90; refine hb.mono ?_; clear hb; rintro e w1 ⟨rfl, ⟨o', hC⟩, hG⟩; obtain ⟨c0, c1, f0, f1⟩ := hC.cell; have cx1 := cell_grown cx hG hne; have H1 : Hid (Cu w1 q bk o' (p - 1) r false ∧ W.grownBy w1 (some q)) := ⟨hC, grownBy_trans HG.out hG⟩; clear hC hG cx)
            go_roundw
            case rel => exact ⟨0, nn + (x.toNat : Int) % 128 * 128, r, o', p - 1, by omega, by omega, by omega, by simp, by simp, H1.out.1, H1.out.2, HE2.out⟩
            case measure => simp [intOf]
      | 2, _ =>
        cases t with
        | nil =>
          have hb := take_bad wr q bk o p [] false 1 H.out.1 (.inr (by simp))
          have e : RES = (0, [], true) := H.out.2.2
          have HG : Hid (W.grownBy wr (some q)) := H.out.2.1
          subst e
          clear H
          go_wp2_with (go_at_call 90; refine hb.mono ?_; clear hb; rintro e w1 ⟨rfl, hC, hG⟩; have c1 := hC.cell.2.1)
          go_ret
          exact ⟨rfl, ⟨o, p, hC⟩, grownBy_trans HG.out hG⟩
        | cons x r =>
          have hb := take_ok wr q bk o p (x :: r) 1 H.out.1 (by simp)
          have cx := H.out.1.bytes1
          have hne := H.out.1.ne
          have hxl := x.toNat_lt
          have hand : bits .and .u8 (x.toNat : Int) 127 = (x.toNat : Int) % 128 := and127 _ (by omega) (by omega)
          have HE0 : RES = if x.toNat < 128 then (nn + (x.toNat : Int) % 128 * 1, r, decide (x.toNat = 0) && false) else contN 1 (nn + (x.toNat : Int) % 128 * 1) r := by have := H.out.2.2; simpa [contN] using this
          have HE : Hid (RES = if x.toNat < 128 then (nn + (x.toNat : Int) % 128 * 1, r, decide (x.toNat = 0) && false) else contN 1 (nn + (x.toNat : Int) % 128 * 1) r) := HE0
          clear HE0
          have HG : Hid (W.grownBy wr (some q)) := H.out.2.1
          have hxm : (x.toNat : Int) % 128 ≤ 127 := by omega
          have hxn : 0 ≤ (x.toNat : Int) % 128 := by omega
          by_cases h8 : x.toNat < 128
          · have i1 : (x.toNat : Int) < 128 := by omega
            have d1 : decide ((x.toNat : Int) < 128) = true := decide_eq_true i1
            by_cases hx0 : x.toNat = 0
            · have z1 : ((x.toNat : Int) == 0) = true := by simp [hx0]
              clear H
              go_wp2_with (go_at_call 90; refine hb.mono ?_; clear hb; rintro e w1 ⟨rfl, ⟨o', hC⟩, hG⟩; obtain ⟨c0, c1, f0, f1⟩ := hC.cell; have cx1 := cell_grown cx hG hne; have H1 : Hid (Cu w1 q bk o' (p - 1) r false ∧ W.grownBy w1 (some q)) := ⟨hC, grownBy_trans HG.out hG⟩; clear hC hG cx)
              go_ret
              rw [HE.out, if_pos h8]
              refine ⟨?_, ⟨o', p - 1, ?_⟩, grownBy_trans H1.out.2 (grownBy_setCell _ _ _ _)⟩
              · have a0 : bits BinOp.and IntKind.u8 0 127 = 0 := and127 0 (by omega) (by omega)
                simp [hx0, a0]
                unfold wrap64
                omega
              · have := H1.out.1.setW false
                simpa [hx0] using this
            · have z1 : ((x.toNat : Int) == 0) = false := by simp [hx0]
              have z2 : ¬ (x.toNat : Int) = 0 := by omega
              clear H
              go_wp2_with (go_at_call 90; refine hb.mono ?_; clear hb; rintro e w1 ⟨rfl, ⟨o', hC⟩, hG⟩; obtain ⟨c0, c1, f0, f1⟩ := hC.cell; have cx1 := cell_grown cx hG hne; have H1 : Hid (Cu w1 q bk o' (p - 1) r false ∧ W.grownBy w1 (some q)) := ⟨hC, grownBy_trans HG.out hG⟩; clear hC hG cx)
              go_ret
              rw [HE.out, if_pos h8]
              refine ⟨?_, ⟨o', p - 1, ?_⟩, grownBy_trans H1.out.2 (grownBy_setCell _ _ _ _)⟩
              · skip
                simp


              · have := H1.out.1.setW false
                simpa [hx0] using this
          · have i1 : ¬ (x.toNat : Int) < 128 := by omega
            have d1 : decide ((x.toNat : Int) < 128) = false := decide_eq_false i1
            have he := HE.out
            rw [if_neg h8] at he
            have HE2 : Hid (RES = contN 1 (nn + (x.toNat : Int) % 128 * 1) r) := he
            clear he H
            go_wp2_with (go_at_call 90; refine hb.mono ?_; clear hb; rintro e w1 ⟨rfl, ⟨o', hC⟩, hG⟩; obtain ⟨c0, c1, f0, f1⟩ := hC.cell; have cx1 := cell_grown cx hG hne; have H1 : Hid (Cu w1 q bk o' (p - 1) r false ∧ W.grownBy w1 (some q)) := ⟨hC, grownBy_trans HG.out hG⟩; clear hC hG cx)
            go_roundw
            case rel => exact ⟨1, nn + (x.toNat : Int) % 128 * 1, r, o', p - 1, by omega, by omega, by omega, by simp, by simp, H1.out.1, H1.out.2, HE2.out⟩
            case measure => simp [intOf]
end Go.Proofs.YthalpnpnbclipaaGreat

/- The document's cursor: words and texts. -/
namespace Go.Proofs.YthalpnpnbclipaaGreat
open Go.RowKit

attribute [local go_sem] Oper.semAt_some

def wordC (s : List UInt8) (wr : Bool) : Int × List UInt8 × Bool := if wr = true ∨ s.length < 8 then (0, s, true) else (wideVal s 8, s.drop 8, false)
theorem Cu.drewN' {W : World} {q bk off cp : Nat} {s : List UInt8} {wr : Bool} (h : Cu W q bk off cp s wr) (k : Nat) : Cu (W.drewN k) q bk off cp s wr := ⟨h.box, h.by_.drewN k, h.le, h.ne, h.lt⟩
theorem wv_take (l : List UInt8) (j : Nat) : ∀ k, k ≤ j → wideVal (l.take j) k = wideVal l k := by
  intro k
  induction k with
  | zero => intro _; rfl
  | succ k ih => intro h; rw [wideVal_succ, wideVal_succ, ih (by omega), bt_take _ _ _ (by omega)]
theorem Bytes.takeC {w : World} {a : Option Addr} {n : Nat} {l : List UInt8} (h : Bytes w a n l) (m : Nat) (hm : m ≤ n) : Bytes w a m (l.take m) := by
  refine ⟨by simp [h.1]; omega, fun h0 => ?_⟩
  obtain ⟨b, off, e, hc⟩ := h.2 (by omega)
  exact ⟨b, off, e, fun i hi => by rw [bt_take _ _ _ hi]; exact hc i (by omega)⟩
set_option maxHeartbeats 2000000 in
theorem word_c (W : World) (q bk off cp : Nat) (s : List UInt8) (wr : Bool) (h : Cu W q bk off cp s wr) :
    Calls Tryz.prog 91 #[.pointer (some ⟨q, 0, none⟩)] W fun e w' => e = .returned (.int .u64 (wordC s wr).1) ∧ (∃ off' cp', Cu w' q bk off' cp' (wordC s wr).2.1 (wordC s wr).2.2) ∧ W.grownBy w' (some q) := by
  unfold wordC
  by_cases hb : wr = true ∨ s.length < 8
  · rw [if_pos hb]
    have ht := take_bad W q bk off cp s wr 8 h hb
    clear h hb
    go_enter Tryz.func91, Tryz.ntmps91
    go_wp2_with (go_at_call 90; refine ht.mono ?_; clear ht; rintro e w1 ⟨rfl, hC, hG⟩)
    go_loopw [3, 9] (fun a b wx => a = .int .u64 0 ∧ b = .int .i64 0 ∧ wx = w1) (fun _ _ _ => 0)
    case atStart => exact ⟨rfl, rfl, rfl⟩
    case round =>
      obtain ⟨rfl, rfl, rfl⟩ := hrel
      go_wp2
      go_ret
      exact ⟨rfl, ⟨off, cp, hC⟩, hG⟩
  · rw [if_neg hb]
    have hw : wr = false := by cases wr with | true => exact absurd (.inl rfl) hb | false => rfl
    subst hw
    have h8 : 8 ≤ s.length := by
      by_cases h8 : s.length < 8
      · exact absurd (.inr h8) hb
      · omega
    have ht := take_ok W q bk off cp s 8 h h8
    have HBy : Hid (Bytes W (some ⟨bk, off, none⟩) 8 (s.take 8)) := by
      refine ⟨by simp; omega, fun _ => ?_⟩
      obtain ⟨b, o, e, hc⟩ := h.by_.2 (by omega)
      exact ⟨b, o, e, fun i hi => by rw [bt_take _ _ _ hi]; exact hc i (by omega)⟩
    have hne := h.ne
    have HV : Hid (wideVal (s.take 8) 8 = wideVal s 8) := (wv_take s 8 8 (Nat.le_refl _) : wideVal (s.take 8) 8 = wideVal s 8)
    clear h hb
    go_enter Tryz.func91, Tryz.ntmps91
    go_wp2_with (go_at_call 90; refine ht.mono ?_; clear ht; rintro e w1 ⟨rfl, ⟨o', hC⟩, hG⟩; have H1 : Hid ((∃ off' cp', Cu w1 q bk off' cp' (s.drop 8) false) ∧ W.grownBy w1 (some q) ∧ Bytes w1 (some ⟨bk, off, none⟩) 8 (s.take 8)) := ⟨⟨o', _, hC⟩, hG, HBy.out.kept hG (fun x hx => by cases hx; simp; exact fun e => hne e.symm)⟩; clear hC hG HBy)
    generalize s.take 8 = l at H1 HV
    go_loopw [3, 9] (fun a b wx => ∃ k : Nat, k ≤ 8 ∧ a = .int .u64 (wideVal l k) ∧ b = .int .i64 (k : Int) ∧ wx = w1) (fun _ b _ => 8 - (intOf b).toNat)
    case atStart => exact ⟨0, Nat.zero_le _, rfl, rfl, rfl⟩
    case round =>
      obtain ⟨k, hk, rfl, rfl, rfl⟩ := hrel
      by_cases hlt : k < 8
      · obtain ⟨b, o, e, hcell⟩ := H1.out.2.2.2 (by omega)
        cases e
        have hck := hcell k hlt
        have b0 := bt_lo l k
        have b1 := bt_hi l k
        have h0 := wideVal_lo l k
        have h1 := wideVal_7 l k (by omega)
        have HS : Hid (bits BinOp.or IntKind.u64 (wideVal l k * 256) (bt l k) = wideVal l (k + 1)) := by rw [shl8 _ _ h0 h1 b0 b1]; rfl
        have i1 : (k : Int) < 8 := by omega
        clear hcell
        go_wp2
        go_roundw
        case rel => exact ⟨k + 1, by omega, by rw [HS.out], by simp, trivial⟩
        case measure => simp [intOf]; omega
      · obtain rfl : k = 8 := by omega
        go_wp2
        go_ret
        exact ⟨by rw [HV.out]; rfl, H1.out.1, H1.out.2.1⟩
theorem contN_fits : ∀ (k : Nat) (n : Int) (s : List UInt8), k ≤ 2 → 0 ≤ n → n ≤ 127 * (2 - (k : Int)) * 128 → 0 ≤ (contN k n s).1 ∧ (contN k n s).1 ≤ 40000
  | 0, n, s, _, _, _ => by simp [contN]
  | k + 1, n, [], _, _, _ => by simp [contN]
  | k + 1, n, x :: r, hk, h0, h1 => by
    have hx := x.toNat_lt
    unfold contN
    simp only
    by_cases hz : k = 0
    · subst hz
      split
      · simp only [if_true]; omega
      · exact contN_fits 0 _ r (by omega) (by simp only [if_true]; omega) (by simp only [if_true]; omega)
    · have hk1 : k = 1 := by omega
      subst hk1
      split
      · simp; omega
      · exact contN_fits 1 _ r (by omega) (by simp; omega) (by simp; omega)
theorem numC_fits (s : List UInt8) (wr : Bool) : 0 ≤ (numC s wr).1 ∧ (numC s wr).1 ≤ 40000 := by
  unfold numC
  split
  · simp
  · exact contN_fits 2 0 s (by omega) (by omega) (by omega)
def textC (s : List UInt8) (wr : Bool) : ByteArray × List UInt8 × Bool :=
  if (numC s wr).2.2 = true ∨ (numC s wr).2.1.length < (numC s wr).1.toNat then (⟨#[]⟩, (numC s wr).2.1, true) else (⟨((numC s wr).2.1.take (numC s wr).1.toNat).toArray⟩, (numC s wr).2.1.drop (numC s wr).1.toNat, false)
set_option maxHeartbeats 2000000 in
theorem text_c (W : World) (q bk off cp : Nat) (s : List UInt8) (wr : Bool) (h : Cu W q bk off cp s wr) :
    Calls Tryz.prog 89 #[.pointer (some ⟨q, 0, none⟩)] W fun e w' => e = .returned (.string (textC s wr).1) ∧ (∃ off' cp', Cu w' q bk off' cp' (textC s wr).2.1 (textC s wr).2.2) ∧ W.grownBy w' (some q) := by
  have hn := number_c W q bk off cp s wr h
  have hf := numC_fits s wr
  unfold textC
  generalize numC s wr = R at hn hf
  obtain ⟨v, t, f⟩ := R
  simp only at hn hf ⊢
  obtain ⟨N, rfl⟩ := Int.eq_ofNat_of_zero_le hf.1
  simp only [Int.toNat_natCast]
  clear h hf
  by_cases hb : f = true ∨ t.length < N
  · rw [if_pos hb]
    have HB : Hid (f = true ∨ t.length < N) := hb
    have hs0 : ∀ W', (convert 36 9 (.slice none 0 0)).run Tryz.prog W' = .ok (.string ⟨#[]⟩) W' := fun W' => run_string W' none 0 0 [] ⟨rfl, fun h => by omega⟩
    clear hb
    go_enter Tryz.func89, Tryz.ntmps89
    go_wp2_with first
      | (go_at_call 88; refine hn.mono ?_; clear hn; rintro e w1 ⟨rfl, ⟨o1, p1, hC⟩, hG⟩; have ht := take_bad w1 q bk o1 p1 t f N hC HB.out; clear hC)
      | (go_at_call 90; refine ht.mono ?_; clear ht; rintro e w2 ⟨rfl, hC2, hG2⟩)
    go_ret
    exact ⟨rfl, ⟨o1, p1, hC2⟩, grownBy_trans hG hG2⟩
  · rw [if_neg hb]
    have hf : f = false := by cases f with | true => exact absurd (.inl rfl) hb | false => rfl
    subst hf
    have h8 : N ≤ t.length := by
      by_cases h8 : t.length < N
      · exact absurd (.inr h8) hb
      · omega
    have HL : Hid (N ≤ t.length) := h8
    clear hb h8
    go_enter Tryz.func89, Tryz.ntmps89
    go_wp2_with first
      | (go_at_call 88; refine hn.mono ?_; clear hn; rintro e w1 ⟨rfl, ⟨o1, p1, hC⟩, hG⟩; have ht := take_ok w1 q bk o1 p1 t N hC HL.out; have H1 : Hid (Cu w1 q bk o1 p1 t false) := hC; clear hC)
      | (go_at_call 90; refine ht.mono ?_; clear ht; rintro e w2 ⟨rfl, hC2, hG2⟩; have hby : Bytes w2 (some ⟨bk, o1, none⟩) N (t.take N) := ((Bytes.takeC H1.out.by_ N HL.out).kept hG2 (fun x hx => by cases hx; simp; exact fun e => H1.out.ne e.symm)); have hst := run_string w2 (some ⟨bk, o1, none⟩) N p1 (t.take N) hby; clear hby)
    go_ret
    obtain ⟨o2, hC2⟩ := hC2
    exact ⟨rfl, ⟨o2, _, hC2⟩, grownBy_trans hG hG2⟩
end Go.Proofs.YthalpnpnbclipaaGreat
