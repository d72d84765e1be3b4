import Derived.Test.YtggnglgehobglaaGreatDoorP36
import Derived.WalkMore
/- The walk of Quote and of what puts bytes as digits. -/
namespace Go.Proofs.YtggnglgehobglaaGreatDoor
open Go.RowKit

/-- the bytes of a string as a new slice -/
theorem run_bytes (w : World) (s : ByteArray) : ∃ c w', (convert 9 66 (.string s)).run Tryz.prog w = .ok (.slice (some ⟨w.heap.size, 0, none⟩) s.size c) w' ∧ Bytes w' (some ⟨w.heap.size, 0, none⟩) s.size s.data.toList ∧ Below w.heap.size w w' ∧ w'.heap.size = w.heap.size + 1 := by
  refine ⟨_, _, Lib.run_convert_string_bytes w 9 66 5 s Tryz.underlying9 Tryz.underlying66 Tryz.underlying5, ⟨rfl, fun _ => ⟨w.heap.size, 0, rfl, fun i hi => ?_⟩⟩, ⟨rfl, rfl, rfl, ?_, fun k hk => Lib.bytesWorld_at_old w _ s k hk⟩, Lib.bytesWorld_size _ _ _⟩
  · rw [Nat.zero_add, Lib.bytesWorld_cell w _ s i hi]; rfl
  · rw [Lib.bytesWorld_size]; omega

theorem escs_snoc (l : List UInt8) (b : UInt8) : escs (l ++ [b]) = escs l ++ esc b := by simp [escs]
theorem Bytes.grown {w w' : World} {b n : Nat} {row : Option Nat} {l : List UInt8} (h : Bytes w (some ⟨b, 0, none⟩) n l) (hg : w.grownBy w' row) (hne : row ≠ some b) : Bytes w' (some ⟨b, 0, none⟩) n l :=
  ⟨h.1, fun h0 => by
    obtain ⟨b', off, e, hc⟩ := h.2 h0
    cases e
    exact ⟨_, _, rfl, fun i hi => hg.cell (hc i hi) (fun e => hne e.symm)⟩⟩

theorem Bytes.allocd {w : World} {b n : Nat} {l : List UInt8} (h : Bytes w (some ⟨b, 0, none⟩) n l) (o : Obj) : Bytes (w.alloc o).drew (some ⟨b, 0, none⟩) n l :=
  show Bytes (w.alloc o) _ _ _ from h.grown (World.grownBy_alloc w o none) (by simp)
theorem and15 (y : Nat) (h : y < 256) : bits BinOp.and IntKind.u8 (y : Int) 15 = ((y % 16 : Nat) : Int) := by
  have : ∀ z : Fin 256, bits BinOp.and IntKind.u8 ((z.val : Nat) : Int) 15 = ((z.val % 16 : Nat) : Int) := by decide +kernel
  exact this ⟨y, h⟩
def digs : ByteArray := ⟨#[48, 49, 50, 51, 52, 53, 54, 55, 56, 57, 97, 98, 99, 100, 101, 102]⟩
theorem digs_at (i : Nat) (h : i < digs.size) : digs[i]'h = hexd i := by
  have : ∀ z : Fin 16, digs[z.val]'(by exact z.2) = hexd z.val := by decide +kernel
  exact this ⟨i, h⟩
theorem esc_cells (z : UInt8) (hi lo : Nat) (h1 : hi = z.toNat / 16) (h2 : lo = z.toNat % 16) (p1 : hi < digs.size) (p2 : lo < digs.size) :
    (#[.int .u8 92, .int .u8 120, .int .u8 (((digs[hi]'p1).toNat : Nat) : Int), .int .u8 (((digs[lo]'p2).toNat : Nat) : Int)] : Array Value) = (cellsOf (esc z)).toArray := by
  rw [digs_at, digs_at, h1, h2]; rfl

set_option maxRecDepth 20000 in
set_option maxHeartbeats 4000000 in
theorem appendBytes_any (w0 : World) (it : Nat) (o : Obj) (v : Value) (l : List UInt8) (s : ByteArray) (w : World) (h : Row w0 it o v l w) (hs : s.size ≤ 4) (hl : l.length ≤ 70368744177664) :
    Calls Tryz.prog 129 #[v, .string s] w fun e w' => ∃ v', e = .returned v' ∧ Row w0 it o v' (l ++ escs (bs s)) w' := by
  obtain ⟨c, w1, hcv, hby, hB1, hz1⟩ := run_bytes w s
  have hby' : Bytes w1 (some ⟨w.heap.size, 0, none⟩) s.size (bs s) := hby
  have hR1 := h.below hB1
  have hv1 : v.ownBlock ≠ some w.heap.size := fun e => by have := (row_block h.row _ e).2.1; omega
  go_enter Tryz.func129, Tryz.ntmps129
  go_wp2
  go_loopw [0, 10] (fun q i wr => ∃ k : Nat, k ≤ s.size ∧ i = .int .i64 (k : Int) ∧ Row w0 it o q (l ++ escs ((bs s).take k)) wr ∧ Bytes wr (some ⟨w.heap.size, 0, none⟩) s.size (bs s) ∧ q.ownBlock ≠ some w.heap.size ∧ w.heap.size < wr.heap.size) (fun _ i _ => s.size - (intOf i).toNat)
  case atStart => exact ⟨0, Nat.zero_le _, rfl, by simpa [escs] using hR1, hby', hv1, by omega⟩
  case round =>
    obtain ⟨k, hk, rfl, hR, hb, hv, hlt'⟩ := hrel
    by_cases hlt : k < s.size
    · have ilt : (k : Int) < s.size := by omega
      obtain ⟨b', off, e, hc⟩ := hb.2 (by omega)
      cases e
      have hck := hc k hlt
      rw [Nat.zero_add] at hck
      obtain ⟨q, hq⟩ : ∃ q, q = ((bs s).getD k 0).toNat := ⟨_, rfl⟩
      have hbt : bt (bs s) k = (q : Int) := by unfold bt; rw [← hq]
      rw [hbt] at hck
      have hq2 : q < 256 := by rw [hq]; exact UInt8.toNat_lt _
      obtain ⟨lo, hlo⟩ : ∃ lo, lo = q % 16 := ⟨_, rfl⟩
      obtain ⟨hi, hhi⟩ : ∃ hi, hi = q / 16 := ⟨_, rfl⟩
      have hand : bits BinOp.and IntKind.u8 (q : Int) 15 = (lo : Int) := by rw [hlo]; exact and15 q hq2
      have hdiv : (q : Int) / 16 = (hi : Int) := by omega
      have hl1 : (lo : Int) < 16 := by omega
      have hh1 : (hi : Int) < 16 := by omega
      have HQ : Hid (q = ((bs s).getD k 0).toNat ∧ lo = q % 16 ∧ hi = q / 16) := ⟨hq, hlo, hhi⟩
      clear hq hlo hhi hbt
      clear hc hcv hby hby' hB1 hR1
      go_wp2
      have hrow := hR.row
      have hsz := hR.size
      have hn : (l ++ escs ((bs s).take k)).length ≤ 70368744177664 + 16 := by rw [List.length_append, escs_len, List.length_take]; omega
      obtain ⟨n, hn'⟩ : ∃ n, n = (l ++ escs ((bs s).take k)).length := ⟨_, rfl⟩
      rw [← hn'] at hrow hn
      have HN : Hid (n = (l ++ escs ((bs s).take k)).length) := hn'
      have HR : Hid (Row w0 it o u0 (l ++ escs ((bs s).take k)) wr) := hR
      have HB : Hid (Bytes wr (some ⟨w.heap.size, 0, none⟩) s.size (bs s)) := hb
      clear hR hb hn'
      go_region_law ((refine step_app _ w0.heap.size (by simp; omega) (by rfl) _ _ (by rfl) u0 n _ (by rfl) (hrow.drew.alloc _) (some ⟨wr.heap.size, 0, none⟩) 4 4 (esc ((bs s).getD k 0)) (by rfl) (bytes_new wr.drew _ _ (esc_cells _ hi lo (by rw [← HQ.out.1]; exact HQ.out.2.2) (by rw [← HQ.out.1]; exact HQ.out.2.1) _ _)) (fun h => by cases h) (by omega) ?_; intro v' w3 hown3 hgr3 hat3))
      all_goals
        have HF : Hid (Row w0 it o v' (l ++ escs ((bs s).take (k + 1))) w3 ∧ Bytes w3 (some ⟨w.heap.size, 0, none⟩) s.size (bs s) ∧ v'.ownBlock ≠ some w.heap.size ∧ w.heap.size < w3.heap.size) := by
          have e1 : (bs s).take (k + 1) = (bs s).take k ++ [(bs s).getD k 0] := by
            rw [List.take_succ_eq_append_getElem (by rw [bs_len]; exact hlt), List.getD_eq_getElem?_getD, List.getElem?_eq_getElem (by rw [bs_len]; exact hlt)]; rfl
          rw [HN.out] at hown3
          refine ⟨?_, ?_, ?_, ?_⟩
          · rw [e1, escs_snoc, ← List.append_assoc]
            exact ((HR.out.alloc _).drew).grown hgr3 rfl hown3
          · exact (HB.out.allocd _).grown hgr3 hv
          · rcases hat3 with h3 | h3
            · rw [h3]; exact hv
            · rw [h3]
              intro e
              have e2 := Option.some.inj e
              simp at e2
              omega
          · have := hgr3.size
            simp at this
            omega
        clear hown3 hgr3 hat3 HB HR HN hrow HQ
        go_wp2
        go_roundw
        case rel => exact ⟨k + 1, by omega, by go_num, HF.out⟩
        case measure => simp [intOf]; omega
    · obtain rfl : k = s.size := by omega
      have ilt : ¬ ((s.size : Nat) : Int) < s.size := by omega
      have hf : (bs s).take s.size = bs s := by rw [← bs_len]; exact List.take_length
      rw [hf] at hR
      have HR : Hid (Row w0 it o u0 (l ++ escs (bs s)) wr) := hR
      clear hR hb hf hcv hby hby' hB1 hR1
      go_wp2
      go_ret
      exact ⟨_, rfl, HR.out⟩

theorem row_lit (w : World) (s : ByteArray) : Row w (w.heap.size + 1) (.stringIter s 0) (.slice (some ⟨w.heap.size, 0, none⟩) 1 1) [34] ((w.alloc (.cells #[.int .u8 34] 5)).alloc (.stringIter s 0)) := by
  refine ⟨World.ownsRow.alloc (World.ownsRow_lit w #[.int .u8 34] 1 (Nat.le_refl _) (by unfold maxLen; omega) rfl) _, ?_, iter_obj s 0, ((Below.refl _ w).alloc (Nat.le_refl _) _).alloc (by simp) _, by omega⟩
  have := World.alloc_heap_new (w.alloc (.cells #[.int .u8 34] 5)) (.stringIter s 0)
  rw [World.size_alloc] at this
  exact this
theorem strCells_bs (s : ByteArray) : Lib.strCells s = cellsOf (bs s) := rfl
theorem take_drop_dec (l : List UInt8) (p : Nat) : (l.drop p).drop (dec (l.drop p)).2 = l.drop (p + (dec (l.drop p)).2) := by rw [List.drop_drop]

set_option maxRecDepth 20000 in
set_option maxHeartbeats 4000000 in
theorem qquote_any (s : ByteArray) (w : World) (hT : Tabs w) (hs : s.size ≤ 8796093022208) :
    Calls Tryz.prog 112 #[.string s] w fun e w' => e = .returned (.string (mk (quoteL (bs s)))) ∧ Below w.heap.size w w' := by
  have hs' : s.size ≤ 9223372036854775807 := by omega
  obtain ⟨i0, hi, hz0, hz1, hz2⟩ := info_parts Tryz.info5
  go_enter Tryz.func112, Tryz.ntmps112
  go_wp2
  go_loopw [3] (fun v wr => ∃ (p : Nat) (out : List UInt8), p ≤ s.size ∧ Row w (w.heap.size + 1) (.stringIter s p) v (34 :: out) wr ∧ Hid (qs (bs s) = out ++ qs ((bs s).drop p)) ∧ out.length ≤ 4 * p) (fun _ wr => s.size - wr.iterPos (w.heap.size + 1))
  case atStart => exact ⟨0, [], Nat.zero_le _, row_lit w s, by simp [Hid], by simp⟩
  case round =>
    obtain ⟨p, out, hp, hR, H, hol⟩ := hrel
    have hol2 : (34 :: out).length ≤ 35184372088833 := by simp only [List.length_cons]; omega
    by_cases hlt : p < s.size
    · obtain ⟨r, d, hdec, hd, hd1, hd2, hr, hne, he, he2⟩ := rune_at s p hlt
      have hnx := run_next_at (P := Tryz.prog) wr (w.heap.size + 1) s p hR.iter hlt
      rw [hdec] at hnx
      have hR2 := hR.put (.stringIter s (p + d)) (iter_obj s _)
      obtain ⟨W2, hW2⟩ : ∃ W2, W2 = wr.putObj (w.heap.size + 1) (.stringIter s (p + d)) := ⟨_, rfl⟩
      simp only at hnx
      rw [← hW2] at hnx hR2
      have hm : Hid (∀ W3 : World, W3.heap[w.heap.size + 1]? = some (.stringIter s (p + d)) → s.size - W3.iterPos (w.heap.size + 1) < s.size - wr.iterPos (w.heap.size + 1)) := by
        intro W3 h3
        rw [iterPos_of hR.iter, iterPos_of h3]; omega
      have hT2 : Tabs W2 := hT.below hR2.bel
      have HR : Hid (∀ W3, Below W2.heap.size W2 W3 → Row w (w.heap.size + 1) (.stringIter s (p + d)) u3 (34 :: out) W3) := fun W3 hB => hR2.below hB
      have hwd := fun W hT => width_any (s.extract p s.size) W hT (by rw [he]; exact hne)
      rw [he, hd] at hwd
      have i3 : (p : Int) ≤ s.size := by omega
      have HQ : Hid (∀ m, qpiece ((bs s).drop p) = m → qs (bs s) = (out ++ m) ++ qs ((bs s).drop (p + d)) ∧ (out ++ m).length ≤ 4 * (p + d)) := fun m hm => by
        refine ⟨by rw [H.out, qs_go _ hne, hm, hd, List.drop_drop, List.append_assoc], ?_⟩
        have := qpiece_len _ hne
        rw [hm, hd] at this
        rw [List.length_append]
        simp only at this
        omega
      have HP : Hid (qpiece ((bs s).drop p) = if r = 34 ∨ r = 92 then [92, UInt8.ofNat r] else if r = 10 then [92, 110] else if ctl r || (decide (r = 65533) && decide (d = 1)) then escs (bs (s.extract p (p + d))) else bs (s.extract p (p + d))) := by
        show _ = _
        unfold qpiece
        rw [brk_iff _ hne, hd, he2]
      have hd4 : d ≤ 4 := by
        have : (Utf8.decode s p).2 ≤ 4 := by rw [Lib.decode_at]; unfold Lib.decodeN; repeat' split
                                             all_goals simp
        rw [hdec] at this; exact this
      have hes : (s.extract p (p + d)).size = d := by simp; omega
      clear hd he he2 hne hdec hW2 hR2 H hR
      by_cases hA : r = 34 ∨ r = 92
      · have HE : Hid (qpiece ((bs s).drop p) = [92, UInt8.ofNat r]) := by show _ = _; rw [HP.out, if_pos hA]
        clear HP
        rcases hA with rfl | rfl
        · simp only [show ((34 : Nat) : Int) = 34 from rfl] at hnx
          go_wp2_with first
            | (go_at_call 109; refine (hwd _ hT2).mono ?_; rintro e w3 ⟨rfl, hB3⟩)
            | (at_builtin; refine wpList_app _ w.heap.size (by have := (HR.out _ hB3).size; simp; omega) rfl _ _ rfl u3 (34 :: out).length _ rfl ((HR.out _ hB3).alloc _).row (some ⟨_, 0, none⟩) 2 2 [92, 34] rfl (bytes_new _ [92, 34] _ rfl) (fun h => by cases h) (by omega) ?_; intro v' w4 hown4 hgr4 hat4)
          have HF : Hid (Row w (w.heap.size + 1) (.stringIter s (p + d)) v' (34 :: (out ++ [92, 34])) w4) := ((HR.out _ hB3).alloc _).grown hgr4 rfl hown4
          clear hown4 hgr4 hat4 HR
          go_wp2
          go_roundw
          case rel => exact ⟨p + d, out ++ [92, 34], hd2, HF.out, (HQ.out _ HE.out).1, (HQ.out _ HE.out).2⟩
          case measure => exact hm.out _ HF.out.iter
        · simp only [show ((92 : Nat) : Int) = 92 from rfl] at hnx
          go_wp2_with first
            | (go_at_call 109; refine (hwd _ hT2).mono ?_; rintro e w3 ⟨rfl, hB3⟩)
            | (at_builtin; refine wpList_app _ w.heap.size (by have := (HR.out _ hB3).size; simp; omega) rfl _ _ rfl u3 (34 :: out).length _ rfl ((HR.out _ hB3).alloc _).row (some ⟨_, 0, none⟩) 2 2 [92, 92] rfl (bytes_new _ [92, 92] _ rfl) (fun h => by cases h) (by omega) ?_; intro v' w4 hown4 hgr4 hat4)
          have HF : Hid (Row w (w.heap.size + 1) (.stringIter s (p + d)) v' (34 :: (out ++ [92, 92])) w4) := ((HR.out _ hB3).alloc _).grown hgr4 rfl hown4
          clear hown4 hgr4 hat4 HR
          go_wp2
          go_roundw
          case rel => exact ⟨p + d, out ++ [92, 92], hd2, HF.out, (HQ.out _ HE.out).1, (HQ.out _ HE.out).2⟩
          case measure => exact hm.out _ HF.out.iter
      · have c34 : ((r : Int) == 34) = false := beq_eq_false_iff_ne.2 (by omega)
        have c92 : ((r : Int) == 92) = false := beq_eq_false_iff_ne.2 (by omega)
        by_cases h10 : r = 10
        · have HE : Hid (qpiece ((bs s).drop p) = [92, 110]) := by show _ = _; rw [HP.out, if_neg hA, if_pos h10]
          clear HP
          subst h10
          simp only [show ((10 : Nat) : Int) = 10 from rfl] at hnx
          go_wp2_with first
            | (go_at_call 109; refine (hwd _ hT2).mono ?_; rintro e w3 ⟨rfl, hB3⟩)
            | (at_builtin; refine wpList_app _ w.heap.size (by have := (HR.out _ hB3).size; simp; omega) rfl _ _ rfl u3 (34 :: out).length _ rfl ((HR.out _ hB3).alloc _).row (some ⟨_, 0, none⟩) 2 2 [92, 110] rfl (bytes_new _ [92, 110] _ rfl) (fun h => by cases h) (by omega) ?_; intro v' w4 hown4 hgr4 hat4)
          have HF : Hid (Row w (w.heap.size + 1) (.stringIter s (p + d)) v' (34 :: (out ++ [92, 110])) w4) := ((HR.out _ hB3).alloc _).grown hgr4 rfl hown4
          clear hown4 hgr4 hat4 HR
          go_wp2
          go_roundw
          case rel => exact ⟨p + d, out ++ [92, 110], hd2, HF.out, (HQ.out _ HE.out).1, (HQ.out _ HE.out).2⟩
          case measure => exact hm.out _ HF.out.iter
        · have c10 : ((r : Int) == 10) = false := beq_eq_false_iff_ne.2 (by omega)
          have hct := fun W => qcontrol_any r W
          have hbk := fun W => qbroken_any r d W
          have HE0 : Hid (qpiece ((bs s).drop p) = if ctl r || (decide (r = 65533) && decide (d = 1)) then escs (bs (s.extract p (p + d))) else bs (s.extract p (p + d))) := by
            show _ = _; rw [HP.out, if_neg hA, if_neg h10]
          have i4 : (p : Int) + d ≤ s.size := by omega
          have i5 : (p : Int) + d ≤ 9223372036854775807 := by omega
          have tn : ((p : Int) + (d : Int)).toNat = p + d := by omega
          clear HP
          cases hcr : ctl r with
          | true =>
            rw [hcr] at hct
            have HE : Hid (qpiece ((bs s).drop p) = escs (bs (s.extract p (p + d)))) := by show _ = _; rw [HE0.out, hcr]; rfl
            clear HE0 hbk
            go_wp2_with first
              | (go_at_call 109; refine (hwd _ hT2).mono ?_; rintro e w3 ⟨rfl, hB3⟩)
              | (go_at_call 107; refine (hct _).mono ?_; rintro e w' ⟨rfl, rfl⟩)
              | (go_at_call 129; refine (appendBytes_any w (w.heap.size + 1) _ u3 (34 :: out) (s.extract p (p + d)) _ (HR.out _ hB3) (by omega) (by omega)).mono ?_; rintro e w4 ⟨v', rfl, hF⟩; have HF : Hid _ := hF; clear hF)
            go_roundw
            case rel => exact ⟨p + d, out ++ escs (bs (s.extract p (p + d))), hd2, HF.out, (HQ.out _ HE.out).1, (HQ.out _ HE.out).2⟩
            case measure => exact hm.out _ HF.out.iter
          | false =>
            rw [hcr] at hct
            cases hbb : (decide (r = 65533) && decide (d = 1)) with
            | true =>
              rw [hbb] at hbk
              have HE : Hid (qpiece ((bs s).drop p) = escs (bs (s.extract p (p + d)))) := by show _ = _; rw [HE0.out, hcr, hbb]; rfl
              clear HE0
              go_wp2_with first
                | (go_at_call 109; refine (hwd _ hT2).mono ?_; rintro e w3 ⟨rfl, hB3⟩)
                | (go_at_call 107; refine (hct _).mono ?_; rintro e w' ⟨rfl, rfl⟩)
                | (go_at_call 108; refine (hbk _).mono ?_; rintro e w' ⟨rfl, rfl⟩)
                | (go_at_call 129; refine (appendBytes_any w (w.heap.size + 1) _ u3 (34 :: out) (s.extract p (p + d)) _ (HR.out _ hB3) (by omega) (by omega)).mono ?_; rintro e w4 ⟨v', rfl, hF⟩; have HF : Hid _ := hF; clear hF)
              go_roundw
              case rel => exact ⟨p + d, out ++ escs (bs (s.extract p (p + d))), hd2, HF.out, (HQ.out _ HE.out).1, (HQ.out _ HE.out).2⟩
              case measure => exact hm.out _ HF.out.iter
            | false =>
              rw [hbb] at hbk
              have HE : Hid (qpiece ((bs s).drop p) = bs (s.extract p (p + d))) := by show _ = _; rw [HE0.out, hcr, hbb]; rfl
              clear HE0
              go_wp2_with first
                | (go_at_call 109; refine (hwd _ hT2).mono ?_; rintro e w3 ⟨rfl, hB3⟩)
                | (go_at_call 107; refine (hct _).mono ?_; rintro e w' ⟨rfl, rfl⟩)
                | (go_at_call 108; refine (hbk _).mono ?_; rintro e w' ⟨rfl, rfl⟩)
                | (at_builtin; refine Lib.wpList_append_own_string _ rfl _ _ 66 9 rfl w.heap.size 5 i0 Tryz.underlying66 Tryz.underlying9 hi hz0 hz1 hz2 u3 (34 :: out).length _ rfl (HR.out _ hB3).row (s.extract p (p + d)) rfl (by unfold maxLen; omega) (by omega) (by have := (HR.out _ hB3).size; omega) ?_; intro v' w4 hown4 hgr4 hat4)
              have HF : Hid (Row w (w.heap.size + 1) (.stringIter s (p + d)) v' (34 :: (out ++ bs (s.extract p (p + d)))) w4) := (HR.out _ hB3).grown (m := bs (s.extract p (p + d))) hgr4 (by rw [bs_len]) (by rw [← strCells_bs]; exact hown4)
              clear hown4 hgr4 hat4 HR
              go_wp2
              go_roundw
              case rel => exact ⟨p + d, out ++ bs (s.extract p (p + d)), hd2, HF.out, (HQ.out _ HE.out).1, (HQ.out _ HE.out).2⟩
              case measure => exact hm.out _ HF.out.iter
    · obtain rfl : p = s.size := by omega
      have hnx := run_next_over (P := Tryz.prog) wr (w.heap.size + 1) s s.size hR.iter hlt
      have HX : Hid (quoteL (bs s) = (34 :: out) ++ [34]) := by
        show _ = _
        unfold quoteL
        rw [H.out, List.drop_eq_nil_of_le (by rw [bs_len]; exact Nat.le_refl _), qs_nil, List.append_nil]; rfl
      have HR : Hid (Row w (w.heap.size + 1) (.stringIter s s.size) u3 (34 :: out) wr) := hR
      clear H hR
      go_wp2_with (at_builtin; refine wpList_app _ w.heap.size (by have := HR.out.size; simp; omega) rfl _ _ rfl u3 (34 :: out).length _ rfl (HR.out.alloc _).row (some ⟨_, 0, none⟩) 1 1 [34] rfl (bytes_new _ [34] _ rfl) (fun h => by cases h) (by omega) ?_; intro v' w4 hown4 hgr4 hat4; have HF : Hid (Row w (w.heap.size + 1) (.stringIter s s.size) v' ((34 :: out) ++ [34]) w4) := (HR.out.alloc _).grown hgr4 rfl hown4; have hrow := HF.out.row; obtain ⟨N, hN⟩ : ∃ N, N = ((34 :: out) ++ [34]).length := ⟨_, rfl⟩; rw [← hN] at hrow; obtain ⟨a4, c4, rfl, _⟩ := row_shape hrow; have hcv := run_string w4 a4 N c4 _ (row_bytes hrow); rw [← HX.out] at hcv; obtain ⟨T, hTq⟩ : ∃ T, T = quoteL (bs s) := ⟨_, rfl⟩; rw [← hTq] at hcv; have HT : Hid (T = quoteL (bs s)) := hTq; clear hown4 hgr4 hat4 HR hN hrow hTq)
      go_ret
      exact ⟨by rw [← HT.out]; rfl, HF.out.bel⟩
end Go.Proofs.YtggnglgehobglaaGreatDoor
