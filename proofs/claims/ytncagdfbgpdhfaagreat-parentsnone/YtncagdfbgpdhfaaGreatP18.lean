import Derived.Test.YtncagdfbgpdhfaaGreatP17
import Derived.Test.YtncagdfbgpdhfaaGreatP15
import Derived.Maps.RangeWalk
import Derived.Sort.KeysCollected
import Derived.Test.YtncagdfbgpdhfaaGreatP16
import Derived.Test.YtncagdfbgpdhfaaGreatP02
/- The walk of the method that puts a payload behind the others. -/
namespace Go.Proofs.YtncagdfbgpdhfaaGreat
open Go.RowKit

theorem grow_grow {w w1 W : World} {Fp : Nat → Prop} {k : Nat} (h : grow (grow Fp w w1) w1 W k) (hs : w.heap.size ≤ w1.heap.size) (hs' : w1.heap.size ≤ W.heap.size) : grow Fp w W k := by
  rcases h with (h | h) | h
  · exact .inl h
  · exact .inr ⟨h.1, by omega⟩
  · exact .inr ⟨by omega, h.2⟩

theorem IsPay.wide {w : World} {p o : Nat} {rs : List (List UInt8)} {Fp Gp : Nat → Prop} (h : IsPay w p o rs Fp) (hs : ∀ k, Fp k → Gp k) : IsPay w p o rs Gp := by
  obtain ⟨g, na, full, A, v, xs, h, h1, h2⟩ := h
  exact ⟨g, na, full, A, v, xs, h, fun k hk => hs k (h1 k hk), fun k hk => hs k (h2 k hk)⟩

set_option maxRecDepth 20000 in
set_option maxHeartbeats 4000000 in
theorem add_any (p o : Nat) (rs : List (List UInt8)) (Fp : Nat → Prop) (w : World) (a : Option Addr) (m c : Nat) (l : List UInt8) (h : IsPay w p o rs Fp) (hp : Fp p) (hlt : ∀ k, Fp k → k < w.heap.size)
    (hb : Bytes w a m l) (ha : 0 < m → ∀ x, a = some x → ¬ Fp x.block) (hmax : rs.flatten.length + m ≤ 4194304) (hcnt : rs.length ≤ 8388608) :
    Calls Tryz.prog 96 #[.pointer (some ⟨p, o, none⟩), .slice a m c] w fun e w' => e = .returned (.tuple #[]) ∧ IsPay w' p o (rs ++ [l]) (grow Fp w w') ∧ Turn Fp w w' ∧ Rest p o w w' := by
  have hI := h
  obtain ⟨g, na, full, A, v, xs, h, hA, hv⟩ := h
  have ca := h.ca
  have cu := h.cu
  have cl := h.cl
  have fit := h.fit
  have hll := hb.1
  obtain ⟨ad, rfl⟩ : ∃ ad, A = .slice ad na na := by
    rcases h.sh with ⟨rfl, rfl⟩ | rfl
    · exact ⟨_, rfl⟩
    · exact ⟨_, rfl⟩
  obtain ⟨U, hU⟩ : ∃ U, U = rs.flatten.length := ⟨_, rfl⟩
  have HU : Hid (U = rs.flatten.length) := hU
  rw [← hU] at cu fit hmax
  clear hU
  obtain ⟨j0, hj, hy0, hy1, hy2⟩ := info_parts Tryz.info80
  by_cases hbig : na < U + m
  · have i1 : (na : Int) < (U : Int) + (m : Int) := by omega
    go_enter Tryz.func96, Tryz.ntmps96
    go_wp2_with fail
    rw [show (2 * ((U : Int) + (m : Int))) = ((2 * (U + m) : Nat) : Int) by omega]
    refine (move_any p o (2 * (U + m)) rs Fp w hI hp hlt (by rw [← HU.out]; omega) (by omega)).mono ?_
    rintro e w1 ⟨rfl, hN, hT1, hR1⟩
    have HR1 : Hid (Rest p o w w1) := hR1
    clear hR1
    have hb1 : Bytes w1 a m l := hT1.bytes hb ha
    have hnaM : U < 2 * (U + m) ∧ U + m ≤ 2 * (U + m) ∧ 2 * (U + m) ≤ 16777216 := by omega
    have HT1 : Hid (Turn Fp w w1) := hT1
    have Hb1 : Hid (Bytes w1 a m l) := hb1
    clear h hA hv ca cu cl i1 hbig fit hb hI hT1 hb1
    clear full xs
    obtain ⟨NA, hNA⟩ : ∃ NA, NA = 2 * (U + m) := ⟨_, rfl⟩
    rw [← hNA] at hN hnaM
    clear hNA
    obtain ⟨g, full, v, xs, h, hA, hv⟩ := hN
    obtain ⟨na, hna⟩ : ∃ na, na = NA := ⟨_, rfl⟩
    subst hna
    have ca := h.ca
    have cu := h.cu
    have cl := h.cl
    rw [← HU.out] at cu
    have i2 : (U : Int) ≤ (na : Int) := by omega
    have i3 : (U : Int) + (m : Int) ≤ (na : Int) := by omega
    have i4 : (U : Int) ≤ (U : Int) + (m : Int) := by omega
    have i5 : ¬ na = U := by omega
    have hpF : grow Fp w w1 p := .inl hp
    have hlt1 : ∀ k, grow Fp w w1 k → k < w1.heap.size := fun k hk => hk.elim (fun h => Nat.lt_of_lt_of_le (hlt k h) HT1.out.size) (fun h => h.2)
    have hplt : p < w1.heap.size := hlt1 p hpF
    have hgp : ¬ g = p := h.gp rfl
    have hbD : Bytes w1.drew a m l := ⟨Hb1.out.1, Hb1.out.2⟩
    have hb := Hb1.out
    have harr : w1.drew.ownsRow 0 5 1 (.slice (some ⟨g, 0, none⟩) na na) na (cellsOf full) := h.arr
    have hnp : ¬ some p = (Value.slice (some ⟨g, 0, none⟩) na na).ownBlock := fun e => hgp (by simpa [Value.ownBlock] using e.symm)
    have hnv : ∀ k, v.ownBlock = some k → ¬ some k = (Value.slice (some ⟨g, 0, none⟩) na na).ownBlock := fun k hk e => h.gv rfl (by rw [hk]; simpa [Value.ownBlock] using e)
    go_wp2_with fail
    go_region_held3 (fun W => W.cell? ⟨p, o, none⟩ = some (.slice (some ⟨g, 0, none⟩) na na) ∧ W.cell? ⟨p, o + 1, none⟩ = some (.int .i64 (U : Nat)))
      (first
        | (go_split_ands
           refine ⟨by go_keep, by go_keep⟩)
        | (go_split_ands
           exact ⟨hgr.cell ca hnp, hgr.cell cu hnp⟩))
      ((refine step_copy_bytes _ (by rfl) _ _ (by rfl) (.slice (some ⟨g, 0, none⟩) na na) g na U full harr (.inr rfl) _ _ _ _ _ _ _ (by rfl) (by rfl) hbD (by omega) (by omega) (fun h0 => by first | rfl | omega) ?_; intro w2 hown2 hgr))
    obtain ⟨cl2, hrow2, fl2, fu2⟩ : w2.cell? ⟨p, o + 2, none⟩ = some v ∧ w2.ownsRow 0 80 1 v rs.length xs ∧ w2.frozen? ⟨p, o + 2, none⟩ = false ∧ w2.frozen? ⟨p, o + 1, none⟩ = false := by
      refine ⟨hgr.cell cl hnp, ownsRow_move' h.row (fun k hk => hgr.block k (hlt1 k (hv k hk)) (fun e => hnv k hk e)), ?_, ?_⟩
      · rw [World.frozen?_of_block (hgr.block p hplt hnp)]; exact h.fl
      · rw [World.frozen?_of_block (hgr.block p hplt hnp)]; exact h.fu
    have ca2 := hgr.cell ca hnp
    have cu2 := hgr.cell cu hnp
    have hplt2 : p < w2.heap.size := Nat.lt_of_lt_of_le hplt hgr.size
    have HX : ∀ X w3, ((w2.alloc X).drew).grownBy w3 v.ownBlock → w3.cell? ⟨p, o + 2, none⟩ = some v ∧ w3.frozen? ⟨p, o + 2, none⟩ = false ∧ w3.cell? ⟨p, o + 1, none⟩ = some (.int .i64 (U : Nat)) ∧ w3.frozen? ⟨p, o + 1, none⟩ = false := fun X w3 hg3 => by
      have hb3 : w3.heap[p]? = w2.heap[p]? := (hg3.block p (by simp; omega) (fun e => h.vp e.symm)).trans ((World.grownBy_alloc w2 X none).block p hplt2 (by simp))
      exact ⟨by rw [World.cell?_of_block hb3]; exact cl2, by rw [World.frozen?_of_block hb3]; exact fl2, by rw [World.cell?_of_block hb3]; exact cu2, by rw [World.frozen?_of_block hb3]; exact fu2⟩
    have HH : Hid (PayAt w1 p o rs g na full (.slice (some ⟨g, 0, none⟩) na na) v xs ∧ (∀ k, (.slice (some ⟨g, 0, none⟩) na na : Value).ownBlock = some k → (grow Fp w w1) k) ∧ (∀ k, v.ownBlock = some k → (grow Fp w w1) k)) := ⟨h, hA, hv⟩
    have HG : Hid (w1.grownBy w2 (.slice (some ⟨g, 0, none⟩) na na : Value).ownBlock) := ⟨hgr.os, hgr.tape, hgr.output, hgr.size, hgr.block⟩
    clear harr hbD hb h hA hv hgr ca cu cl hnp hnv
    go_wp2_with fail
    go_region_law ((refine step_push1 _ (by rfl) _ _ 151 80 j0 _ 24 (by rfl) Tryz.underlying151 hj hy0 hy1 hy2 rfl v rs.length xs (by rfl) ((hrow2.alloc _).drew) w2.heap.size (.slice (some ⟨g, U, none⟩) (((U : Int) + (m : Int)).toNat - U) (na - U)) (by rfl) (by simp) rfl (by unfold maxLen; omega) (by omega) ?_; intro v' w3 hown3 hgr3 hat3; obtain ⟨a3, c3, rfl, hs3⟩ := ownsRow_shape' hown3; obtain ⟨cl3, fl3, cu3, fu3⟩ := HX _ w3 hgr3))
    all_goals go_wp2
    all_goals go_end0
    all_goals refine ⟨rfl, ?_⟩
    all_goals
      have hE := add_end (l := l) HH.out.1 HH.out.2.1 HH.out.2.2 hpF hlt1 HG.out (by rw [← HU.out]; exact hown2) hgr3 hown3 (by simpa using hat3) ⟨_, _, by rw [show ((U : Int) + (m : Int)).toNat - U = l.length by omega], by omega, by simp, fun _ => by rw [HU.out]⟩ (by rw [← HU.out]; omega)
      rw [← HU.out, hll] at hE
    all_goals
      have hT := HT1.out.trans hE.2.1 (fun i hi h => h.elim id (fun h1 => by omega))
      exact ⟨hE.1.wide (fun k hk => grow_grow hk HT1.out.size hE.2.1.size), hT, HR1.out.trans hE.2.2⟩
  · have i1 : ¬ (na : Int) < (U : Int) + (m : Int) := by omega
    have hpF := hp
    have hplt := hlt p hp
    by_cases hUn : U < na
    · have i2 : (U : Int) ≤ (na : Int) := by omega
      have i3 : (U : Int) + (m : Int) ≤ (na : Int) := by omega
      have i4 : (U : Int) ≤ (U : Int) + (m : Int) := by omega
      have i5 : ¬ na = U := by omega
      have hbD : Bytes w.drew a m l := ⟨hb.1, hb.2⟩
      obtain rfl : ad = some ⟨g, 0, none⟩ := by
        rcases h.sh with ⟨_, h0⟩ | e
        · omega
        · cases e; rfl
      have hgp : ¬ g = p := h.gp rfl
      have harr : w.drew.ownsRow 0 5 1 (.slice (some ⟨g, 0, none⟩) na na) na (cellsOf full) := h.arr
      have hnp : ¬ some p = (Value.slice (some ⟨g, 0, none⟩) na na).ownBlock := fun e => hgp (by simpa [Value.ownBlock] using e.symm)
      have hnv : ∀ k, v.ownBlock = some k → ¬ some k = (Value.slice (some ⟨g, 0, none⟩) na na).ownBlock := fun k hk e => h.gv rfl (by rw [hk]; simpa [Value.ownBlock] using e)
      clear hI
      go_enter Tryz.func96, Tryz.ntmps96
      go_wp2_with fail
      go_region_held3 (fun W => W.cell? ⟨p, o, none⟩ = some (.slice (some ⟨g, 0, none⟩) na na) ∧ W.cell? ⟨p, o + 1, none⟩ = some (.int .i64 (U : Nat)))
        (first
          | (go_split_ands
             refine ⟨by go_keep, by go_keep⟩)
          | (go_split_ands
             exact ⟨hgr.cell ca hnp, hgr.cell cu hnp⟩))
        ((refine step_copy_bytes _ (by rfl) _ _ (by rfl) (.slice (some ⟨g, 0, none⟩) na na) g na U full harr (.inr rfl) _ _ _ _ _ _ _ (by rfl) (by rfl) hbD (by omega) (by omega) (fun h0 => by first | rfl | omega) ?_; intro w2 hown2 hgr))
      obtain ⟨cl2, hrow2, fl2, fu2⟩ : w2.cell? ⟨p, o + 2, none⟩ = some v ∧ w2.ownsRow 0 80 1 v rs.length xs ∧ w2.frozen? ⟨p, o + 2, none⟩ = false ∧ w2.frozen? ⟨p, o + 1, none⟩ = false := by
        refine ⟨hgr.cell cl hnp, ownsRow_move' h.row (fun k hk => hgr.block k (hlt k (hv k hk)) (fun e => hnv k hk e)), ?_, ?_⟩
        · rw [World.frozen?_of_block (hgr.block p hplt hnp)]; exact h.fl
        · rw [World.frozen?_of_block (hgr.block p hplt hnp)]; exact h.fu
      have ca2 := hgr.cell ca hnp
      have cu2 := hgr.cell cu hnp
      have hplt2 : p < w2.heap.size := Nat.lt_of_lt_of_le hplt hgr.size
      have HX : ∀ X w3, ((w2.alloc X).drew).grownBy w3 v.ownBlock → w3.cell? ⟨p, o + 2, none⟩ = some v ∧ w3.frozen? ⟨p, o + 2, none⟩ = false ∧ w3.cell? ⟨p, o + 1, none⟩ = some (.int .i64 (U : Nat)) ∧ w3.frozen? ⟨p, o + 1, none⟩ = false := fun X w3 hg3 => by
        have hb3 : w3.heap[p]? = w2.heap[p]? := (hg3.block p (by simp; omega) (fun e => h.vp e.symm)).trans ((World.grownBy_alloc w2 X none).block p hplt2 (by simp))
        exact ⟨by rw [World.cell?_of_block hb3]; exact cl2, by rw [World.frozen?_of_block hb3]; exact fl2, by rw [World.cell?_of_block hb3]; exact cu2, by rw [World.frozen?_of_block hb3]; exact fu2⟩
      have HH : Hid (PayAt w p o rs g na full (.slice (some ⟨g, 0, none⟩) na na) v xs ∧ (∀ k, (.slice (some ⟨g, 0, none⟩) na na : Value).ownBlock = some k → Fp k) ∧ (∀ k, v.ownBlock = some k → Fp k)) := ⟨h, hA, hv⟩
      have HG : Hid (w.grownBy w2 (.slice (some ⟨g, 0, none⟩) na na : Value).ownBlock) := ⟨hgr.os, hgr.tape, hgr.output, hgr.size, hgr.block⟩
      clear harr hbD hb h hA hv hgr ca cu cl hnp hnv
      go_wp2_with fail
      go_region_law ((refine step_push1 _ (by rfl) _ _ 151 80 j0 _ 24 (by rfl) Tryz.underlying151 hj hy0 hy1 hy2 rfl v rs.length xs (by rfl) ((hrow2.alloc _).drew) w2.heap.size (.slice (some ⟨g, U, none⟩) (((U : Int) + (m : Int)).toNat - U) (na - U)) (by rfl) (by simp) rfl (by unfold maxLen; omega) (by omega) ?_; intro v' w3 hown3 hgr3 hat3; obtain ⟨a3, c3, rfl, hs3⟩ := ownsRow_shape' hown3; obtain ⟨cl3, fl3, cu3, fu3⟩ := HX _ w3 hgr3))
      all_goals go_wp2
      all_goals go_end0
      all_goals refine ⟨rfl, ?_⟩
      all_goals
        have hE := add_end (l := l) HH.out.1 HH.out.2.1 HH.out.2.2 hpF hlt HG.out (by rw [← HU.out]; exact hown2) hgr3 hown3 (by simpa using hat3) ⟨_, _, by rw [show ((U : Int) + (m : Int)).toNat - U = l.length by omega], by omega, by simp, fun _ => by rw [HU.out]⟩ (by rw [← HU.out]; omega)
        rw [← HU.out, hll] at hE
      all_goals exact hE
    · obtain rfl : m = 0 := by omega
      obtain rfl : U = na := by omega
      have hbD : Bytes w.drew a 0 l := ⟨hb.1, hb.2⟩
      rcases h.sh with ⟨e, h0⟩ | e
      · cases e
        have harr : w.drew.ownsRow 0 5 1 (.slice none 0 0) 0 (cellsOf full) := h.arr
        have hnp : ¬ some p = (Value.slice none 0 0).ownBlock := fun e => by cases e
        have hnv : ∀ k, v.ownBlock = some k → ¬ some k = (Value.slice none 0 0).ownBlock := fun k hk e => by cases e
        clear hI
        go_enter Tryz.func96, Tryz.ntmps96
        go_wp2_with fail
        go_region_held3 (fun W => W.cell? ⟨p, o, none⟩ = some (.slice none 0 0) ∧ W.cell? ⟨p, o + 1, none⟩ = some (.int .i64 (0 : Nat)))
          (first
            | (go_split_ands
               refine ⟨by go_keep, by go_keep⟩)
            | (go_split_ands
               exact ⟨hgr.cell ca hnp, hgr.cell cu hnp⟩))
          ((refine step_copy_bytes _ (by rfl) _ _ (by rfl) (.slice none 0 0) g 0 0 full harr (.inl rfl) _ _ _ _ _ _ _ (by rfl) (by rfl) hbD (by omega) (by omega) (fun h0 => by first | rfl | omega) ?_; intro w2 hown2 hgr))
        obtain ⟨cl2, hrow2, fl2, fu2⟩ : w2.cell? ⟨p, o + 2, none⟩ = some v ∧ w2.ownsRow 0 80 1 v rs.length xs ∧ w2.frozen? ⟨p, o + 2, none⟩ = false ∧ w2.frozen? ⟨p, o + 1, none⟩ = false := by
          refine ⟨hgr.cell cl hnp, ownsRow_move' h.row (fun k hk => hgr.block k (hlt k (hv k hk)) (fun e => hnv k hk e)), ?_, ?_⟩
          · rw [World.frozen?_of_block (hgr.block p hplt hnp)]; exact h.fl
          · rw [World.frozen?_of_block (hgr.block p hplt hnp)]; exact h.fu
        have ca2 := hgr.cell ca hnp
        have cu2 := hgr.cell cu hnp
        have hplt2 : p < w2.heap.size := Nat.lt_of_lt_of_le hplt hgr.size
        have HX : ∀ X w3, ((w2.alloc X).drew).grownBy w3 v.ownBlock → w3.cell? ⟨p, o + 2, none⟩ = some v ∧ w3.frozen? ⟨p, o + 2, none⟩ = false ∧ w3.cell? ⟨p, o + 1, none⟩ = some (.int .i64 (0 : Nat)) ∧ w3.frozen? ⟨p, o + 1, none⟩ = false := fun X w3 hg3 => by
          have hb3 : w3.heap[p]? = w2.heap[p]? := (hg3.block p (by simp; omega) (fun e => h.vp e.symm)).trans ((World.grownBy_alloc w2 X none).block p hplt2 (by simp))
          exact ⟨by rw [World.cell?_of_block hb3]; exact cl2, by rw [World.frozen?_of_block hb3]; exact fl2, by rw [World.cell?_of_block hb3]; exact cu2, by rw [World.frozen?_of_block hb3]; exact fu2⟩
        have HH : Hid (PayAt w p o rs g 0 full (.slice none 0 0) v xs ∧ (∀ k, (.slice none 0 0 : Value).ownBlock = some k → Fp k) ∧ (∀ k, v.ownBlock = some k → Fp k)) := ⟨h, hA, hv⟩
        have HG : Hid (w.grownBy w2 (.slice none 0 0 : Value).ownBlock) := ⟨hgr.os, hgr.tape, hgr.output, hgr.size, hgr.block⟩
        clear harr hbD hb h hA hv hgr ca cu cl hnp hnv
        go_wp2_with fail
        go_region_law ((refine step_push1 _ (by rfl) _ _ 151 80 j0 _ 24 (by rfl) Tryz.underlying151 hj hy0 hy1 hy2 rfl v rs.length xs (by rfl) ((hrow2.alloc _).drew) w2.heap.size (.slice none 0 0) (by rfl) (by simp) rfl (by unfold maxLen; omega) (by omega) ?_; intro v' w3 hown3 hgr3 hat3; obtain ⟨a3, c3, rfl, hs3⟩ := ownsRow_shape' hown3; obtain ⟨cl3, fl3, cu3, fu3⟩ := HX _ w3 hgr3))
        all_goals go_wp2
        all_goals go_end0
        all_goals refine ⟨rfl, ?_⟩
        all_goals
          have hE := add_end (l := l) HH.out.1 HH.out.2.1 HH.out.2.2 hpF hlt HG.out (by rw [← HU.out]; exact hown2) hgr3 hown3 (by simpa using hat3) ⟨_, _, by rw [show l.length = 0 by omega], by omega, fun _ => ⟨by omega, rfl⟩, fun h => by omega⟩ (by rw [← HU.out]; omega)
          rw [← HU.out, hll] at hE
        all_goals exact hE
      · cases e
        have hgp : ¬ g = p := h.gp rfl
        have harr : w.drew.ownsRow 0 5 1 (.slice (some ⟨g, 0, none⟩) U U) U (cellsOf full) := h.arr
        have hnp : ¬ some p = (Value.slice (some ⟨g, 0, none⟩) U U).ownBlock := fun e => hgp (by simpa [Value.ownBlock] using e.symm)
        have hnv : ∀ k, v.ownBlock = some k → ¬ some k = (Value.slice (some ⟨g, 0, none⟩) U U).ownBlock := fun k hk e => h.gv rfl (by rw [hk]; simpa [Value.ownBlock] using e)
        clear hI
        go_enter Tryz.func96, Tryz.ntmps96
        go_wp2_with fail
        go_region_held3 (fun W => W.cell? ⟨p, o, none⟩ = some (.slice (some ⟨g, 0, none⟩) U U) ∧ W.cell? ⟨p, o + 1, none⟩ = some (.int .i64 (U : Nat)))
          (first
            | (go_split_ands
               refine ⟨by go_keep, by go_keep⟩)
            | (go_split_ands
               exact ⟨hgr.cell ca hnp, hgr.cell cu hnp⟩))
          ((refine step_copy_bytes _ (by rfl) _ _ (by rfl) (.slice (some ⟨g, 0, none⟩) U U) g U U full harr (.inr rfl) _ _ _ _ _ _ _ (by rfl) (by rfl) hbD (by omega) (by omega) (fun h0 => by first | rfl | omega) ?_; intro w2 hown2 hgr))
        obtain ⟨cl2, hrow2, fl2, fu2⟩ : w2.cell? ⟨p, o + 2, none⟩ = some v ∧ w2.ownsRow 0 80 1 v rs.length xs ∧ w2.frozen? ⟨p, o + 2, none⟩ = false ∧ w2.frozen? ⟨p, o + 1, none⟩ = false := by
          refine ⟨hgr.cell cl hnp, ownsRow_move' h.row (fun k hk => hgr.block k (hlt k (hv k hk)) (fun e => hnv k hk e)), ?_, ?_⟩
          · rw [World.frozen?_of_block (hgr.block p hplt hnp)]; exact h.fl
          · rw [World.frozen?_of_block (hgr.block p hplt hnp)]; exact h.fu
        have ca2 := hgr.cell ca hnp
        have cu2 := hgr.cell cu hnp
        have hplt2 : p < w2.heap.size := Nat.lt_of_lt_of_le hplt hgr.size
        have HX : ∀ X w3, ((w2.alloc X).drew).grownBy w3 v.ownBlock → w3.cell? ⟨p, o + 2, none⟩ = some v ∧ w3.frozen? ⟨p, o + 2, none⟩ = false ∧ w3.cell? ⟨p, o + 1, none⟩ = some (.int .i64 (U : Nat)) ∧ w3.frozen? ⟨p, o + 1, none⟩ = false := fun X w3 hg3 => by
          have hb3 : w3.heap[p]? = w2.heap[p]? := (hg3.block p (by simp; omega) (fun e => h.vp e.symm)).trans ((World.grownBy_alloc w2 X none).block p hplt2 (by simp))
          exact ⟨by rw [World.cell?_of_block hb3]; exact cl2, by rw [World.frozen?_of_block hb3]; exact fl2, by rw [World.cell?_of_block hb3]; exact cu2, by rw [World.frozen?_of_block hb3]; exact fu2⟩
        have HH : Hid (PayAt w p o rs g U full (.slice (some ⟨g, 0, none⟩) U U) v xs ∧ (∀ k, (.slice (some ⟨g, 0, none⟩) U U : Value).ownBlock = some k → Fp k) ∧ (∀ k, v.ownBlock = some k → Fp k)) := ⟨h, hA, hv⟩
        have HG : Hid (w.grownBy w2 (.slice (some ⟨g, 0, none⟩) U U : Value).ownBlock) := ⟨hgr.os, hgr.tape, hgr.output, hgr.size, hgr.block⟩
        clear harr hbD hb h hA hv hgr ca cu cl hnp hnv
        go_wp2_with fail
        go_region_law ((refine step_push1 _ (by rfl) _ _ 151 80 j0 _ 24 (by rfl) Tryz.underlying151 hj hy0 hy1 hy2 rfl v rs.length xs (by rfl) ((hrow2.alloc _).drew) w2.heap.size (.slice (some ⟨g, 0, none⟩) 0 0) (by rfl) (by simp) rfl (by unfold maxLen; omega) (by omega) ?_; intro v' w3 hown3 hgr3 hat3; obtain ⟨a3, c3, rfl, hs3⟩ := ownsRow_shape' hown3; obtain ⟨cl3, fl3, cu3, fu3⟩ := HX _ w3 hgr3))
        all_goals go_wp2
        all_goals go_end0
        all_goals refine ⟨rfl, ?_⟩
        all_goals
          have hE := add_end (l := l) HH.out.1 HH.out.2.1 HH.out.2.2 hpF hlt HG.out (by rw [← HU.out]; exact hown2) hgr3 hown3 (by simpa using hat3) ⟨_, _, by rw [show l.length = 0 by omega], by omega, by simp, fun h => by omega⟩ (by rw [← HU.out]; omega)
          rw [← HU.out, hll] at hE
        all_goals exact hE

end Go.Proofs.YtncagdfbgpdhfaaGreat

/- The walks of Cut, Mend, Copy, and of the comparison of bytes. -/
namespace Go.Proofs.YtncagdfbgpdhfaaGreat
open Go.RowKit Go.Maps

theorem turn_fields {w : World} {p : Nat} {S : DG} {Fp : Nat → Prop} (hd : IsDisk w p S Fp) (v u : Value) : Turn Fp w ((w.setCell ⟨p, 2, none⟩ v).setCell ⟨p, 3, none⟩ u) :=
  ((turn_setCell w p 2 v).trans (turn_setCell _ p 3 u) (fun _ _ h => h)).wide (fun k hk => by subst hk; exact hd.fp)

theorem DiskAt.setCut {w : World} {p b : Nat} {M : DataW Value} {S : DG} {Fp : Nat → Prop} (h : DiskAt w p b M S Fp) (c : Bool) (n : Nat) (hn : n ≤ 9223372036854775807) :
    DiskAt ((w.setCell ⟨p, 2, none⟩ (.bool c)).setCell ⟨p, 3, none⟩ (.int .i64 n)) p b M { S with cut := c, left := n } Fp := by
  have h1 := h.field 2 (.bool c) (by decide) { S with cut := c } rfl rfl h.hl (by rw [World.cell?_setCell_other _ _ _ _ (by simp)]; exact h.c1) (World.cell?_setCell_same _ _ _ h.c2) (by rw [World.cell?_setCell_other _ _ _ _ (by simp)]; exact h.c3)
  exact h1.field 3 (.int .i64 n) (by decide) { S with cut := c, left := n } rfl rfl hn (by rw [World.cell?_setCell_other _ _ _ _ (by simp)]; exact h1.c1) (by rw [World.cell?_setCell_other _ _ _ _ (by simp)]; exact h1.c2) (World.cell?_setCell_same _ _ _ h1.c3)

/-- the names of a map's files, each once -/
theorem strKeys_nodup {w : World} {b n : Nat} {M : DataW Value} (h : w.ownsMap Tryz.prog 9 rv b n M) : (strKeys M).Nodup ∧ ∀ x, x ∈ strKeys M ↔ has M (.string x) = true := by
  obtain ⟨es, hD, hpw, _⟩ := h.entries keyed
  obtain ⟨es', hD', hko⟩ := h.keysOf
  obtain rfl : es = es' := by rw [hD] at hD'; simpa using hD'
  subst hD
  have hk : ∀ q ∈ es, ∃ x, q.1 = .string x := fun q hq => by
    obtain ⟨v, hv⟩ := hko q hq
    obtain ⟨x, _, hx, _⟩ := Maps.keyOf_str Tryz.underlying9 hv
    exact ⟨x, hx⟩
  constructor
  · show (es.map fun q => strOf q.1).Nodup
    refine List.pairwise_map.2 (hpw.imp_of_mem fun {q r} hq hr hne e => hne ?_)
    obtain ⟨x, hx⟩ := hk q hq
    obtain ⟨y, hy⟩ := hk r hr
    rw [hx, hy] at e ⊢
    exact congrArg _ e
  · intro x
    rw [has_eq, List.any_eq_true]
    show x ∈ es.map (fun q => strOf q.1) ↔ _
    rw [List.mem_map]
    constructor
    · rintro ⟨q, hq, rfl⟩
      obtain ⟨y, hy⟩ := hk q hq
      exact ⟨q, hq, by rw [hy]; simp [Lit.sameKey, strOf]⟩
    · rintro ⟨q, hq, hs⟩
      obtain ⟨y, hy⟩ := hk q hq
      rw [hy] at hs
      exact ⟨q, hq, by rw [hy]; simpa [Lit.sameKey, strOf] using hs⟩
theorem strKeys_length {w : World} {b n : Nat} {M : DataW Value} (h : w.ownsMap Tryz.prog 9 rv b n M) : (strKeys M).length = size M := by
  obtain ⟨es, rfl⟩ := h.isMap
  simp [strKeys, size]
/-- two maps of files with the same names -/
theorem strKeys_same {w w' : World} {b b' n n' : Nat} {M M' : DataW Value} (h : w.ownsMap Tryz.prog 9 rv b n M) (h' : w'.ownsMap Tryz.prog 9 rv b' n' M') (hs : ∀ x, has M (.string x) = has M' (.string x)) : (strKeys M).Perm (strKeys M') := by
  obtain ⟨n1, m1⟩ := strKeys_nodup h
  obtain ⟨n2, m2⟩ := strKeys_nodup h'
  exact (List.perm_ext_iff_of_nodup n1 n2).2 fun x => by rw [m1, m2, hs]

theorem ranges_move {w w' : World} {b r n cnt : Nat} {M : DataW Value} {left : Lit → Bool} (h : w.ranges Tryz.prog 9 rv b r n M left cnt) (hb : w'.heap[b]? = w.heap[b]?) (hr : w'.heap[r]? = w.heap[r]?) : w'.ranges Tryz.prog 9 rv b r n M left cnt := by
  obtain ⟨es, clock, since, seen, c0, h1, F, h2, h3, h4, rest⟩ := h
  exact ⟨es, clock, since, seen, c0, hb.trans h1, F, h2, h3, hr.trans h4, rest⟩

theorem ownsRow_zero {w : World} {B n : Nat} {v : Value} {xs : List Value} (h : w.ownsRow B 5 1 v n xs) : w.ownsRow 0 5 1 v n xs := by
  refine ⟨h.1, ?_⟩
  rcases h.2 with h0 | ⟨g, cap, cur, rfl, _, h2⟩
  · exact .inl h0
  · exact .inr ⟨g, cap, cur, rfl, Nat.zero_le _, h2⟩

/-- a copy of a disk's files -/
def DG.copy (S : DG) : DG := ⟨S.f, S.n, 0, false, 0⟩

end Go.Proofs.YtncagdfbgpdhfaaGreat

/- Bytes turned into a string; the walk of the comparison of bytes; append under a guard; what pieces leave, in closed form. -/
namespace Go.Proofs.YtncagdfbgpdhfaaGreat
open Go.RowKit Go.Maps



set_option maxHeartbeats 1000000 in
theorem equal_any (w : World) (a b : Option Addr) (n m c d : Nat) (l k : List UInt8) (ha : Bytes w a n l) (hb : Bytes w b m k) :
    Calls Tryz.prog 77 #[.slice a n c, .slice b m d] w fun e w' => e = .returned (.bool (decide (l = k))) ∧ w' = w := by
  have r1 := run_string w a n c l ha
  have r2 := run_string w b m d k hb
  go_enter Tryz.func77, Tryz.ntmps77
  go_wp2
  go_ret
  refine ⟨?_, rfl⟩
  simp
  rw [Bool.eq_iff_iff]
  simp

theorem wpList_append_row_g (w : World) {ops : Array Oper} {rest : List Oper} {o : Oper} {a : Act} {Q : Exit → Act → World → Prop} (hgd : Region.wanted o (yielded ops a.tmps) = true) (s x : Operand)
    (ho : o.op = .call { callee := .builtin .append, args := #[s, x], argTypes := #[80, 80] })
    (v : Value) (n : Nat) (xs : List Value) (hs : a.eval s = v) (hown : w.ownsRow 0 5 1 v n xs) (ad : Option Addr) (m c : Nat) (l : List UInt8) (hx : a.eval x = .slice ad m c) (hb : Bytes w ad m l) (hnil : ad = none → m = 0 ∧ c = 0) (hm : n + m ≤ 140737488355328)
    (h : ∀ v' w', w'.ownsRow 0 5 1 v' (n + m) (xs ++ cellsOf l) → w.grownBy w' v.ownBlock → (v'.ownBlock = v.ownBlock ∨ v'.ownBlock = some w.heap.size) → wpList Tryz.prog ops Q rest (a.put o.dst v') w') : wpList Tryz.prog ops Q (o :: rest) a w := by
  unfold wpList
  rw [if_pos hgd]
  exact .inl (wp_append_row w s x ho v n xs hs hown ad m c l hx hb hnil hm h)

/-! ### what pieces leave -/
theorem add_add (S : DG) (nm l k : List UInt8) : (S.add nm l).add nm k = S.add nm (l ++ k) := by
  unfold DG.add DG.set
  simp only [if_true, Option.getD_some, Option.isSome_some, List.append_assoc]
  congr 1
  funext x
  split <;> rfl
theorem done_add (S : DG) (nm l : List UInt8) : (S.add nm l).done = S.done.add nm l := rfl
theorem add_wr (S : DG) (nm l : List UInt8) (n : Nat) : { S.add nm l with wr := n } = { S with wr := n }.add nm l := rfl

theorem pieces_free : ∀ (k : Nat) (S : DG) (nm l : List UInt8), S.cut = false → l.length + 1 ≤ k → pieces k S nm l = ({ S with wr := S.wr + (if l = [] then 1 else (l.length + 31) / 32) }.add nm l, 0) := by
  intro k
  induction k with
  | zero => intro S nm l _ h; omega
  | succ k ih =>
    intro S nm l hc h
    rw [pieces, if_pos (by simp [DG.can, hc])]
    split
    · rename_i h32
      have e : (if l = [] then 1 else (l.length + 31) / 32) = 1 := by
        split
        · rfl
        · rename_i h0
          have : l.length ≠ 0 := fun h' => h0 (List.eq_nil_of_length_eq_zero h')
          omega
      rw [e]
      simp [DG.done, hc]
    · rename_i h32
      rw [ih _ nm (l.drop 32) (by simp [DG.add, DG.set, DG.done, hc]) (by simp; omega)]
      have hne : l.drop 32 ≠ [] := fun h' => by have := congrArg List.length h'; simp at this; omega
      have hl0 : l ≠ [] := fun h' => by rw [h'] at h32; simp at h32
      rw [if_neg hne, if_neg hl0, add_wr]
      congr 1
      have e1 : (S.done.add nm (l.take 32)).wr + ((l.drop 32).length + 31) / 32 = S.wr + (l.length + 31) / 32 := by
        simp [DG.add, DG.set, DG.done]; omega
      rw [e1]
      have e2 : { S.done with wr := S.wr + (l.length + 31) / 32 } = { S with wr := S.wr + (l.length + 31) / 32 } := by simp [DG.done, hc]
      rw [e2, add_add, List.take_append_drop]

theorem pieces_cut : ∀ (k : Nat) (S : DG) (nm l : List UInt8), S.cut = true → l.length + 1 ≤ k → S.left * 32 < l.length → (pieces k S nm l).2 = 6 ∧ (pieces k S nm l).1.bs nm = S.bs nm ++ l.take (S.left * 32) ∧ (S.left = 0 → (pieces k S nm l).1 = S) := by
  intro k
  induction k with
  | zero => intro S nm l _ h; omega
  | succ k ih =>
    intro S nm l hc h hlt
    by_cases h0 : S.left = 0
    · rw [pieces, if_neg (by simp [DG.can, hc, h0])]
      simp [h0]
    · rw [pieces, if_pos (by simp [DG.can, hc, h0]), if_neg (by omega)]
      obtain ⟨h1, h2, _⟩ := ih (S.done.add nm (l.take 32)) nm (l.drop 32) (by simp [DG.add, DG.set, DG.done, hc]) (by simp; omega) (by simp [DG.add, DG.set, DG.done, hc]; omega)
      refine ⟨h1, ?_, fun h' => absurd h' h0⟩
      rw [h2]
      have e : (S.done.add nm (l.take 32)).left = S.left - 1 := by simp [DG.add, DG.set, DG.done, hc]
      have e1 : (S.done.add nm (l.take 32)).bs nm = S.bs nm ++ l.take 32 := by simp [DG.add, DG.set, DG.done, DG.bs]
      rw [e, e1, List.append_assoc]
      congr 1
      have : S.left * 32 = 32 + (S.left - 1) * 32 := by omega
      rw [this, List.take_add]

end Go.Proofs.YtncagdfbgpdhfaaGreat

/- The walks of Append. -/
namespace Go.Proofs.YtncagdfbgpdhfaaGreat
open Go.RowKit

theorem jappend_nil (w : World) (v : Value) : Calls Tryz.prog 78 #[.pointer none, v] w fun e w' => e = .returned (.int .i64 1) ∧ w' = w := by
  go_enter Tryz.func78, Tryz.ntmps78
  go_wp2
  go_ret
  exact ⟨rfl, rfl⟩

theorem jappend_cut (w : World) (j d : Nat) (nm : ByteArray) (rs : List (List UInt8)) (sz : Nat) (F : Nat → Prop) (h : JAt w j d nm rs sz true F) (v : Value) :
    Calls Tryz.prog 78 #[.pointer (some ⟨j, 0, none⟩), v] w fun e w' => e = .returned (.int .i64 6) ∧ w' = w := by
  have c6 := h.c6
  clear h
  go_enter Tryz.func78, Tryz.ntmps78
  go_wp2
  go_ret
  exact ⟨rfl, rfl⟩

theorem jappend_long (w : World) (j d : Nat) (nm : ByteArray) (rs : List (List UInt8)) (sz : Nat) (F : Nat → Prop) (h : JAt w j d nm rs sz false F) (a : Option Addr) (m c : Nat) (hm : 262144 < m) :
    Calls Tryz.prog 78 #[.pointer (some ⟨j, 0, none⟩), .slice a m c] w fun e w' => e = .returned (.int .i64 3) ∧ w' = w := by
  have c6 := h.c6
  have i1 : (262144 : Int) < (m : Int) := by omega
  clear h
  go_enter Tryz.func78, Tryz.ntmps78
  go_wp2
  go_ret
  exact ⟨rfl, rfl⟩

/-- what lies behind an Append to a Journal that is not cut -/
def Appended (w w' : World) (j d : Nat) (nm : ByteArray) (rs : List (List UInt8)) (sz : Nat) (F : Nat → Prop) (S : DG) (G : Nat → Prop) (l : List UInt8) (e : Ending) : Prop :=
  e = .returned (.int .i64 (S.app nm.data.toList (recB l)).2) ∧ Turn (fun k => F k ∨ G k) w w' ∧ ∃ F' G', IsDisk w' d (S.app nm.data.toList (recB l)).1 G' ∧ (∀ k, F' k → F k ∨ w.heap.size ≤ k) ∧ (∀ k, G' k → G k ∨ w.heap.size ≤ k) ∧ (∀ k, F' k → ¬ G' k) ∧
    (((S.app nm.data.toList (recB l)).2 = 0 ∧ JAt w' j d nm (rs ++ [l]) (sz + (recB l).length) false F') ∨ ((S.app nm.data.toList (recB l)).2 ≠ 0 ∧ JAt w' j d nm rs sz (decide ((S.app nm.data.toList (recB l)).2 = 6)) F'))

theorem app_ok {S : DG} {nm l : List UInt8} (h : (S.app nm l).2 = 0) : l.length + (S.bs nm).length ≤ 4194304 := by
  unfold DG.app at h
  split at h
  · cases h
  · split at h
    · cases h
    · rename_i h1 h2
      simp only [not_or] at h2
      omega

set_option maxRecDepth 20000 in
set_option maxHeartbeats 4000000 in
theorem jappend_any (w : World) (j d : Nat) (nm : ByteArray) (rs : List (List UInt8)) (sz : Nat) (F : Nat → Prop) (S : DG) (G : Nat → Prop) (h : JAt w j d nm rs sz false F) (hd : IsDisk w d S G) (hFG : ∀ k, F k → ¬ G k)
    (a : Option Addr) (m c : Nat) (l : List UInt8) (hb : Bytes w a m l) (hm : m ≤ 262144) (ha : 0 < m → ∀ x, a = some x → ¬ F x.block ∧ ¬ G x.block) (hs : nm.size ≤ maxLen) (hbs : (S.bs nm.data.toList).length ≤ 4194304) (hsz : sz ≤ (S.bs nm.data.toList).length) (hn : S.n ≤ 256) (hw : S.wr < 4000000000000000000) :
    Calls Tryz.prog 78 #[.pointer (some ⟨j, 0, none⟩), .slice a m c] w fun e w' => Appended w w' j d nm rs sz F S G l e := by
  have c6 := h.c6
  have i1 : ¬ (262144 : Int) < (m : Int) := by omega
  have hll := hb.1
  have hlt := h.lt
  have hdlt := hd.lt
  go_enter Tryz.func78, Tryz.ntmps78
  go_wp2_with fail
  refine (form_any a m c l w hb (by omega)).mono ?_
  rintro e w0 ⟨g, c1, rfl, hown0, hB0⟩
  obtain ⟨w1, hw1⟩ : ∃ w1, w1 = w0.drew := ⟨_, rfl⟩
  have hown1 : w1.ownsRow w.heap.size 5 1 (.slice (some ⟨g, 0, none⟩) (recB l).length c1) (recB l).length (cellsOf (recB l)) := by rw [hw1]; exact hown0.drew
  have hB1 : Below w.heap.size w w1 := by rw [hw1]; exact ⟨hB0.os, hB0.tape, hB0.output, hB0.size, hB0.block⟩
  have c00 : w0.cell? ⟨j, 0, none⟩ = some (.pointer (some ⟨d, 0, none⟩)) := (h.below hB0).c0
  have c01 : w0.cell? ⟨j, 1, none⟩ = some (.string nm) := (h.below hB0).c1
  clear hown0 hB0
  have hJ1 := h.below hB1
  have hd1 := hd.below hB1
  have hb1 : Bytes w1 a m l := (Turn.of_below (fun _ => False) hB1).bytes hb (fun _ _ _ => id)
  obtain ⟨hbr, hgr⟩ := ownsRow_toBytes hown1
  have hgb := hgr _ rfl
  obtain ⟨_, _, e1, hnc1, _⟩ := ownsRow_shape hown1
  cases e1
  have hx2 := append_any d S G w1 nm (some ⟨g, 0, none⟩) (recB l).length c1 (recB l) hd1 hs hbr hnc1 (by simp) (fun _ x hx => by cases hx; exact ⟨fun hg => by have := hdlt _ hg; simp only at this hgb; omega, hgb.2⟩) hbs hn hw (by have := (recB_pos l).2; omega)
  have hc0 := hJ1.c0
  have hc1 := hJ1.c1
  have hjG : ¬ G j := hFG j hJ1.fj
  have hs1 := hB1.size
  obtain ⟨er, her⟩ : ∃ er, er = (S.app nm.data.toList (recB l)).2 := ⟨_, rfl⟩
  obtain ⟨N, hN⟩ : ∃ N, N = (recB l).length := ⟨_, rfl⟩
  have HE : Hid (er = (S.app nm.data.toList (recB l)).2 ∧ N = (recB l).length) := ⟨her, hN⟩
  rw [← her, ← hN] at hx2
  rw [← hN]
  clear h hd hb hown1 hbr hgr hgb hnc1 c6 hN her
  go_wp2_with fail
  rw [hw1] at hx2
  go_region_held3 (fun W => W.cell? ⟨j, 0, none⟩ = some (.pointer (some ⟨d, 0, none⟩)) ∧ W.cell? ⟨j, 1, none⟩ = some (.string nm))
    (first
      | (go_split_ands
         refine ⟨by go_keep, by go_keep⟩)
      | (go_split_ands
         exact ⟨hT2.cell c00 hjG, hT2.cell c01 hjG⟩))
    ((go_at_call 107; refine hx2.mono ?_; rintro e w2 ⟨rfl, hd2, hT2⟩))
  rw [← hw1] at hd2 hT2
  clear hx2 hw1 c00 c01
  have hJ2 := hJ1.turn hT2 hFG
  have HT2 : Hid (Turn (fun k => F k ∨ G k) w w2) := (Turn.of_below _ hB1).trans hT2 (fun i _ h => .inr h)
  by_cases h0 : er = 0
  · have hok := app_ok (S := S) (nm := nm.data.toList) (l := recB l) (by rw [← HE.out.1]; exact h0)
    have hrl := recB_pos l
    have hcnt := hJ2.cnt
    have HD2 : Hid (IsDisk w2 d (S.app nm.data.toList (recB l)).1 (grow G w1 w2)) := hd2
    have HJ2 : Hid (JAt w2 j d nm rs sz false F) := hJ2
    have Hdis : Hid (∀ k, F k → ¬ grow G w1 w2 k) := fun k hk hg => hg.elim (hFG k hk) (fun h => by have := hlt k hk; omega)
    have Hok : Hid (sz + (recB l).length ≤ 4194304 ∧ 9 + l.length ≤ (recB l).length) := ⟨by omega, hrl.1⟩
    have hx3 := add_any j 2 rs F w2 a m c l hJ2.pay hJ2.fj hJ2.lt (hT2.bytes hb1 (fun h0 x hx => (ha h0 x hx).2)) (fun h0 x hx => (ha h0 x hx).1) (by omega) (by omega)
    subst h0
    clear hJ2 hd2 hT2 hJ1 hd1 hb1 hok hrl hcnt
    go_wp2_with fail
    refine hx3.mono ?_
    rintro e w3 ⟨rfl, hp3, hT3, hR3⟩
    have c5 : w3.cell? ⟨j, 5, none⟩ = some (.int .i64 sz) := (hR3.1 5 (by decide) (by decide) (by decide)).trans HJ2.out.c5
    have f5 : w3.frozen? ⟨j, 5, none⟩ = false := (hR3.2 5).trans HJ2.out.f5
    have hsm := HJ2.out.small
    have HA : Hid (∀ z : Int, z = ((sz + (recB l).length : Nat) : Int) → JAt (w3.setCell ⟨j, 5, none⟩ (.int .i64 z)) j d nm (rs ++ [l]) (sz + (recB l).length) false (grow F w2 w3) ∧ Turn F w2 (w3.setCell ⟨j, 5, none⟩ (.int .i64 z))) := fun z hz => HJ2.out.added hp3 hT3 hR3 _ Hok.out.2 Hok.out.1 z hz
    have hNs : N ≤ 4194304 := by have := HE.out.2; have := Hok.out.1; omega
    have hlt2 := HD2.out.lt
    clear hx3 hp3 hR3
    have hs3 := hT3.size
    have hs2 := HT2.out.size
    clear hT3
    go_wp2
    go_ret
    have hA := HA.out _ (show (sz : Int) + (N : Int) = ((sz + (recB l).length : Nat) : Int) by rw [← HE.out.2]; omega)
    have hEq := HE.out.1
    refine ⟨by rw [← hEq]; rfl, HT2.out.trans hA.2 (fun i _ h => .inl h), grow F w2 w3, grow G w1 w2, HD2.out.turn hA.2 (fun k hk hf => Hdis.out k hf hk), fun k hk => hk.imp id (fun h => by omega), fun k hk => hk.imp id (fun h => by omega), fun k hk hg => hk.elim (fun h => Hdis.out k h hg) (fun h => by have := hlt2 k hg; omega), .inl ⟨hEq.symm, hA.1⟩⟩
  · have h0' : (er != 0) = true := by simpa using h0
    have c6 := hJ2.c6
    have f6 := hJ2.f6
    have HM : Hid (∀ b, JAt (w2.setCell ⟨j, 6, none⟩ (.bool b)) j d nm rs sz b F ∧ Turn F w2 (w2.setCell ⟨j, 6, none⟩ (.bool b))) := fun b => hJ2.mark b
    have HD2 : Hid (IsDisk w2 d (S.app nm.data.toList (recB l)).1 (grow G w1 w2)) := hd2
    have Hdis : Hid (∀ k, F k → ¬ grow G w1 w2 k) := fun k hk hg => hg.elim (hFG k hk) (fun h => by have := hlt k hk; omega)
    clear hJ2 hd2 hT2 hJ1 hd1 hb1
    go_wp2
    go_ret
    have hM := HM.out (er == 6)
    have hEq := HE.out.1
    refine ⟨by rw [← hEq]; rfl, HT2.out.trans hM.2 (fun i _ h => .inl h), F, grow G w1 w2, HD2.out.turn hM.2 (fun k hk hf => Hdis.out k hf hk), fun k hk => .inl hk, fun k hk => hk.imp id (fun h => by omega), Hdis.out, .inr ⟨by rw [← hEq]; exact h0, ?_⟩⟩
    rw [← hEq]
    exact hM.1

end Go.Proofs.YtncagdfbgpdhfaaGreat

/- Plain: what a read of each kind makes of the bytes that are left and of the error: the rest, the error, the number told, the bytes told. -/
namespace Go.Proofs.YtncagdfbgpdhfaaGreat
open Go.RowKit

structure Out where
  rest : List UInt8
  err : Int
  num : Int
  bytes : List UInt8

def Out.no (l : List UInt8) (e : Int) : Out := ⟨l, e, 0, []⟩

def outB (l : List UInt8) : Out := if l.length = 0 then .no l 110 else ⟨l.drop 1, 0, bt l 0, []⟩
def outU (l : List UInt8) : Out := if (num l).2.2 ≠ 0 then .no l (num l).2.2 else ⟨l.drop (num l).2.1, 0, (num l).1, []⟩
def outW (l : List UInt8) : Out := if l.length < 8 then .no l 110 else ⟨l.drop 8, 0, wideVal l 8, []⟩
def outT (l : List UInt8) (m : Int) : Out := if (txt l m).2.2 ≠ 0 then .no l (txt l m).2.2 else ⟨l.drop (txt l m).2.1, 0, 0, (l.take (txt l m).2.1).drop (txt l m).1⟩
def outR (l : List UInt8) (m : Int) : Out := if m < 0 then .no l 2 else if (l.length : Int) < m then .no l 110 else ⟨l.drop m.toNat, 0, 0, l.take m.toNat⟩

/-- a read of kind k, with the number m, of a reader whose error is e -/
def outOf (k m : Int) (l : List UInt8) (e : Int) : Out :=
  if e ≠ 0 then .no l e
  else if k = 0 then outB l else if k = 1 then outU l else if k = 2 then outW l else if k = 3 then outT l m else outR l m

theorem wideVal_take (l : List UInt8) (j : Nat) : ∀ k, k ≤ j → wideVal (l.take j) k = wideVal l k := by
  intro k
  induction k with
  | zero => intro _; rfl
  | succ k ih => intro h; rw [wideVal_succ, wideVal_succ, ih (by omega), bt_take _ _ _ (by omega)]

end Go.Proofs.YtncagdfbgpdhfaaGreat
