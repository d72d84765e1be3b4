import Derived.Test.YtdjodigimhgklaaGreatDoorMD13
import Derived.Test.YtdjodigimhgklaaGreatDoorMD12
import Derived.Test.YtdjodigimhgklaaGreatDoorMD07
import Derived.Test.YtdjodigimhgklaaGreatDoorMD10
import Derived.Test.YtdjodigimhgklaaGreatDoorMD05
import Derived.Test.YtdjodigimhgklaaGreatDoorMD09
/- The walk of the method that puts a payload behind the others. -/
namespace Go.Proofs.YtdjodigimhgklaaGreatDoor
open Go.RowKit

theorem grow_grow {w w1 W : World} {Fp : Nat → Prop} {k : Nat} (h : grow (grow Fp w w1) w1 W k) (hs : w.heap.size ≤ w1.heap.size) (hs' : w1.heap.size ≤ W.heap.size) : grow Fp w W k := by
  rcases h with (h | h) | h
  · exact .inl h
  · exact .inr ⟨h.1, by omega⟩
  · exact .inr ⟨by omega, h.2⟩

theorem IsPay.wide {w : World} {p o : Nat} {rs : List (List UInt8)} {Fp Gp : Nat → Prop} (h : IsPay w p o rs Fp) (hs : ∀ k, Fp k → Gp k) : IsPay w p o rs Gp := by
  obtain ⟨g, na, full, A, v, xs, h, h1, h2⟩ := h
  exact ⟨g, na, full, A, v, xs, h, fun k hk => hs k (h1 k hk), fun k hk => hs k (h2 k hk)⟩

set_option maxRecDepth 20000 in
set_option maxHeartbeats 4000000 in
theorem add_any (p o : Nat) (rs : List (List UInt8)) (Fp : Nat → Prop) (w : World) (a : Option Addr) (m c : Nat) (l : List UInt8) (h : IsPay w p o rs Fp) (hp : Fp p) (hlt : ∀ k, Fp k → k < w.heap.size)
    (hb : Bytes w a m l) (ha : 0 < m → ∀ x, a = some x → ¬ Fp x.block) (hmax : rs.flatten.length + m ≤ 4194304) (hcnt : rs.length ≤ 8388608) :
    Calls Tryz.prog 118 #[.pointer (some ⟨p, o, none⟩), .slice a m c] w fun e w' => e = .returned (.tuple #[]) ∧ IsPay w' p o (rs ++ [l]) (grow Fp w w') ∧ Turn Fp w w' ∧ Rest p o w w' := by
  have hI := h
  obtain ⟨g, na, full, A, v, xs, h, hA, hv⟩ := h
  have ca := h.ca
  have cu := h.cu
  have cl := h.cl
  have fit := h.fit
  have hll := hb.1
  obtain ⟨ad, rfl⟩ : ∃ ad, A = .slice ad na na := by
    rcases h.sh with ⟨rfl, rfl⟩ | rfl
    · exact ⟨_, rfl⟩
    · exact ⟨_, rfl⟩
  obtain ⟨U, hU⟩ : ∃ U, U = rs.flatten.length := ⟨_, rfl⟩
  have HU : Hid (U = rs.flatten.length) := hU
  rw [← hU] at cu fit hmax
  clear hU
  obtain ⟨j0, hj, hy0, hy1, hy2⟩ := info_parts Tryz.info33
  by_cases hbig : na < U + m
  · have i1 : (na : Int) < (U : Int) + (m : Int) := by omega
    go_enter Tryz.func118, Tryz.ntmps118
    go_wp2_with fail
    rw [show (2 * ((U : Int) + (m : Int))) = ((2 * (U + m) : Nat) : Int) by omega]
    refine (move_any p o (2 * (U + m)) rs Fp w hI hp hlt (by rw [← HU.out]; omega) (by omega)).mono ?_
    rintro e w1 ⟨rfl, hN, hT1, hR1⟩
    have HR1 : Hid (Rest p o w w1) := hR1
    clear hR1
    have hb1 : Bytes w1 a m l := hT1.bytes hb ha
    have hnaM : U < 2 * (U + m) ∧ U + m ≤ 2 * (U + m) ∧ 2 * (U + m) ≤ 16777216 := by omega
    have HT1 : Hid (Turn Fp w w1) := hT1
    have Hb1 : Hid (Bytes w1 a m l) := hb1
    clear h hA hv ca cu cl i1 hbig fit hb hI hT1 hb1
    clear full xs
    obtain ⟨NA, hNA⟩ : ∃ NA, NA = 2 * (U + m) := ⟨_, rfl⟩
    rw [← hNA] at hN hnaM
    clear hNA
    obtain ⟨g, full, v, xs, h, hA, hv⟩ := hN
    obtain ⟨na, hna⟩ : ∃ na, na = NA := ⟨_, rfl⟩
    subst hna
    have ca := h.ca
    have cu := h.cu
    have cl := h.cl
    rw [← HU.out] at cu
    have i2 : (U : Int) ≤ (na : Int) := by omega
    have i3 : (U : Int) + (m : Int) ≤ (na : Int) := by omega
    have i4 : (U : Int) ≤ (U : Int) + (m : Int) := by omega
    have i5 : ¬ na = U := by omega
    have hpF : grow Fp w w1 p := .inl hp
    have hlt1 : ∀ k, grow Fp w w1 k → k < w1.heap.size := fun k hk => hk.elim (fun h => Nat.lt_of_lt_of_le (hlt k h) HT1.out.size) (fun h => h.2)
    have hplt : p < w1.heap.size := hlt1 p hpF
    have hgp : ¬ g = p := h.gp rfl
    have hbD : Bytes w1.drew a m l := ⟨Hb1.out.1, Hb1.out.2⟩
    have hb := Hb1.out
    have harr : w1.drew.ownsRow 0 5 1 (.slice (some ⟨g, 0, none⟩) na na) na (cellsOf full) := h.arr
    have hnp : ¬ some p = (Value.slice (some ⟨g, 0, none⟩) na na).ownBlock := fun e => hgp (by simpa [Value.ownBlock] using e.symm)
    have hnv : ∀ k, v.ownBlock = some k → ¬ some k = (Value.slice (some ⟨g, 0, none⟩) na na).ownBlock := fun k hk e => h.gv rfl (by rw [hk]; simpa [Value.ownBlock] using e)
    go_wp2_with fail
    go_region_held3 (fun W => W.cell? ⟨p, o, none⟩ = some (.slice (some ⟨g, 0, none⟩) na na) ∧ W.cell? ⟨p, o + 1, none⟩ = some (.int .i64 (U : Nat)))
      (first
        | (go_split_ands
           refine ⟨by go_keep, by go_keep⟩)
        | (go_split_ands
           exact ⟨hgr.cell ca hnp, hgr.cell cu hnp⟩))
      ((refine step_copy_bytes _ (by rfl) _ _ (by rfl) (.slice (some ⟨g, 0, none⟩) na na) g na U full harr (.inr rfl) _ _ _ _ _ _ _ (by rfl) (by rfl) hbD (by omega) (by omega) (fun h0 => by first | rfl | omega) ?_; intro w2 hown2 hgr))
    obtain ⟨cl2, hrow2, fl2, fu2⟩ : w2.cell? ⟨p, o + 2, none⟩ = some v ∧ w2.ownsRow 0 33 1 v rs.length xs ∧ w2.frozen? ⟨p, o + 2, none⟩ = false ∧ w2.frozen? ⟨p, o + 1, none⟩ = false := by
      refine ⟨hgr.cell cl hnp, ownsRow_move' h.row (fun k hk => hgr.block k (hlt1 k (hv k hk)) (fun e => hnv k hk e)), ?_, ?_⟩
      · rw [World.frozen?_of_block (hgr.block p hplt hnp)]; exact h.fl
      · rw [World.frozen?_of_block (hgr.block p hplt hnp)]; exact h.fu
    have ca2 := hgr.cell ca hnp
    have cu2 := hgr.cell cu hnp
    have hplt2 : p < w2.heap.size := Nat.lt_of_lt_of_le hplt hgr.size
    have HX : ∀ X w3, ((w2.alloc X).drew).grownBy w3 v.ownBlock → w3.cell? ⟨p, o + 2, none⟩ = some v ∧ w3.frozen? ⟨p, o + 2, none⟩ = false ∧ w3.cell? ⟨p, o + 1, none⟩ = some (.int .i64 (U : Nat)) ∧ w3.frozen? ⟨p, o + 1, none⟩ = false := fun X w3 hg3 => by
      have hb3 : w3.heap[p]? = w2.heap[p]? := (hg3.block p (by simp; omega) (fun e => h.vp e.symm)).trans ((World.grownBy_alloc w2 X none).block p hplt2 (by simp))
      exact ⟨by rw [World.cell?_of_block hb3]; exact cl2, by rw [World.frozen?_of_block hb3]; exact fl2, by rw [World.cell?_of_block hb3]; exact cu2, by rw [World.frozen?_of_block hb3]; exact fu2⟩
    have HH : Hid (PayAt w1 p o rs g na full (.slice (some ⟨g, 0, none⟩) na na) v xs ∧ (∀ k, (.slice (some ⟨g, 0, none⟩) na na : Value).ownBlock = some k → (grow Fp w w1) k) ∧ (∀ k, v.ownBlock = some k → (grow Fp w w1) k)) := ⟨h, hA, hv⟩
    have HG : Hid (w1.grownBy w2 (.slice (some ⟨g, 0, none⟩) na na : Value).ownBlock) := ⟨hgr.os, hgr.tape, hgr.output, hgr.size, hgr.block⟩
    clear harr hbD hb h hA hv hgr ca cu cl hnp hnv
    go_wp2_with fail
    go_region_law ((refine step_push1 _ (by rfl) _ _ 52 33 j0 _ 24 (by rfl) Tryz.underlying52 hj hy0 hy1 hy2 rfl v rs.length xs (by rfl) ((hrow2.alloc _).drew) w2.heap.size (.slice (some ⟨g, U, none⟩) (((U : Int) + (m : Int)).toNat - U) (na - U)) (by rfl) (by simp) rfl (by unfold maxLen; omega) (by omega) ?_; intro v' w3 hown3 hgr3 hat3; obtain ⟨a3, c3, rfl, hs3⟩ := ownsRow_shape' hown3; obtain ⟨cl3, fl3, cu3, fu3⟩ := HX _ w3 hgr3))
    all_goals go_wp2
    all_goals go_end0
    all_goals refine ⟨rfl, ?_⟩
    all_goals
      have hE := add_end (l := l) HH.out.1 HH.out.2.1 HH.out.2.2 hpF hlt1 HG.out (by rw [← HU.out]; exact hown2) hgr3 hown3 (by simpa using hat3) ⟨_, _, by rw [show ((U : Int) + (m : Int)).toNat - U = l.length by omega], by omega, by simp, fun _ => by rw [HU.out]⟩ (by rw [← HU.out]; omega)
      rw [← HU.out, hll] at hE
    all_goals
      have hT := HT1.out.trans hE.2.1 (fun i hi h => h.elim id (fun h1 => by omega))
      exact ⟨hE.1.wide (fun k hk => grow_grow hk HT1.out.size hE.2.1.size), hT, HR1.out.trans hE.2.2⟩
  · have i1 : ¬ (na : Int) < (U : Int) + (m : Int) := by omega
    have hpF := hp
    have hplt := hlt p hp
    by_cases hUn : U < na
    · have i2 : (U : Int) ≤ (na : Int) := by omega
      have i3 : (U : Int) + (m : Int) ≤ (na : Int) := by omega
      have i4 : (U : Int) ≤ (U : Int) + (m : Int) := by omega
      have i5 : ¬ na = U := by omega
      have hbD : Bytes w.drew a m l := ⟨hb.1, hb.2⟩
      obtain rfl : ad = some ⟨g, 0, none⟩ := by
        rcases h.sh with ⟨_, h0⟩ | e
        · omega
        · cases e; rfl
      have hgp : ¬ g = p := h.gp rfl
      have harr : w.drew.ownsRow 0 5 1 (.slice (some ⟨g, 0, none⟩) na na) na (cellsOf full) := h.arr
      have hnp : ¬ some p = (Value.slice (some ⟨g, 0, none⟩) na na).ownBlock := fun e => hgp (by simpa [Value.ownBlock] using e.symm)
      have hnv : ∀ k, v.ownBlock = some k → ¬ some k = (Value.slice (some ⟨g, 0, none⟩) na na).ownBlock := fun k hk e => h.gv rfl (by rw [hk]; simpa [Value.ownBlock] using e)
      clear hI
      go_enter Tryz.func118, Tryz.ntmps118
      go_wp2_with fail
      go_region_held3 (fun W => W.cell? ⟨p, o, none⟩ = some (.slice (some ⟨g, 0, none⟩) na na) ∧ W.cell? ⟨p, o + 1, none⟩ = some (.int .i64 (U : Nat)))
        (first
          | (go_split_ands
             refine ⟨by go_keep, by go_keep⟩)
          | (go_split_ands
             exact ⟨hgr.cell ca hnp, hgr.cell cu hnp⟩))
        ((refine step_copy_bytes _ (by rfl) _ _ (by rfl) (.slice (some ⟨g, 0, none⟩) na na) g na U full harr (.inr rfl) _ _ _ _ _ _ _ (by rfl) (by rfl) hbD (by omega) (by omega) (fun h0 => by first | rfl | omega) ?_; intro w2 hown2 hgr))
      obtain ⟨cl2, hrow2, fl2, fu2⟩ : w2.cell? ⟨p, o + 2, none⟩ = some v ∧ w2.ownsRow 0 33 1 v rs.length xs ∧ w2.frozen? ⟨p, o + 2, none⟩ = false ∧ w2.frozen? ⟨p, o + 1, none⟩ = false := by
        refine ⟨hgr.cell cl hnp, ownsRow_move' h.row (fun k hk => hgr.block k (hlt k (hv k hk)) (fun e => hnv k hk e)), ?_, ?_⟩
        · rw [World.frozen?_of_block (hgr.block p hplt hnp)]; exact h.fl
        · rw [World.frozen?_of_block (hgr.block p hplt hnp)]; exact h.fu
      have ca2 := hgr.cell ca hnp
      have cu2 := hgr.cell cu hnp
      have hplt2 : p < w2.heap.size := Nat.lt_of_lt_of_le hplt hgr.size
      have HX : ∀ X w3, ((w2.alloc X).drew).grownBy w3 v.ownBlock → w3.cell? ⟨p, o + 2, none⟩ = some v ∧ w3.frozen? ⟨p, o + 2, none⟩ = false ∧ w3.cell? ⟨p, o + 1, none⟩ = some (.int .i64 (U : Nat)) ∧ w3.frozen? ⟨p, o + 1, none⟩ = false := fun X w3 hg3 => by
        have hb3 : w3.heap[p]? = w2.heap[p]? := (hg3.block p (by simp; omega) (fun e => h.vp e.symm)).trans ((World.grownBy_alloc w2 X none).block p hplt2 (by simp))
        exact ⟨by rw [World.cell?_of_block hb3]; exact cl2, by rw [World.frozen?_of_block hb3]; exact fl2, by rw [World.cell?_of_block hb3]; exact cu2, by rw [World.frozen?_of_block hb3]; exact fu2⟩
      have HH : Hid (PayAt w p o rs g na full (.slice (some ⟨g, 0, none⟩) na na) v xs ∧ (∀ k, (.slice (some ⟨g, 0, none⟩) na na : Value).ownBlock = some k → Fp k) ∧ (∀ k, v.ownBlock = some k → Fp k)) := ⟨h, hA, hv⟩
      have HG : Hid (w.grownBy w2 (.slice (some ⟨g, 0, none⟩) na na : Value).ownBlock) := ⟨hgr.os, hgr.tape, hgr.output, hgr.size, hgr.block⟩
      clear harr hbD hb h hA hv hgr ca cu cl hnp hnv
      go_wp2_with fail
      go_region_law ((refine step_push1 _ (by rfl) _ _ 52 33 j0 _ 24 (by rfl) Tryz.underlying52 hj hy0 hy1 hy2 rfl v rs.length xs (by rfl) ((hrow2.alloc _).drew) w2.heap.size (.slice (some ⟨g, U, none⟩) (((U : Int) + (m : Int)).toNat - U) (na - U)) (by rfl) (by simp) rfl (by unfold maxLen; omega) (by omega) ?_; intro v' w3 hown3 hgr3 hat3; obtain ⟨a3, c3, rfl, hs3⟩ := ownsRow_shape' hown3; obtain ⟨cl3, fl3, cu3, fu3⟩ := HX _ w3 hgr3))
      all_goals go_wp2
      all_goals go_end0
      all_goals refine ⟨rfl, ?_⟩
      all_goals
        have hE := add_end (l := l) HH.out.1 HH.out.2.1 HH.out.2.2 hpF hlt HG.out (by rw [← HU.out]; exact hown2) hgr3 hown3 (by simpa using hat3) ⟨_, _, by rw [show ((U : Int) + (m : Int)).toNat - U = l.length by omega], by omega, by simp, fun _ => by rw [HU.out]⟩ (by rw [← HU.out]; omega)
        rw [← HU.out, hll] at hE
      all_goals exact hE
    · obtain rfl : m = 0 := by omega
      obtain rfl : U = na := by omega
      have hbD : Bytes w.drew a 0 l := ⟨hb.1, hb.2⟩
      rcases h.sh with ⟨e, h0⟩ | e
      · cases e
        have harr : w.drew.ownsRow 0 5 1 (.slice none 0 0) 0 (cellsOf full) := h.arr
        have hnp : ¬ some p = (Value.slice none 0 0).ownBlock := fun e => by cases e
        have hnv : ∀ k, v.ownBlock = some k → ¬ some k = (Value.slice none 0 0).ownBlock := fun k hk e => by cases e
        clear hI
        go_enter Tryz.func118, Tryz.ntmps118
        go_wp2_with fail
        go_region_held3 (fun W => W.cell? ⟨p, o, none⟩ = some (.slice none 0 0) ∧ W.cell? ⟨p, o + 1, none⟩ = some (.int .i64 (0 : Nat)))
          (first
            | (go_split_ands
               refine ⟨by go_keep, by go_keep⟩)
            | (go_split_ands
               exact ⟨hgr.cell ca hnp, hgr.cell cu hnp⟩))
          ((refine step_copy_bytes _ (by rfl) _ _ (by rfl) (.slice none 0 0) g 0 0 full harr (.inl rfl) _ _ _ _ _ _ _ (by rfl) (by rfl) hbD (by omega) (by omega) (fun h0 => by first | rfl | omega) ?_; intro w2 hown2 hgr))
        obtain ⟨cl2, hrow2, fl2, fu2⟩ : w2.cell? ⟨p, o + 2, none⟩ = some v ∧ w2.ownsRow 0 33 1 v rs.length xs ∧ w2.frozen? ⟨p, o + 2, none⟩ = false ∧ w2.frozen? ⟨p, o + 1, none⟩ = false := by
          refine ⟨hgr.cell cl hnp, ownsRow_move' h.row (fun k hk => hgr.block k (hlt k (hv k hk)) (fun e => hnv k hk e)), ?_, ?_⟩
          · rw [World.frozen?_of_block (hgr.block p hplt hnp)]; exact h.fl
          · rw [World.frozen?_of_block (hgr.block p hplt hnp)]; exact h.fu
        have ca2 := hgr.cell ca hnp
        have cu2 := hgr.cell cu hnp
        have hplt2 : p < w2.heap.size := Nat.lt_of_lt_of_le hplt hgr.size
        have HX : ∀ X w3, ((w2.alloc X).drew).grownBy w3 v.ownBlock → w3.cell? ⟨p, o + 2, none⟩ = some v ∧ w3.frozen? ⟨p, o + 2, none⟩ = false ∧ w3.cell? ⟨p, o + 1, none⟩ = some (.int .i64 (0 : Nat)) ∧ w3.frozen? ⟨p, o + 1, none⟩ = false := fun X w3 hg3 => by
          have hb3 : w3.heap[p]? = w2.heap[p]? := (hg3.block p (by simp; omega) (fun e => h.vp e.symm)).trans ((World.grownBy_alloc w2 X none).block p hplt2 (by simp))
          exact ⟨by rw [World.cell?_of_block hb3]; exact cl2, by rw [World.frozen?_of_block hb3]; exact fl2, by rw [World.cell?_of_block hb3]; exact cu2, by rw [World.frozen?_of_block hb3]; exact fu2⟩
        have HH : Hid (PayAt w p o rs g 0 full (.slice none 0 0) v xs ∧ (∀ k, (.slice none 0 0 : Value).ownBlock = some k → Fp k) ∧ (∀ k, v.ownBlock = some k → Fp k)) := ⟨h, hA, hv⟩
        have HG : Hid (w.grownBy w2 (.slice none 0 0 : Value).ownBlock) := ⟨hgr.os, hgr.tape, hgr.output, hgr.size, hgr.block⟩
        clear harr hbD hb h hA hv hgr ca cu cl hnp hnv
        go_wp2_with fail
        go_region_law ((refine step_push1 _ (by rfl) _ _ 52 33 j0 _ 24 (by rfl) Tryz.underlying52 hj hy0 hy1 hy2 rfl v rs.length xs (by rfl) ((hrow2.alloc _).drew) w2.heap.size (.slice none 0 0) (by rfl) (by simp) rfl (by unfold maxLen; omega) (by omega) ?_; intro v' w3 hown3 hgr3 hat3; obtain ⟨a3, c3, rfl, hs3⟩ := ownsRow_shape' hown3; obtain ⟨cl3, fl3, cu3, fu3⟩ := HX _ w3 hgr3))
        all_goals go_wp2
        all_goals go_end0
        all_goals refine ⟨rfl, ?_⟩
        all_goals
          have hE := add_end (l := l) HH.out.1 HH.out.2.1 HH.out.2.2 hpF hlt HG.out (by rw [← HU.out]; exact hown2) hgr3 hown3 (by simpa using hat3) ⟨_, _, by rw [show l.length = 0 by omega], by omega, fun _ => ⟨by omega, rfl⟩, fun h => by omega⟩ (by rw [← HU.out]; omega)
          rw [← HU.out, hll] at hE
        all_goals exact hE
      · cases e
        have hgp : ¬ g = p := h.gp rfl
        have harr : w.drew.ownsRow 0 5 1 (.slice (some ⟨g, 0, none⟩) U U) U (cellsOf full) := h.arr
        have hnp : ¬ some p = (Value.slice (some ⟨g, 0, none⟩) U U).ownBlock := fun e => hgp (by simpa [Value.ownBlock] using e.symm)
        have hnv : ∀ k, v.ownBlock = some k → ¬ some k = (Value.slice (some ⟨g, 0, none⟩) U U).ownBlock := fun k hk e => h.gv rfl (by rw [hk]; simpa [Value.ownBlock] using e)
        clear hI
        go_enter Tryz.func118, Tryz.ntmps118
        go_wp2_with fail
        go_region_held3 (fun W => W.cell? ⟨p, o, none⟩ = some (.slice (some ⟨g, 0, none⟩) U U) ∧ W.cell? ⟨p, o + 1, none⟩ = some (.int .i64 (U : Nat)))
          (first
            | (go_split_ands
               refine ⟨by go_keep, by go_keep⟩)
            | (go_split_ands
               exact ⟨hgr.cell ca hnp, hgr.cell cu hnp⟩))
          ((refine step_copy_bytes _ (by rfl) _ _ (by rfl) (.slice (some ⟨g, 0, none⟩) U U) g U U full harr (.inr rfl) _ _ _ _ _ _ _ (by rfl) (by rfl) hbD (by omega) (by omega) (fun h0 => by first | rfl | omega) ?_; intro w2 hown2 hgr))
        obtain ⟨cl2, hrow2, fl2, fu2⟩ : w2.cell? ⟨p, o + 2, none⟩ = some v ∧ w2.ownsRow 0 33 1 v rs.length xs ∧ w2.frozen? ⟨p, o + 2, none⟩ = false ∧ w2.frozen? ⟨p, o + 1, none⟩ = false := by
          refine ⟨hgr.cell cl hnp, ownsRow_move' h.row (fun k hk => hgr.block k (hlt k (hv k hk)) (fun e => hnv k hk e)), ?_, ?_⟩
          · rw [World.frozen?_of_block (hgr.block p hplt hnp)]; exact h.fl
          · rw [World.frozen?_of_block (hgr.block p hplt hnp)]; exact h.fu
        have ca2 := hgr.cell ca hnp
        have cu2 := hgr.cell cu hnp
        have hplt2 : p < w2.heap.size := Nat.lt_of_lt_of_le hplt hgr.size
        have HX : ∀ X w3, ((w2.alloc X).drew).grownBy w3 v.ownBlock → w3.cell? ⟨p, o + 2, none⟩ = some v ∧ w3.frozen? ⟨p, o + 2, none⟩ = false ∧ w3.cell? ⟨p, o + 1, none⟩ = some (.int .i64 (U : Nat)) ∧ w3.frozen? ⟨p, o + 1, none⟩ = false := fun X w3 hg3 => by
          have hb3 : w3.heap[p]? = w2.heap[p]? := (hg3.block p (by simp; omega) (fun e => h.vp e.symm)).trans ((World.grownBy_alloc w2 X none).block p hplt2 (by simp))
          exact ⟨by rw [World.cell?_of_block hb3]; exact cl2, by rw [World.frozen?_of_block hb3]; exact fl2, by rw [World.cell?_of_block hb3]; exact cu2, by rw [World.frozen?_of_block hb3]; exact fu2⟩
        have HH : Hid (PayAt w p o rs g U full (.slice (some ⟨g, 0, none⟩) U U) v xs ∧ (∀ k, (.slice (some ⟨g, 0, none⟩) U U : Value).ownBlock = some k → Fp k) ∧ (∀ k, v.ownBlock = some k → Fp k)) := ⟨h, hA, hv⟩
        have HG : Hid (w.grownBy w2 (.slice (some ⟨g, 0, none⟩) U U : Value).ownBlock) := ⟨hgr.os, hgr.tape, hgr.output, hgr.size, hgr.block⟩
        clear harr hbD hb h hA hv hgr ca cu cl hnp hnv
        go_wp2_with fail
        go_region_law ((refine step_push1 _ (by rfl) _ _ 52 33 j0 _ 24 (by rfl) Tryz.underlying52 hj hy0 hy1 hy2 rfl v rs.length xs (by rfl) ((hrow2.alloc _).drew) w2.heap.size (.slice (some ⟨g, 0, none⟩) 0 0) (by rfl) (by simp) rfl (by unfold maxLen; omega) (by omega) ?_; intro v' w3 hown3 hgr3 hat3; obtain ⟨a3, c3, rfl, hs3⟩ := ownsRow_shape' hown3; obtain ⟨cl3, fl3, cu3, fu3⟩ := HX _ w3 hgr3))
        all_goals go_wp2
        all_goals go_end0
        all_goals refine ⟨rfl, ?_⟩
        all_goals
          have hE := add_end (l := l) HH.out.1 HH.out.2.1 HH.out.2.2 hpF hlt HG.out (by rw [← HU.out]; exact hown2) hgr3 hown3 (by simpa using hat3) ⟨_, _, by rw [show l.length = 0 by omega], by omega, by simp, fun h => by omega⟩ (by rw [← HU.out]; omega)
          rw [← HU.out, hll] at hE
        all_goals exact hE

end Go.Proofs.YtdjodigimhgklaaGreatDoor

/- What Each tells: each record with its number, in order, in new memory. -/
namespace Go.Proofs.YtdjodigimhgklaaGreatDoor
open Go.RowKit Go.Shelf

attribute [local go_sem] Oper.semAt_some

/-- a record as the loop's body is handed it: its number, its bytes, the slice that leads to them -/
structure Rec where
  k : Nat
  l : List UInt8
  a : Option Addr
  c : Nat
abbrev Rec.encs (x : Rec) : Array Value := #[.int .i64 (x.k : Int), .slice x.a x.l.length x.c]
/-- what the memory holds of it -/
def Rec.ok (rs : List (List UInt8)) (pre : List Rec) (x : Rec) (W : World) : Prop := x.k = pre.length ∧ x.k < rs.length ∧ x.l = rc rs x.k ∧ Bytes W x.a x.l.length x.l

theorem each_any (w : World) (p : Option Addr) : Calls Tryz.prog 78 #[.pointer p] w fun e w' => e = .returned (.func (.func 122) #[] #[.pointer (some ⟨w.heap.size, 0, none⟩)]) ∧ w' = w.alloc (.cells #[.pointer p] 86) := by
  go_enter Tryz.func78, Tryz.ntmps78
  go_wp2
  go_ret
  exact ⟨rfl, rfl⟩

/-- what has come when k rounds are over -/
def Came (rs : List (List UInt8)) (k : Nat) (xs : List Rec) : Prop := xs.length = k ∧ ∀ i x, xs[i]? = some x → x.k = i ∧ x.l = rc rs i

theorem Came.snoc {rs : List (List UInt8)} {k : Nat} {xs : List Rec} (h : Came rs k xs) (x : Rec) (h1 : x.k = k) (h2 : x.l = rc rs k) : Came rs (k + 1) (xs ++ [x]) := by
  refine ⟨by rw [List.length_append, h.1]; rfl, fun i y hy => ?_⟩
  by_cases hi : i < xs.length
  · rw [List.getElem?_append_left hi] at hy
    exact h.2 i y hy
  · rw [List.getElem?_append_right (by omega)] at hy
    have h0 : i - xs.length = 0 := by
      by_cases e : i - xs.length = 0
      · exact e
      · obtain ⟨j, hj⟩ : ∃ j, i - xs.length = j + 1 := ⟨i - xs.length - 1, by omega⟩
        rw [hj] at hy; simp at hy
    rw [h0] at hy
    simp at hy
    subst hy
    have : i = k := by have := h.1; omega
    subst this
    exact ⟨h1, h2⟩

set_option maxRecDepth 100000 in
set_option maxHeartbeats 4000000 in
theorem each_tells (w : World) (j d : Nat) (nm : ByteArray) (rs : List (List UInt8)) (sz : Nat) (cut : Bool) (Fp : Nat → Prop) (h : JAt w j d nm rs sz cut Fp) (B : Nat) (hB : w.cell? ⟨B, 0, none⟩ = some (.pointer (some ⟨j, 0, none⟩))) (n : Nat) (hn : 1 ≤ n) :
    Tells Fence.wide n Tryz.prog 122 #[.pointer (some ⟨B, 0, none⟩)] Rec.encs (Rec.ok rs) (fun k => Fp k ∨ k = B) (Came rs rs.length) w := by
  intro l J W hW hJg hY h0
  have hJW := h.below hW
  have hcB : W.cell? ⟨B, 0, none⟩ = some (.pointer (some ⟨j, 0, none⟩)) := (hW.cell (p := ⟨B, 0, none⟩) (World.block_lt_of_cell? w _ hB)).trans hB
  refine callsIn_of_wp Tryz.func122 rfl trivial ?_ rfl
  simp only [Tryz.ntmps122, List.size_toArray, List.length_cons, List.length_nil, Nat.reduceAdd, Nat.reduceSub, Array.replicate_succ, Array.replicate_zero, List.push_toArray, List.append_toArray, List.nil_append, List.cons_append]
  obtain ⟨g, na, full, A, v, xs, hp, hA, hv⟩ := hJW.pay
  have cl := hp.cl
  obtain ⟨va, vc, rfl, hvc⟩ : ∃ va vc, v = .slice va rs.length vc ∧ rs.length ≤ 9223372036854775807 := by
    rcases hp.row.2 with ⟨rfl, h1⟩ | ⟨b, cap, cur, rfl, _, _, h3, h4, _⟩
    · exact ⟨none, 0, by rw [h1], by omega⟩
    · unfold maxLen at h4
      exact ⟨_, _, rfl, by omega⟩
  obtain ⟨N, hN⟩ : ∃ N, N = rs.length := ⟨_, rfl⟩
  have HN : Hid (N = rs.length) := hN
  rw [← hN] at cl hvc
  have HP : Hid (PayAt W j 2 rs g na full A (.slice va N vc) xs) := by rw [hN]; exact hp
  have hv' : ∀ k, (Value.slice va N vc).ownBlock = some k → Fp k := by rw [hN]; exact hv
  have hcnt := hJW.cnt
  have hsm := hJW.small
  have hjF : Fp j := hJW.fj
  clear hN hp hv
  gi_wp2
  gi_loopw [13] (fun i wr => ∃ (k : Nat) (pre : List Rec), k ≤ N ∧ i = .int .i64 k ∧ Hid (J pre wr ∧ Came rs k pre ∧ Keep (fun k => Fp k ∨ k = B) W wr)) (fun i _ => N - (intOf i).toNat)
  case atStart => exact ⟨0, [], Nat.zero_le _, rfl, h0, ⟨rfl, fun i x hx => by simp at hx⟩, Keep.refl _ _⟩
  case round =>
    obtain ⟨k, pre, hk, rfl, H⟩ := hrel
    by_cases hlt : k < N
    · have hkn : k < rs.length := by rw [← HN.out]; exact hlt
      have hpr : PayAt wr j 2 rs g na full A (.slice va N vc) xs := HP.out.kept (H.out.2.2.2 j (.inl hjF)) (fun i hi => H.out.2.2.2 i (.inl (hA i hi))) (fun i hi => H.out.2.2.2 i (.inl (hv' i hi)))
      obtain ⟨a, c, hx, hac, hnil, hb⟩ := hpr.bytes k hkn
      have hle := offs_le rs k hkn
      rcases hpr.cell with ⟨_, e⟩ | ⟨b, cap, e, _, _, hc⟩
      · rw [e] at hkn; simp at hkn
      · obtain rfl : va = some ⟨b, 0, none⟩ := by injection e
        clear e
        have hck := hc k _ hx
        clear hc hpr hx
        obtain ⟨m, hm⟩ : ∃ m, m = (rc rs k).length := ⟨_, rfl⟩
        have Hm : Hid (m = (rc rs k).length) := hm
        rw [← hm] at hck hb hac hnil hle
        clear hm
        have i2 : (k : Int) < (N : Int) := by omega
        have Hlt : Hid (∀ i, (Fp i ∨ i = B) → i < wr.heap.size) := fun i hi => by
          have h1 := H.out.2.2.1
          rcases hi with hi | rfl
          · exact Nat.lt_of_lt_of_le (hJW.lt i hi) h1
          · exact Nat.lt_of_lt_of_le (World.block_lt_of_cell? W _ hcB) h1
        have HY : Hid (∀ a' c' w2, w2.ownsRow wr.heap.size 5 1 (.slice a' m c') m (cellsOf (rc rs k)) → Below wr.heap.size wr w2 → YieldAt Fence.wide (n - 1) Tryz.prog l #[.int .i64 (k : Int), .slice a' m c'] w2 fun e W' => e = .returned (.bool true) ∧ J (pre ++ [⟨k, rc rs k, a', c'⟩]) W' ∧ Keep (fun k => Fp k ∨ k = B) w2 W') := fun a' c' w2 hown hB2 => by
          have := hY pre ⟨k, rc rs k, a', c'⟩ w2 (hJg _ _ _ H.out.1 ⟨hB2.os, hB2.tape, hB2.output, hB2.size, fun i hi _ => hB2.block i hi⟩) ⟨H.out.2.1.1.symm, hkn, rfl, by show Bytes w2 a' (rc rs k).length (rc rs k); rw [← Hm.out]; exact (ownsRow_toBytes hown).1⟩
          simp only [Rec.encs] at this
          rw [← Hm.out] at this
          exact this
        gi_wp2_with (refine ⟨trivial, ?_⟩; gi_at_call 54; refine (callsIn_wide.2 (clone_any a m c (rc rs k) wr hb hnil (by omega))).mono ?_; rintro e w2 ⟨a', c', rfl, hown, hB2, hnc, hnn⟩; have hY2 := HY.out a' c' w2 hown hB2; obtain ⟨fn, tmps, assign, body, hy, hR⟩ := hY2)
        refine hR.mono ?_
        rintro e W3 ⟨rfl, hJ3, hk3⟩
        have HE : Hid (J (pre ++ [⟨k, rc rs k, a', c'⟩]) W3 ∧ Came rs (k + 1) (pre ++ [⟨k, rc rs k, a', c'⟩]) ∧ Keep (fun k => Fp k ∨ k = B) W W3) :=
          ⟨hJ3, H.out.2.1.snoc _ rfl rfl, (H.out.2.2.trans ⟨hB2.size, fun i hi => hB2.block i (Hlt.out i hi)⟩).trans hk3⟩
        gi_wp2
        go_roundw
        case rel => exact ⟨k + 1, _, by omega, by simp, HE⟩
        case measure => simp [intOf]; omega
    · obtain rfl : k = N := by omega
      gi_wp2
      go_end0
      exact ⟨⟨_, rfl⟩, pre, by rw [← HN.out]; exact H.out.2.1, H.out.1⟩

end Go.Proofs.YtdjodigimhgklaaGreatDoor

/- What Each tells, where the loop's body may leave. -/
namespace Go.Proofs.YtdjodigimhgklaaGreatDoor
open Go.RowKit Go.Shelf

attribute [local go_sem] Oper.semAt_some

set_option maxRecDepth 100000 in
set_option maxHeartbeats 4000000 in
theorem each_tellsB (w : World) (j d : Nat) (nm : ByteArray) (rs : List (List UInt8)) (sz : Nat) (cut : Bool) (Fp : Nat → Prop) (h : JAt w j d nm rs sz cut Fp) (B : Nat) (hB : w.cell? ⟨B, 0, none⟩ = some (.pointer (some ⟨j, 0, none⟩))) (n : Nat) (hn : 1 ≤ n) :
    TellsB Fence.wide n Tryz.prog 122 #[.pointer (some ⟨B, 0, none⟩)] Rec.encs (Rec.ok rs) (fun k => Fp k ∨ k = B) (Came rs rs.length) w := by
  intro l J Jx W hW hJg hJxg hY h0
  have hJW := h.below hW
  have hcB : W.cell? ⟨B, 0, none⟩ = some (.pointer (some ⟨j, 0, none⟩)) := (hW.cell (p := ⟨B, 0, none⟩) (World.block_lt_of_cell? w _ hB)).trans hB
  refine callsIn_of_wp Tryz.func122 rfl trivial ?_ rfl
  simp only [Tryz.ntmps122, List.size_toArray, List.length_cons, List.length_nil, Nat.reduceAdd, Nat.reduceSub, Array.replicate_succ, Array.replicate_zero, List.push_toArray, List.append_toArray, List.nil_append, List.cons_append]
  obtain ⟨g, na, full, A, v, xs, hp, hA, hv⟩ := hJW.pay
  have cl := hp.cl
  obtain ⟨va, vc, rfl, hvc⟩ : ∃ va vc, v = .slice va rs.length vc ∧ rs.length ≤ 9223372036854775807 := by
    rcases hp.row.2 with ⟨rfl, h1⟩ | ⟨b, cap, cur, rfl, _, _, h3, h4, _⟩
    · exact ⟨none, 0, by rw [h1], by omega⟩
    · unfold maxLen at h4
      exact ⟨_, _, rfl, by omega⟩
  obtain ⟨N, hN⟩ : ∃ N, N = rs.length := ⟨_, rfl⟩
  have HN : Hid (N = rs.length) := hN
  rw [← hN] at cl hvc
  have HP : Hid (PayAt W j 2 rs g na full A (.slice va N vc) xs) := by rw [hN]; exact hp
  have hv' : ∀ k, (Value.slice va N vc).ownBlock = some k → Fp k := by rw [hN]; exact hv
  have hcnt := hJW.cnt
  have hsm := hJW.small
  have hjF : Fp j := hJW.fj
  clear hN hp hv
  gi_wp2
  gi_loopw [13] (fun i wr => ∃ (k : Nat) (pre : List Rec), k ≤ N ∧ i = .int .i64 k ∧ Hid (J pre wr ∧ Came rs k pre ∧ Keep (fun k => Fp k ∨ k = B) W wr)) (fun i _ => N - (intOf i).toNat)
  case atStart => exact ⟨0, [], Nat.zero_le _, rfl, h0, ⟨rfl, fun i x hx => by simp at hx⟩, Keep.refl _ _⟩
  case round =>
    obtain ⟨k, pre, hk, rfl, H⟩ := hrel
    by_cases hlt : k < N
    · have hkn : k < rs.length := by rw [← HN.out]; exact hlt
      have hpr : PayAt wr j 2 rs g na full A (.slice va N vc) xs := HP.out.kept (H.out.2.2.2 j (.inl hjF)) (fun i hi => H.out.2.2.2 i (.inl (hA i hi))) (fun i hi => H.out.2.2.2 i (.inl (hv' i hi)))
      obtain ⟨a, c, hx, hac, hnil, hb⟩ := hpr.bytes k hkn
      have hle := offs_le rs k hkn
      rcases hpr.cell with ⟨_, e⟩ | ⟨b, cap, e, _, _, hc⟩
      · rw [e] at hkn; simp at hkn
      · obtain rfl : va = some ⟨b, 0, none⟩ := by injection e
        clear e
        have hck := hc k _ hx
        clear hc hpr hx
        obtain ⟨m, hm⟩ : ∃ m, m = (rc rs k).length := ⟨_, rfl⟩
        have Hm : Hid (m = (rc rs k).length) := hm
        rw [← hm] at hck hb hac hnil hle
        clear hm
        have i2 : (k : Int) < (N : Int) := by omega
        have Hlt : Hid (∀ i, (Fp i ∨ i = B) → i < wr.heap.size) := fun i hi => by
          have h1 := H.out.2.2.1
          rcases hi with hi | rfl
          · exact Nat.lt_of_lt_of_le (hJW.lt i hi) h1
          · exact Nat.lt_of_lt_of_le (World.block_lt_of_cell? W _ hcB) h1
        have HY : Hid (∀ a' c' w2, w2.ownsRow wr.heap.size 5 1 (.slice a' m c') m (cellsOf (rc rs k)) → Below wr.heap.size wr w2 → YieldAt Fence.wide (n - 1) Tryz.prog l #[.int .i64 (k : Int), .slice a' m c'] w2 fun e W' => (e = .returned (.bool true) ∧ J (pre ++ [⟨k, rc rs k, a', c'⟩]) W' ∧ Keep (fun k => Fp k ∨ k = B) w2 W') ∨ (e = .returned (.bool false) ∧ Jx (pre ++ [⟨k, rc rs k, a', c'⟩]) W')) := fun a' c' w2 hown hB2 => by
          have := hY pre ⟨k, rc rs k, a', c'⟩ w2 (hJg _ _ _ H.out.1 ⟨hB2.os, hB2.tape, hB2.output, hB2.size, fun i hi _ => hB2.block i hi⟩) ⟨H.out.2.1.1.symm, hkn, rfl, by show Bytes w2 a' (rc rs k).length (rc rs k); rw [← Hm.out]; exact (ownsRow_toBytes hown).1⟩
          simp only [Rec.encs] at this
          rw [← Hm.out] at this
          exact this
        gi_wp2_with (refine ⟨trivial, ?_⟩; gi_at_call 54; refine (callsIn_wide.2 (clone_any a m c (rc rs k) wr hb hnil (by omega))).mono ?_; rintro e w2 ⟨a', c', rfl, hown, hB2, hnc, hnn⟩; have hY2 := HY.out a' c' w2 hown hB2; obtain ⟨fn, tmps, assign, body, hy, hR⟩ := hY2)
        refine hR.mono ?_
        rintro e W3 (⟨rfl, hJ3, hk3⟩ | ⟨rfl, hJ3⟩)
        · have HE : Hid (J (pre ++ [⟨k, rc rs k, a', c'⟩]) W3 ∧ Came rs (k + 1) (pre ++ [⟨k, rc rs k, a', c'⟩]) ∧ Keep (fun k => Fp k ∨ k = B) W W3) :=
            ⟨hJ3, H.out.2.1.snoc _ rfl rfl, (H.out.2.2.trans ⟨hB2.size, fun i hi => hB2.block i (Hlt.out i hi)⟩).trans hk3⟩
          gi_wp2
          go_roundw
          case rel => exact ⟨k + 1, _, by omega, by simp, HE⟩
          case measure => simp [intOf]; omega
        · have HE : Hid (Jx (pre ++ [⟨k, rc rs k, a', c'⟩]) W3) := hJ3
          gi_wp2
          refine bodyPost_ret (results_none rfl _ _ _) rfl ?_
          exact ⟨⟨_, rfl⟩, .inr ⟨_, HE.out⟩⟩
    · obtain rfl : k = N := by omega
      gi_wp2
      go_end0
      exact ⟨⟨_, rfl⟩, .inl ⟨pre, by rw [← HN.out]; exact H.out.2.1, H.out.1⟩⟩

end Go.Proofs.YtdjodigimhgklaaGreatDoor

/- The walk of the document's own form of a record. -/
namespace Go.Proofs.YtdjodigimhgklaaGreatDoor
open Go.RowKit

theorem ownsRow_toBytes' {w : World} {B n c : Nat} {ad : Option Addr} {l : List UInt8} (h : w.ownsRow B 5 1 (.slice ad n c) n (cellsOf l)) : Bytes w ad n l := (ownsRow_toBytes h).1

theorem refHash_nat (a : Option Addr) (n c : Nat) (l : List UInt8) (w : World) (hb : Bytes w a n l) (hm : n ≤ maxLen) :
    Calls Tryz.prog 93 #[.slice a n c] w fun e w' => e = .returned (.int .u64 (hashN l)) ∧ w' = w := by
  rw [hashN_eq, hb.1]
  exact refHash_any a n c l w hb hm

set_option maxHeartbeats 1000000 in
theorem refRecord_any (a : Option Addr) (n c : Nat) (l : List UInt8) (w : World) (hb : Bytes w a n l) (hn : n ≤ 140737488351232) :
    Calls Tryz.prog 91 #[.slice a n c] w fun e w' => ∃ b, e = .returned (.slice (some ⟨b, 0, none⟩) (recB l).length (recB l).length) ∧ Bytes w' (some ⟨b, 0, none⟩) (recB l).length (recB l) ∧ Below w.heap.size w w' ∧ w.heap.size ≤ b := by
  have hrs := run_string w a n c l hb
  have hl := hb.1
  have hx1 := refText_any ⟨l.toArray⟩ w (by show l.length ≤ _; omega)
  go_enter Tryz.func91, Tryz.ntmps91
  go_wp2_with fail
  refine hx1.mono ?_
  clear hx1
  rintro e w1 ⟨v, rfl, hown1, hB1⟩
  obtain ⟨a1, c1, rfl, _, _⟩ := ownsRow_shape' hown1
  have hb1' := (ownsRow_toBytes' hown1)
  have hsz : (ByteArray.mk l.toArray).size = n := hl
  rw [hsz] at hown1 hb1' ⊢
  obtain ⟨N1, hN1⟩ : ∃ N1, N1 = (short n).length + n := ⟨_, rfl⟩
  have HN1 : Hid (N1 = (short n).length + n) := hN1
  rw [← hN1] at hb1' ⊢
  have hb2 : Bytes w1 a n l := (Turn.of_below (fun _ => False) hB1).bytes hb (fun _ _ _ => id)
  have hs10 := short_len n
  have hN1b : N1 ≤ 140737488351300 := by omega
  clear hb hrs hown1 hN1
  go_wp2_with fail
  refine (refHash_nat a n c l w1 hb2 (by unfold maxLen; omega)).mono ?_
  rintro e w2 ⟨rfl, rfl⟩
  go_wp2_with fail
  refine (refWord_any (hashN l) w2 (hashN_lt l)).mono ?_
  rintro e w3 ⟨rfl, hbw, hB3⟩
  have hb3 : Bytes w3 a1 N1 (short n ++ l) := (Turn.of_below (fun _ => False) hB3).bytes hb1' (fun _ _ _ => id)
  have hB13 : Hid (Below w.heap.size w w3) := hB1.trans (hB3.mono hB1.size)
  have hx4 := both_any a1 (some ⟨w2.heap.size, 0, none⟩) N1 8 c1 8 _ _ w3 hb3 hbw (by omega)
  clear hb2 hb1' hb3 hbw hB1 hB3
  go_wp2_with fail
  refine hx4.mono ?_
  clear hx4
  rintro e w4 ⟨rfl, hown4, hg4⟩
  go_wp2
  go_ret
  have hE : N1 + 8 = (recB l).length := by rw [recB_len, hl, HN1.out]
  have hE2 : short n ++ l ++ wide (hashN l) = recB l := by unfold recB; rw [hl, List.append_assoc]
  rw [hE, hE2] at hown4
  refine ⟨w3.heap.size, by rw [← hE]; rfl, (ownsRow_bytes hown4).1, hB13.out.grown hg4 hB13.out.size (by simp), hB13.out.size⟩

end Go.Proofs.YtdjodigimhgklaaGreatDoor
