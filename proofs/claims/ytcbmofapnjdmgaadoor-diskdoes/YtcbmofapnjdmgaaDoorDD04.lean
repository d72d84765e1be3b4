import Derived.Test.YtcbmofapnjdmgaaDoorDD03
/- The walk of the closure that puts a piece behind a file's end. -/
namespace Go.Proofs.YtcbmofapnjdmgaaDoor
open Go.RowKit Go.Maps

/-- a file has these bytes more -/
def DG.add (S : DG) (l bs : List UInt8) : DG := S.set l ((S.f l).getD [] ++ bs)

set_option maxRecDepth 20000 in
set_option maxHeartbeats 2000000 in
theorem piece_any (p : Nat) (S : DG) (Fp : Nat → Prop) (w : World) (s : ByteArray) (Bd Bn Bp : Nat) (a : Option Addr) (m c : Nat) (l : List UInt8) (hd : IsDisk w p S Fp)
    (hbd : w.cell? ⟨Bd, 0, none⟩ = some (.pointer (some ⟨p, 0, none⟩))) (hbn : w.cell? ⟨Bn, 0, none⟩ = some (.string s)) (hbp : w.cell? ⟨Bp, 0, none⟩ = some (.slice a m c))
    (nd : ¬ Fp Bd) (nn : ¬ Fp Bn) (np : ¬ Fp Bp) (hb : Bytes w a m l) (hnil : a = none → m = 0 ∧ c = 0) (hs : s.size ≤ maxLen) (hlen : ((S.f s.data.toList).getD []).length + m ≤ 140737488355328) (hn : S.n < maxLen) :
    Calls Tryd.prog 48 #[.pointer (some ⟨Bd, 0, none⟩), .pointer (some ⟨Bn, 0, none⟩), .pointer (some ⟨Bp, 0, none⟩)] w fun e w' =>
      e = .returned (.tuple #[]) ∧ IsDisk w' p (S.add s.data.toList l) (grow Fp w w') ∧ Turn Fp w w' := by
  obtain ⟨b, M, hd⟩ := hd
  obtain ⟨v, hv, hrow, hvo⟩ := hd.value s.data.toList
  have c0 := hd.c0
  have hLk : ∀ W : World, W.heap[b]? = w.heap[b]? → (Instr.lookup 43 (.map (some b)) (.string s) false).run Tryd.prog W = .ok v W := by
    intro W hW
    have hown : W.ownsMap Tryd.prog 9 rv b (size M) M := by
      obtain ⟨es, clock, hb, r⟩ := hd.own
      exact ⟨es, clock, hW.trans hb, r⟩
    obtain ⟨u, ps, hrun, hu⟩ := hown.lookup keyed Tryd.underlying43 (zeroSlice W) (show rv (.slice none 0 0) = some (nils, []) from rfl) (keyOfS s hs)
    rw [hv] at hu
    have := rv_inv hu
    cases this
    exact hrun
  have hL0 := hLk w.drew rfl
  have ld := World.block_lt_of_cell? w _ hbd
  have ln := World.block_lt_of_cell? w _ hbn
  have lp := World.block_lt_of_cell? w _ hbp
  have l0 := World.block_lt_of_cell? w _ c0
  have hvn : ∀ g, v.ownBlock = some g → g ≠ Bd ∧ g ≠ Bn ∧ g ≠ Bp ∧ g ≠ p ∧ g ≠ b := fun g hg => ⟨fun e => nd (e ▸ (hvo g hg).1), fun e => nn (e ▸ (hvo g hg).1), fun e => np (e ▸ (hvo g hg).1), (hvo g hg).2.1, (hvo g hg).2.2.1⟩
  have hput : ∀ v' w1, w1.ownsRow 0 5 1 v' (((S.f s.data.toList).getD []).length + m) (cellsOf ((S.f s.data.toList).getD []) ++ cellsOf l) → w.drew.grownBy w1 v.ownBlock → (v'.ownBlock = v.ownBlock ∨ v'.ownBlock = some w.drew.heap.size) →
      ∃ w2, (Instr.mapUpdate 43 (.map (some b)) (.string s) v').run Tryd.prog w1 = .ok () w2 ∧ w2.cell? ⟨p, 0, none⟩ = some (.map (some b)) ∧ Hid (IsDisk w2 p (S.add s.data.toList l) (grow Fp w w2) ∧ Turn Fp w w2) := by
    intro v' w1 h1 h2 h3
    rw [← cellsOf_append, show ((S.f s.data.toList).getD []).length + m = ((S.f s.data.toList).getD [] ++ l).length by rw [List.length_append, hb.1]] at h1
    obtain ⟨w2, hr, hx, hT⟩ := hd.put s hs v v' _ hv hvo ⟨h2.os, h2.tape, h2.output, h2.size, h2.block⟩ h1 (hd.free_append _ v v' hv hvo h3) hn
    exact ⟨w2, hr, hx.c0, ⟨b, _, hx⟩, hT⟩
  have hbD : Bytes w.drew a m l := ⟨hb.1, hb.2⟩
  go_enter Tryd.func48, Tryd.ntmps48
  go_wp2_with fail
  go_region_held3 (fun W => W.cell? ⟨Bd, 0, none⟩ = some (.pointer (some ⟨p, 0, none⟩)) ∧ W.cell? ⟨Bn, 0, none⟩ = some (.string s) ∧ W.cell? ⟨Bp, 0, none⟩ = some (.slice a m c) ∧ W.cell? ⟨p, 0, none⟩ = some (.map (some b)))
    (first
      | (go_split_ands
         refine ⟨by go_keep, by go_keep, by go_keep, by go_keep⟩)
      | (go_split_ands
         exact ⟨(hgrow.cell hbd (fun e => (hvn _ e.symm).1 rfl)), (hgrow.cell hbn (fun e => (hvn _ e.symm).2.1 rfl)), (hgrow.cell hbp (fun e => (hvn _ e.symm).2.2.1 rfl)), (hgrow.cell c0 (fun e => (hvn _ e.symm).2.2.2.1 rfl))⟩)
      | (go_split_ands
         exact ⟨hfin.out.2.cell hbd nd, hfin.out.2.cell hbn nn, hfin.out.2.cell hbp np, hp2⟩))
    ((refine step_append_row _ (by rfl) _ _ (by rfl) v _ _ (by rfl) hrow.drew a m c l (by rfl) hbD hnil hlen ?_; intro v' w1 hown1 hgrow hat; obtain ⟨w2, hupd, hp2, hfin⟩ := hput v' w1 hown1 hgrow hat))
  go_wp2
  go_end0
  exact ⟨rfl, hfin.out⟩

end Go.Proofs.YtcbmofapnjdmgaaDoor
