import Derived.Test.YtcbmofapnjdmgaaDoorDD01
import Derived.Outline
/- The walk of the one method by which files change: a raw write is done whole and counted, or not at all. -/
namespace Go.Proofs.YtcbmofapnjdmgaaDoor
open Go.RowKit Go.Maps

def DG.can (S : DG) : Bool := !S.cut || S.left != 0
def DG.done (S : DG) : DG := { S with wr := S.wr + 1, left := if S.cut then S.left - 1 else S.left }

theorem turn_setCell (w : World) (p o : Nat) (v : Value) : Turn (fun k => k = p) w (w.setCell ⟨p, o, none⟩ v) :=
  ⟨rfl, rfl, rfl, by simp [World.setCell], fun k _ hk => Below.heap_setCell _ _ _ _ hk⟩

set_option maxHeartbeats 1000000 in
theorem raw_done (k p : Nat) (caps : Array Value) (S : DG) (Fp : Nat → Prop) (w : World) (R : World → Prop) (hk : ∀ w, (callFunc k caps).run Tryd.prog w = .ok (.enter k caps) w) (hd : IsDisk w p S Fp) (hw : S.wr < 4611686018427387904) (hc : S.can = true)
    (hcl : ∀ w1, (∀ b M, DiskAt w p b M S Fp → DiskAt w1 p b M S.done Fp) → IsDisk w1 p S.done Fp → Turn (fun i => i = p) w w1 → w1.heap.size = w.heap.size → Calls Tryd.prog k caps w1 fun e w' => e = .returned (.tuple #[]) ∧ R w') :
    Calls Tryd.prog 42 #[.pointer (some ⟨p, 0, none⟩), .func (.func k) #[] caps] w fun e w' => e = .returned (.int .i64 0) ∧ R w' := by
  obtain ⟨b, M, hd⟩ := hd
  obtain ⟨f, n, wr, cut, left⟩ := S
  have c1 := hd.c1
  have c2 := hd.c2
  have c3 := hd.c3
  have f1 := hd.f1
  have f3 := hd.f3
  have hl := hd.hl
  simp only at c1 c2 c3 hl hw
  cases cut with
  | false =>
    have hd1 := fun b' M' (hd : DiskAt w p b' M' (DG.mk f n wr false left) Fp) => hd.field 1 (.int .i64 ((wr : Int) + 1)) (by decide) (DG.mk f n (wr + 1) false left) rfl rfl hl (by rw [World.cell?_setCell_same _ _ _ c1]; rfl) (by rw [World.cell?_setCell_other _ _ _ _ (by simp)]; exact c2) (by rw [World.cell?_setCell_other _ _ _ _ (by simp)]; exact c3)
    have hx := hcl _ hd1 ⟨b, M, hd1 b M hd⟩ (turn_setCell w p 1 _) (by simp [World.setCell])
    clear hcl hd hd1
    go_enter Tryd.func42, Tryd.ntmps42
    go_wp2_with fail
    refine hx.mono ?_
    rintro e w' ⟨rfl, hR⟩
    go_wp2
    go_ret
    exact ⟨rfl, hR⟩
  | true =>
    have h0 : left ≠ 0 := by simpa [DG.can] using hc
    have h0' : ¬ (left : Int) = 0 := by omega
    have e1 : ((left - 1 : Nat) : Int) = (left : Int) - 1 := by omega
    have hd1 := fun b' M' (hd : DiskAt w p b' M' (DG.mk f n wr true left) Fp) => hd.field 3 (.int .i64 ((left : Int) - 1)) (by decide) (DG.mk f n wr true (left - 1)) rfl rfl (by simp only; omega) (by rw [World.cell?_setCell_other _ _ _ _ (by simp)]; exact c1) (by rw [World.cell?_setCell_other _ _ _ _ (by simp)]; exact c2) (by rw [World.cell?_setCell_same _ _ _ c3]; simp only; rw [e1])
    have hd2 := fun b' M' (hd : DiskAt w p b' M' (DG.mk f n wr true left) Fp) => (hd1 b' M' hd).field 1 (.int .i64 ((wr : Int) + 1)) (by decide) (DG.mk f n (wr + 1) true (left - 1)) rfl rfl (by simp only; omega) (by rw [World.cell?_setCell_same _ _ _ (hd1 b' M' hd).c1]; rfl) (by rw [World.cell?_setCell_other _ _ _ _ (by simp)]; exact (hd1 b' M' hd).c2) (by rw [World.cell?_setCell_other _ _ _ _ (by simp)]; exact (hd1 b' M' hd).c3)
    have hx := hcl _ hd2 ⟨b, M, hd2 b M hd⟩ ((turn_setCell w p 3 _).trans (turn_setCell _ p 1 _) (fun _ _ h => h)) (by simp [World.setCell])
    clear hcl hd hd1 hd2
    go_enter Tryd.func42, Tryd.ntmps42
    go_wp2_with fail
    refine hx.mono ?_
    rintro e w' ⟨rfl, hR⟩
    go_wp2
    go_ret
    exact ⟨rfl, hR⟩

set_option maxHeartbeats 1000000 in
theorem raw_cut (k p : Nat) (caps : Array Value) (S : DG) (Fp : Nat → Prop) (w : World) (hd : IsDisk w p S Fp) (hc : S.can = false) :
    Calls Tryd.prog 42 #[.pointer (some ⟨p, 0, none⟩), .func (.func k) #[] caps] w fun e w' => e = .returned (.int .i64 6) ∧ w' = w := by
  obtain ⟨b, M, hd⟩ := hd
  obtain ⟨f, n, wr, cut, left⟩ := S
  have hc' : cut = true ∧ left = 0 := by simpa [DG.can] using hc
  obtain ⟨rfl, rfl⟩ := hc'
  have c2 := hd.c2
  have c3 := hd.c3
  simp only at c2 c3
  clear hd hc
  go_enter Tryd.func42, Tryd.ntmps42
  go_wp2
  go_ret
  exact ⟨rfl, rfl⟩

end Go.Proofs.YtcbmofapnjdmgaaDoor
