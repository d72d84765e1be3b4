/- The walk of a step of the statements' own scripts. -/
import Derived.Test.YtibnppclnapjkaaDiskDo
namespace Go.Proofs.Ytibnppclnapjkaa
open Go.RowKit Go.Maps

/-- something that is done to a disk -/
structure GOp where
  kind : Int
  name : ByteArray
  to : ByteArray
  n : Int
  ad : Option Addr
  len : Nat
  cap : Nat

def GOp.cells (o : GOp) : Array Value := #[.int .i64 o.kind, .string o.name, .string o.to, .int .i64 o.n, .slice o.ad o.len o.cap]
/-- which of four it is -/
def GOp.four (o : GOp) : Int := (IntKind.u64.wrap o.kind).tmod 4
theorem GOp.four_or (o : GOp) : o.four = 0 ∨ o.four = 1 ∨ o.four = 2 ∨ o.four = 3 := by
  unfold GOp.four
  rw [IntKind.wrap_u64, Int.tmod_eq_emod_of_nonneg (by omega)]
  omega

/-- what a step leaves, and what it answers -/
def DG.step (S : DG) (o : GOp) (l : List UInt8) : DG × Int :=
  if o.four = 0 then S.app o.name.data.toList l else if o.four = 1 then S.trunc o.name.data.toList o.n else if o.four = 2 then S.renam o.name.data.toList o.to.data.toList else S.remove o.name.data.toList

set_option maxRecDepth 20000 in
set_option maxHeartbeats 4000000 in
theorem step_any (p : Nat) (S : DG) (Fp : Nat → Prop) (w : World) (o : GOp) (l : List UInt8) (hd : IsDisk w p S Fp) (hs : o.name.size ≤ maxLen) (ht : o.to.size ≤ maxLen)
    (hb : Bytes w o.ad o.len l) (hmc : o.len ≤ o.cap) (hnil : o.ad = none → o.len = 0 ∧ o.cap = 0) (ha : 0 < o.len → ∀ x, o.ad = some x → ¬ Fp x.block ∧ x.block < w.heap.size) (hm : o.len ≤ 9223372036854775807)
    (hbig : ∀ x, (S.bs x).length ≤ 4194304) (hn : S.n ≤ 256) (hw : S.wr < 4000000000000000000) :
    Calls Try.prog 21 #[.pointer (some ⟨p, 0, none⟩), .agg o.cells] w fun e w' => e = .returned (.int .i64 (S.step o l).2) ∧ IsDisk w' p (S.step o l).1 (grow Fp w w') ∧ Turn Fp w w' := by
  have hlt := hd.lt
  obtain ⟨kind, name, to, n, ad, len, cap⟩ := o
  have hB0 : Below w.heap.size w (w.alloc (.cells #[.int .i64 kind, .string name, .string to, .int .i64 n, .slice ad len cap] 47)) := below_box (Below.refl _ _)
  have hd0 := hd.below hB0
  simp only at hs ht hb hmc hnil ha hm
  have hfour : Hid _ := GOp.four_or ⟨kind, name, to, n, ad, len, cap⟩
  have h1 := append_any p S Fp _ name ad len cap l hd0 hs ((Turn.of_below (fun _ => False) hB0).bytes hb (fun _ _ _ => id)) hmc hnil (fun h x hx => ⟨(ha h x hx).1, Nat.lt_of_lt_of_le (ha h x hx).2 hB0.size⟩) (hbig _) hn hw hm
  have h2 := truncate_any p S Fp _ name n hd0 hs (by omega) (by unfold maxLen; omega) (hbig _)
  have h3 := rename_any p S Fp _ name to hd0 hs ht (by omega) (by unfold maxLen; omega)
  have h4 := remove_any p S Fp _ name hd0 hs (by omega)
  have HS : Hid (∀ T : DG × Int, ∀ w', (IsDisk w' p T.1 (grow Fp (w.alloc (.cells #[.int .i64 kind, .string name, .string to, .int .i64 n, .slice ad len cap] 47)) w') ∧ Turn Fp (w.alloc (.cells #[.int .i64 kind, .string name, .string to, .int .i64 n, .slice ad len cap] 47)) w') → IsDisk w' p T.1 (grow Fp w w') ∧ Turn Fp w w') := fun T w' h => boxed_end hlt hB0 h
  have hstep : S.step ⟨kind, name, to, n, ad, len, cap⟩ l = if (IntKind.u64.wrap kind).tmod 4 = 0 then S.app name.data.toList l else if (IntKind.u64.wrap kind).tmod 4 = 1 then S.trunc name.data.toList n else if (IntKind.u64.wrap kind).tmod 4 = 2 then S.renam name.data.toList to.data.toList else S.remove name.data.toList := rfl
  rw [hstep]
  clear hstep hd hd0 hlt hb hmc hnil ha hm hbig hn hw hs ht hB0
  unfold GOp.cells
  simp only
  rcases hfour.out with h | h | h | h
  all_goals (change (IntKind.u64.wrap kind).tmod 4 = _ at h; rw [h])
  · simp only [if_true]
    generalize S.app name.data.toList l = T at *
    clear h2 h3 h4
    go_enter Try.func21, Try.ntmps21
    go_wp2_with fail
    refine h1.mono ?_
    rintro e w1 ⟨rfl, hR⟩
    go_wp2
    go_ret
    exact ⟨rfl, HS.out T _ hR⟩
  · simp only [if_true, show ¬ (1 : Int) = 0 by decide, if_false]
    generalize S.trunc name.data.toList n = T at *
    clear h1 h3 h4
    go_enter Try.func21, Try.ntmps21
    go_wp2_with fail
    refine h2.mono ?_
    rintro e w1 ⟨rfl, hR⟩
    go_wp2
    go_ret
    exact ⟨rfl, HS.out T _ hR⟩
  · simp only [if_true, show ¬ (2 : Int) = 0 by decide, show ¬ (2 : Int) = 1 by decide, if_false]
    generalize S.renam name.data.toList to.data.toList = T at *
    clear h1 h2 h4
    go_enter Try.func21, Try.ntmps21
    go_wp2_with fail
    refine h3.mono ?_
    rintro e w1 ⟨rfl, hR⟩
    go_wp2
    go_ret
    exact ⟨rfl, HS.out T _ hR⟩
  · simp only [show ¬ (3 : Int) = 0 by decide, show ¬ (3 : Int) = 1 by decide, show ¬ (3 : Int) = 2 by decide, if_false]
    generalize S.remove name.data.toList = T at *
    clear h1 h2 h3
    go_enter Try.func21, Try.ntmps21
    go_wp2_with fail
    refine h4.mono ?_
    rintro e w1 ⟨rfl, hR⟩
    go_wp2
    go_ret
    exact ⟨rfl, HS.out T _ hR⟩

end Go.Proofs.Ytibnppclnapjkaa
