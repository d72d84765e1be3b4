import Derived.Test.YtggnglgehobglaaK41
import Derived.Test.YtggnglgehobglaaK22
import Derived.Test.YtggnglgehobglaaK40
import Derived.Test.YtggnglgehobglaaK18
import Derived.Test.YtggnglgehobglaaK19
/- The walk of the law's wakes. -/
namespace Go.Proofs.Ytggnglgehobglaa
open Go.RowKit Go.Shelf Go.Maps

attribute [local go_sem] Oper.semAt_some

def rsW : List Ru := [(3, [97], [98, 47, 99]), (2, [97, 47, 120], [])]
theorem wake_good : GoodU rsW 2 := fun j r hj hr => by
  match j, hr with
  | 0, hr => cases hr; decide +kernel
  | 1, hr => cases hr; decide +kernel
  | j + 2, _ => omega
theorem wake_keys {ks : List (List UInt8)} (h : KeyL (tabL rsW) ks) : ks = [[97], [97, 47, 120]] ∨ ks = [[97, 47, 120], [97]] := by
  have hm : ∀ x, x ∈ ks ↔ x ∈ [[97], [97, 47, 120]] := fun x => by
    rw [h.mem]
    show (setT (setT (fun _ => none) [97] (3, [97], [98, 47, 99])) [97, 47, 120] (2, [97, 47, 120], []) x).isSome = true ↔ _
    unfold setT
    by_cases h1 : x = [97, 47, 120]
    · simp [h1]
    · by_cases h2 : x = [97]
      · simp [h2]
      · simp [h1, h2]
  have hp : ks.Perm [[97], [97, 47, 120]] := (List.perm_ext_iff_of_nodup h.nd (by decide)).2 hm
  have hl := hp.length_eq
  match ks, hl, h.nd, hm with
  | [x, y], _, hn, hm =>
    have h1 := (hm x).1 (by simp)
    have h2 := (hm y).1 (by simp)
    have h3 : x ≠ y := by simpa using hn
    simp only [List.mem_cons, List.not_mem_nil, or_false] at h1 h2
    rcases h1 with rfl | rfl <;> rcases h2 with rfl | rfl
    · exact absurd rfl h3
    · exact .inl rfl
    · exact .inr rfl
    · exact absurd rfl h3
theorem wake_img {ks : List (List UInt8)} (h : KeyL (tabL rsW) ks) : thr [97, 47, 121] (imgL (formT (tabL rsW) ks) [97, 47, 121]) = ([98, 47, 99, 47, 121], 0) ∧ thr [97, 47, 120, 47, 122] (imgL (formT (tabL rsW) ks) [97, 47, 120, 47, 122]) = ([], 4) := by
  rcases wake_keys h with rfl | rfl
  · exact ⟨by decide +kernel, by decide +kernel⟩
  · exact ⟨by decide +kernel, by decide +kernel⟩
theorem wake_new {w : World} {e : Ending} (h : NewR rsW 2 e w) : ∃ m ks, e = .returned (.tuple #[.pointer (some ⟨m, 0, none⟩), .agg #[.int .i64 0, .int .i64 0]]) ∧ MpAt w m (formT (tabL rsW) ks) ∧ KeyL (tabL rsW) ks := by
  rcases h with ⟨h, _⟩ | ⟨_, k, r, hr, hb, _⟩ | ⟨_, _, h⟩
  · omega
  · exfalso
    have hk : k < 2 := (List.getElem?_eq_some_iff.1 hr).1
    exact hb (wake_good k r hk hr)
  · exact h
theorem eqF (w : World) (a b c d : Int) : (binOp .eql 27 (.agg #[.int .i64 a, .int .i64 b]) (.agg #[.int .i64 c, .int .i64 d])).run Try.prog w = .ok (.bool (a == c && b == d)) w := by
  have u3 := Try.underlying3
  have u4 := Try.underlying25
  have hS : Try.prog.underlying 27 = some (.struct (Try.prog.fieldsOf 27)) := by kernel_rfl
  have hp : Try.prog.stoodInHeld 27 = false := by kernel_rfl
  rw [run_eql_struct, show (10000 : Nat) = 9999 + 1 from rfl, run_equalIn_agg w 9999 27 _ _ hS hp]
  simp only [Program.fieldsOf, Try.underlying27]
  go_simp
  cases h1 : (a == c) <;> cases h2 : (b == d) <;> simp_all
theorem wake_rus (w : World) : Rus (w.alloc (.cells #[.int .i64 3, .string ⟨#[97]⟩, .string ⟨#[98, 47, 99]⟩, .int .i64 2, .string ⟨#[97, 47, 120]⟩, .string ⟨#[]⟩] 41)) (some ⟨w.heap.size, 0, none⟩) 2 rsW := by
  refine ⟨rfl, fun _ => ⟨_, 0, rfl, fun j x hx => ?_⟩⟩
  have h : (w.alloc (.cells #[.int .i64 3, .string ⟨#[97]⟩, .string ⟨#[98, 47, 99]⟩, .int .i64 2, .string ⟨#[97, 47, 120]⟩, .string ⟨#[]⟩] 41)).heap[w.heap.size]? = some (.cells #[.int .i64 3, .string ⟨#[97]⟩, .string ⟨#[98, 47, 99]⟩, .int .i64 2, .string ⟨#[97, 47, 120]⟩, .string ⟨#[]⟩] 41 (0, 0)) := World.alloc_heap_new w _
  match j, hx with
  | 0, hx => cases hx; refine ⟨?_, ?_, ?_⟩ <;> (simp only [World.cell?, h]; rfl)
  | 1, hx => cases hx; refine ⟨?_, ?_, ?_⟩ <;> (simp only [World.cell?, h]; rfl)
  | j + 2, hx => simp [rsW] at hx
set_option maxRecDepth 100000 in
set_option maxHeartbeats 4000000 in
theorem wakes14_any (w : World) : Calls Try.prog 5 #[] w fun e w' => e = .returned (.bool true) ∧ Below w.heap.size w w' := by
  have hnw := new_any (w.alloc (.cells #[.int .i64 3, .string ⟨#[97]⟩, .string ⟨#[98, 47, 99]⟩, .int .i64 2, .string ⟨#[97, 47, 120]⟩, .string ⟨#[]⟩] 41)) (some ⟨w.heap.size, 0, none⟩) 2 2 rsW (wake_rus w) (Nat.le_refl _) (by omega) (fun r hr => by
    simp only [rsW, List.mem_cons, List.not_mem_nil, or_false] at hr
    rcases hr with rfl | rfl <;> simp)
  have hef := fun W => eqF W 0 0 0 0
  have H0 : Hid (Below w.heap.size w (w.alloc (.cells #[.int .i64 3, .string ⟨#[97]⟩, .string ⟨#[98, 47, 99]⟩, .int .i64 2, .string ⟨#[97, 47, 120]⟩, .string ⟨#[]⟩] 41))) := (Below.refl _ w).alloc (Nat.le_refl _) _
  go_enter Try.func5, Try.ntmps5
  go_wp2_with fail
  refine hnw.mono ?_
  clear hnw
  rintro e w1 ⟨hN, hB1⟩
  obtain ⟨m, ks, rfl, hM, hK⟩ := wake_new hN
  clear hN
  obtain ⟨j1, j2⟩ := wake_img hK
  have H1 : Hid (Below w.heap.size w w1) := H0.out.trans (hB1.mono H0.out.size)
  have H2 : Hid (Below w.heap.size w (w1.alloc (.cells #[.int .i64 0, .int .i64 0] 27)) ∧ BoxF (w1.alloc (.cells #[.int .i64 0, .int .i64 0] 27)) w1.heap.size 0 0) := ⟨H1.out.alloc H1.out.size _, BoxF.new w1 0 0⟩
  have hM2 := hM.below ((Below.refl _ w1).alloc (Nat.le_refl _) (.cells #[.int .i64 0, .int .i64 0] 27))
  have hi1 := Iimage_any _ m _ ⟨#[97, 47, 121]⟩ hM2 (by decide)
  have hi2 := fun W hW => Iimage_any W m _ ⟨#[97, 47, 120, 47, 122]⟩ (hM2.below hW) (by decide)
  rw [show bs ⟨#[97, 47, 121]⟩ = [97, 47, 121] from rfl, j1] at hi1
  rw [show bs ⟨#[97, 47, 120, 47, 122]⟩ = [97, 47, 120, 47, 122] from rfl, j2] at hi2
  clear hM hM2 hK j1 j2 hB1 H0
  go_wp2_with fail
  refine hi1.mono ?_
  clear hi1
  generalize w1.alloc (.cells #[.int .i64 0, .int .i64 0] 27) = w2 at *
  rintro e w3 ⟨rfl, hB3⟩
  have hi3 := hi2 w3 hB3
  clear hi2
  have H3 : Hid (Below w.heap.size w w3 ∧ BoxF w3 w1.heap.size 0 0) := ⟨H2.out.1.trans (hB3.mono H2.out.1.size), H2.out.2.below hB3 H2.out.2.lt⟩
  clear hB3 H2
  generalize w1.heap.size = bf at *
  go_wp2_with fail
  refine hi3.mono ?_
  clear hi3
  rintro e w4 ⟨rfl, hB4⟩
  have H4 : Hid (Below w.heap.size w w4 ∧ BoxF w4 bf 0 0) := ⟨H3.out.1.trans (hB4.mono H3.out.1.size), H3.out.2.below hB4 H3.out.2.lt⟩
  clear hB4 H3
  obtain ⟨c0, c1⟩ := H4.out.2.cell
  have hbq : ((mk [98, 47, 99, 47, 121]).toList == [98, 47, 99, 47, 121]) = true := by
    rw [toList_bs, bs_mk]
    rfl
  go_wp2
  go_ret
  exact ⟨by rw [← hbq]; rfl, H4.out.1⟩
end Go.Proofs.Ytggnglgehobglaa

/- Rules that New takes agree, and so does their one form. -/
namespace Go.Proofs.Ytggnglgehobglaa

theorem restP_self (l : List UInt8) : restP l l = some [] := by
  unfold restP
  by_cases h : l = []
  · rw [if_pos h, h]
  · rw [if_neg h, if_pos rfl]
theorem agr_rules {rs : List Ru} {n : Nat} (hn : rs.length = n) (h : GoodU rs n) : AgrF rs := fun r hr s hs lr ls => by
  obtain ⟨i, hi, ei⟩ := List.getElem_of_mem hr
  obtain ⟨j, hj, ej⟩ := List.getElem_of_mem hs
  have key : ∀ (i j : Nat) (a b : Ru), i < n → j < i → rs[i]? = some a → rs[j]? = some b → letsK a.1 = true → letsK b.1 = true → folR a b = true ∧ folR b a = true := fun i j a b hi hji ha hb la lb => by
    have h1 := (besE_ok (h i a hi ha)).2.2 b (List.mem_of_getElem? (by rw [List.getElem?_take_of_lt hji]; exact hb))
    unfold agrR at h1
    rw [la, lb] at h1
    simpa using h1
  have gi : rs[i]? = some r := List.getElem?_eq_some_iff.2 ⟨hi, ei⟩
  have gj : rs[j]? = some s := List.getElem?_eq_some_iff.2 ⟨hj, ej⟩
  rcases Nat.lt_trichotomy i j with hij | rfl | hij
  · have := (key j i s r (by omega) hij gj gi ls lr).2
    unfold folR at this
    simpa using this
  · rw [gi] at gj
    cases gj
    rw [restP_self, restP_self]
  · have := (key i j r s (by omega) hij gi gj lr ls).1
    unfold folR at this
    simpa using this
theorem pln_from (r : Ru) : (plnR r).2.1 = r.2.1 := by
  unfold plnR
  split <;> rfl
theorem pln_to (r : Ru) : tgtR (plnR r) = tgtR r := by
  unfold plnR
  split
  · rename_i h
    unfold tgtR
    rw [if_pos rfl, if_neg (by rw [h.1]; decide), h.2]
  · rfl
theorem pln_lets (r : Ru) : letsK (plnR r).1 = letsK r.1 := by
  unfold plnR
  split
  · rename_i h
    rw [h.1]
    rfl
  · rfl
theorem form_mem {g : Tb} {ks : List (List UInt8)} {q : Ru} (hK : KeyL g ks) (h : q ∈ formT g ks) : ∃ x r, g x = some r ∧ q = plnR r := by
  unfold formT at h
  obtain ⟨x, hx, e⟩ := List.mem_filterMap.1 h
  obtain ⟨r, hr⟩ := Option.isSome_iff_exists.1 ((hK.mem x).1 hx)
  split at e
  · cases e
    exact ⟨x, r, hr, by rw [hr]; rfl⟩
  · cases e
/-- the one form's rules agree -/
theorem form_agr {rs : List Ru} {n : Nat} {ks : List (List UInt8)} (hn : rs.length = n) (h : GoodU rs n) (hK : KeyL (tabL rs) ks) : AgrF (formT (tabL rs) ks) := fun r hr s hs lr ls => by
  obtain ⟨x, r0, hr0, rfl⟩ := form_mem hK hr
  obtain ⟨y, s0, hs0, rfl⟩ := form_mem hK hs
  rw [pln_lets] at lr ls
  rw [pln_from, pln_from, pln_to, pln_to]
  exact agr_rules hn h r0 (tabL_mem rs x r0 hr0).1 s0 (tabL_mem rs y s0 hs0).1 lr ls
end Go.Proofs.Ytggnglgehobglaa

/- The walk of Rule. -/
namespace Go.Proofs.Ytggnglgehobglaa
open Go.RowKit Go.Shelf Go.Maps

attribute [local go_sem] Oper.semAt_some

/-- what Rule answers -/
def rulR (F : List Ru) (l : List UInt8) : Ru × Bool := if isP l = true then (ruleT (tabL F) l, decide (ruleT (tabL F) l ≠ noR)) else (noR, false)
end Go.Proofs.Ytggnglgehobglaa
