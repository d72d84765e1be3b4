import Derived.Test.YtggnglgehobglaaL43
import Derived.Test.YtggnglgehobglaaL44
import Derived.Test.YtggnglgehobglaaL45
import Derived.Test.YtggnglgehobglaaL46
import Derived.Test.YtggnglgehobglaaL21
/- What PathmapTwo asks, plain; what New answers, whatever it is. -/
namespace Go.Proofs.Ytggnglgehobglaa
open Go.RowKit Go.Shelf Go.Maps

/-- the images of two sets, one behind the other -/
theorem two_img {F G : List Ru} (hFo : FOk F) (hGo : FOk G) (hF : FormU F) (hG : FormU G) {ks : List (List UInt8)} (hK : KeyL (tabL (thL F G)) ks) {l : List UInt8} (hl : isP l = true) : imgL (formT (tabL (thL F G)) ks) l = (imgL F l).bind (imgL G) := by
  obtain ⟨hC, him⟩ := th_formU hFo hGo hF hG hK
  have hX := isP_good hl
  have h1 := hC.img hX
  have h2 := (bind_im hF hG hX).1
  rw [glue_parts] at h1 h2
  rw [h1, h2, him]
theorem thr_path {l x : List UInt8} (h1 : isP l = true) (h2 : isP x = true) (R : Option (List UInt8)) : thr l R = thr x R := by
  unfold thr
  rw [if_neg (by rw [h1]; decide), if_neg (by rw [h2]; decide)]
theorem two1 {F G : List Ru} (hFo : FOk F) (hGo : FOk G) (hF : FormU F) (hG : FormU G) {ks : List (List UInt8)} (hK : KeyL (tabL (thL F G)) ks) {l : List UInt8} (h : (thr l (imgL F l)).2 = 0) : ∃ x, thr l (imgL F l) = (x, 0) ∧ isP x = true ∧ thr l (imgL (formT (tabL (thL F G)) ks) l) = thr x (imgL G x) := by
  obtain ⟨h1, x, h2, h3, h4⟩ := thr_zero h
  refine ⟨x, h4, h3, ?_⟩
  rw [two_img hFo hGo hF hG hK h1, h2]
  exact thr_path h1 h3 _
theorem two2 {F G : List Ru} (hFo : FOk F) (hGo : FOk G) (hF : FormU F) (hG : FormU G) {ks : List (List UInt8)} (hK : KeyL (tabL (thL F G)) ks) {l : List UInt8} (h : (thr l (imgL F l)).2 ≠ 0) (h' : (thr l (imgL F l)).2 ≠ 3) : thr l (imgL (formT (tabL (thL F G)) ks) l) = ([], (thr l (imgL F l)).2) := by
  by_cases hl : isP l = true
  · rw [two_img hFo hGo hF hG hK hl]
    cases e : imgL F l with
    | none =>
      show thr l none = ([], (thr l none).2)
      unfold thr
      rw [if_neg (by rw [hl]; decide)]
    | some x =>
      exfalso
      rw [e] at h h'
      unfold thr at h h'
      rw [if_neg (by rw [hl]; decide)] at h h'
      simp only at h h'
      by_cases hx : isP x = true
      · rw [if_pos hx] at h
        exact h rfl
      · rw [if_neg hx] at h'
        exact h' rfl
  · have hl' : isP l = false := by simpa using hl
    unfold thr
    rw [if_pos hl', if_pos hl']
/-- what keeps all, ahead or behind -/
theorem two_trv {F : List Ru} (hFo : FOk F) (hF : FormU F) {ks : List (List UInt8)} (hK : KeyL (tabL (thL F trvL)) ks) : formT (tabL (thL F trvL)) ks = F := by
  obtain ⟨hC, him⟩ := th_formU hFo trv_ok hF trv_formU hK
  refine hC.eq hF (fun A => ?_)
  rw [him]
  unfold thnI
  cases imN (hT (tabL F)) A with
  | none => rfl
  | some X => exact trv_im X
theorem trv_two {F : List Ru} (hFo : FOk F) (hF : FormU F) {ks : List (List UInt8)} (hK : KeyL (tabL (thL trvL F)) ks) : formT (tabL (thL trvL F)) ks = F := by
  obtain ⟨hC, him⟩ := th_formU trv_ok hFo trv_formU hF hK
  refine hC.eq hF (fun A => ?_)
  rw [him]
  unfold thnI
  rw [trv_im]; rfl
/-- what New answers, whatever it is -/
def NewU (e : Ending) (w : World) : Prop := ∃ (v : Value) (E X : Int), e = .returned (.tuple #[v, .agg #[.int .i64 E, .int .i64 X]]) ∧ (E = 0 → X = 0 ∧ ∃ m F, v = .pointer (some ⟨m, 0, none⟩) ∧ MpAt w m F ∧ FormU F ∧ F.length ≤ 64) ∧ (E ≠ 0 → v = .pointer none)
theorem new_u (w : World) (ad : Option Addr) (c : Nat) (cs : List Ru) (hl : Rus w ad cs.length cs) (hnc : cs.length ≤ c) (hn : cs.length ≤ 66) (hz : ∀ r ∈ cs, r.2.1.length ≤ 100000 ∧ r.2.2.length ≤ 100000) :
    Calls Try.prog 6 #[.slice ad cs.length c] w fun e w' => NewU e w' ∧ Below w.heap.size w w' := by
  refine (new_any w ad cs.length c cs hl hnc (by omega) hz).mono ?_
  rintro e w' ⟨hN, hB⟩
  refine ⟨?_, hB⟩
  rcases hN with ⟨_, he⟩ | ⟨_, k, r, _, hb, _, he⟩ | ⟨h64, hG, m, ks, he, hM, hK⟩
  · exact ⟨_, _, _, he, fun h => (by cases h), fun _ => rfl⟩
  · exact ⟨_, _, _, he, fun h => absurd h hb, fun _ => rfl⟩
  · refine ⟨_, _, _, he, fun _ => ⟨rfl, m, _, rfl, hM, new_formU rfl hG hK, ?_⟩, fun h => absurd rfl h⟩
    have h1 := formT_len (tabL cs) ks
    have h2 := key_len hK
    omega
theorem cut_small (rs : List Ru) : (cutR rs).length ≤ 66 ∧ ∀ r ∈ cutR rs, r.2.1.length ≤ 100000 ∧ r.2.2.length ≤ 100000 := by
  refine ⟨?_, fun r hr => ?_⟩
  · unfold cutR
    rw [List.length_map, List.length_take]
    omega
  · unfold cutR at hr
    obtain ⟨q, _, rfl⟩ := List.mem_map.1 hr
    simp only [c300, List.length_take]
    omega
/-- the law's cut, and New of it -/
theorem cut_row {w2 w : World} {rs : List Ru} {ad : Option Addr} {c' : Nat} (hrow : w2.ownsRow w.heap.size 41 3 (.slice ad (cutR rs).length c') (cutR rs).length (ruCells (cutR rs))) :
    Calls Try.prog 6 #[.slice ad (cutR rs).length c'] w2 fun e w' => NewU e w' ∧ Below w2.heap.size w2 w' := by
  obtain ⟨ad', c2, e', hnc', hnil'⟩ := row_shapeR hrow
  cases e'
  exact new_u w2 ad c' (cutR rs) (own_rus hrow rfl) hnc' (cut_small rs).1 (cut_small rs).2
end Go.Proofs.Ytggnglgehobglaa

/- The walk of the law's wakes. -/
namespace Go.Proofs.Ytggnglgehobglaa
open Go.RowKit Go.Shelf Go.Maps

attribute [local go_sem] Oper.semAt_some

def rsW : List Ru := [(3, [97], [98, 47, 99]), (2, [97, 47, 120], [])]
theorem wake_good : GoodU rsW 2 := fun j r hj hr => by
  match j, hr with
  | 0, hr => cases hr; decide +kernel
  | 1, hr => cases hr; decide +kernel
  | j + 2, _ => omega
theorem wake_keys {ks : List (List UInt8)} (h : KeyL (tabL rsW) ks) : ks = [[97], [97, 47, 120]] ∨ ks = [[97, 47, 120], [97]] := by
  have hm : ∀ x, x ∈ ks ↔ x ∈ [[97], [97, 47, 120]] := fun x => by
    rw [h.mem]
    show (setT (setT (fun _ => none) [97] (3, [97], [98, 47, 99])) [97, 47, 120] (2, [97, 47, 120], []) x).isSome = true ↔ _
    unfold setT
    by_cases h1 : x = [97, 47, 120]
    · simp [h1]
    · by_cases h2 : x = [97]
      · simp [h2]
      · simp [h1, h2]
  have hp : ks.Perm [[97], [97, 47, 120]] := (List.perm_ext_iff_of_nodup h.nd (by decide)).2 hm
  have hl := hp.length_eq
  match ks, hl, h.nd, hm with
  | [x, y], _, hn, hm =>
    have h1 := (hm x).1 (by simp)
    have h2 := (hm y).1 (by simp)
    have h3 : x ≠ y := by simpa using hn
    simp only [List.mem_cons, List.not_mem_nil, or_false] at h1 h2
    rcases h1 with rfl | rfl <;> rcases h2 with rfl | rfl
    · exact absurd rfl h3
    · exact .inl rfl
    · exact .inr rfl
    · exact absurd rfl h3
theorem wake_img {ks : List (List UInt8)} (h : KeyL (tabL rsW) ks) : thr [97, 47, 121] (imgL (formT (tabL rsW) ks) [97, 47, 121]) = ([98, 47, 99, 47, 121], 0) ∧ thr [97, 47, 120, 47, 122] (imgL (formT (tabL rsW) ks) [97, 47, 120, 47, 122]) = ([], 4) := by
  rcases wake_keys h with rfl | rfl
  · exact ⟨by decide +kernel, by decide +kernel⟩
  · exact ⟨by decide +kernel, by decide +kernel⟩
theorem wake_new {w : World} {e : Ending} (h : NewR rsW 2 e w) : ∃ m ks, e = .returned (.tuple #[.pointer (some ⟨m, 0, none⟩), .agg #[.int .i64 0, .int .i64 0]]) ∧ MpAt w m (formT (tabL rsW) ks) ∧ KeyL (tabL rsW) ks := by
  rcases h with ⟨h, _⟩ | ⟨_, k, r, hr, hb, _⟩ | ⟨_, _, h⟩
  · omega
  · exfalso
    have hk : k < 2 := (List.getElem?_eq_some_iff.1 hr).1
    exact hb (wake_good k r hk hr)
  · exact h
theorem eqF (w : World) (a b c d : Int) : (binOp .eql 27 (.agg #[.int .i64 a, .int .i64 b]) (.agg #[.int .i64 c, .int .i64 d])).run Try.prog w = .ok (.bool (a == c && b == d)) w := by
  have u3 := Try.underlying3
  have u4 := Try.underlying25
  have hS : Try.prog.underlying 27 = some (.struct (Try.prog.fieldsOf 27)) := by kernel_rfl
  have hp : Try.prog.stoodInHeld 27 = false := by kernel_rfl
  rw [run_eql_struct, show (10000 : Nat) = 9999 + 1 from rfl, run_equalIn_agg w 9999 27 _ _ hS hp]
  simp only [Program.fieldsOf, Try.underlying27]
  go_simp
  cases h1 : (a == c) <;> cases h2 : (b == d) <;> simp_all
theorem wake_rus (w : World) : Rus (w.alloc (.cells #[.int .i64 3, .string ⟨#[97]⟩, .string ⟨#[98, 47, 99]⟩, .int .i64 2, .string ⟨#[97, 47, 120]⟩, .string ⟨#[]⟩] 41)) (some ⟨w.heap.size, 0, none⟩) 2 rsW := by
  refine ⟨rfl, fun _ => ⟨_, 0, rfl, fun j x hx => ?_⟩⟩
  have h : (w.alloc (.cells #[.int .i64 3, .string ⟨#[97]⟩, .string ⟨#[98, 47, 99]⟩, .int .i64 2, .string ⟨#[97, 47, 120]⟩, .string ⟨#[]⟩] 41)).heap[w.heap.size]? = some (.cells #[.int .i64 3, .string ⟨#[97]⟩, .string ⟨#[98, 47, 99]⟩, .int .i64 2, .string ⟨#[97, 47, 120]⟩, .string ⟨#[]⟩] 41 (0, 0)) := World.alloc_heap_new w _
  match j, hx with
  | 0, hx => cases hx; refine ⟨?_, ?_, ?_⟩ <;> (simp only [World.cell?, h]; rfl)
  | 1, hx => cases hx; refine ⟨?_, ?_, ?_⟩ <;> (simp only [World.cell?, h]; rfl)
  | j + 2, hx => simp [rsW] at hx
set_option maxRecDepth 100000 in
set_option maxHeartbeats 4000000 in
theorem wakes14_any (w : World) : Calls Try.prog 5 #[] w fun e w' => e = .returned (.bool true) ∧ Below w.heap.size w w' := by
  have hnw := new_any (w.alloc (.cells #[.int .i64 3, .string ⟨#[97]⟩, .string ⟨#[98, 47, 99]⟩, .int .i64 2, .string ⟨#[97, 47, 120]⟩, .string ⟨#[]⟩] 41)) (some ⟨w.heap.size, 0, none⟩) 2 2 rsW (wake_rus w) (Nat.le_refl _) (by omega) (fun r hr => by
    simp only [rsW, List.mem_cons, List.not_mem_nil, or_false] at hr
    rcases hr with rfl | rfl <;> simp)
  have hef := fun W => eqF W 0 0 0 0
  have H0 : Hid (Below w.heap.size w (w.alloc (.cells #[.int .i64 3, .string ⟨#[97]⟩, .string ⟨#[98, 47, 99]⟩, .int .i64 2, .string ⟨#[97, 47, 120]⟩, .string ⟨#[]⟩] 41))) := (Below.refl _ w).alloc (Nat.le_refl _) _
  go_enter Try.func5, Try.ntmps5
  go_wp2_with fail
  refine hnw.mono ?_
  clear hnw
  rintro e w1 ⟨hN, hB1⟩
  obtain ⟨m, ks, rfl, hM, hK⟩ := wake_new hN
  clear hN
  obtain ⟨j1, j2⟩ := wake_img hK
  have H1 : Hid (Below w.heap.size w w1) := H0.out.trans (hB1.mono H0.out.size)
  have H2 : Hid (Below w.heap.size w (w1.alloc (.cells #[.int .i64 0, .int .i64 0] 27)) ∧ BoxF (w1.alloc (.cells #[.int .i64 0, .int .i64 0] 27)) w1.heap.size 0 0) := ⟨H1.out.alloc H1.out.size _, BoxF.new w1 0 0⟩
  have hM2 := hM.below ((Below.refl _ w1).alloc (Nat.le_refl _) (.cells #[.int .i64 0, .int .i64 0] 27))
  have hi1 := Iimage_any _ m _ ⟨#[97, 47, 121]⟩ hM2 (by decide)
  have hi2 := fun W hW => Iimage_any W m _ ⟨#[97, 47, 120, 47, 122]⟩ (hM2.below hW) (by decide)
  rw [show bs ⟨#[97, 47, 121]⟩ = [97, 47, 121] from rfl, j1] at hi1
  rw [show bs ⟨#[97, 47, 120, 47, 122]⟩ = [97, 47, 120, 47, 122] from rfl, j2] at hi2
  clear hM hM2 hK j1 j2 hB1 H0
  go_wp2_with fail
  refine hi1.mono ?_
  clear hi1
  generalize w1.alloc (.cells #[.int .i64 0, .int .i64 0] 27) = w2 at *
  rintro e w3 ⟨rfl, hB3⟩
  have hi3 := hi2 w3 hB3
  clear hi2
  have H3 : Hid (Below w.heap.size w w3 ∧ BoxF w3 w1.heap.size 0 0) := ⟨H2.out.1.trans (hB3.mono H2.out.1.size), H2.out.2.below hB3 H2.out.2.lt⟩
  clear hB3 H2
  generalize w1.heap.size = bf at *
  go_wp2_with fail
  refine hi3.mono ?_
  clear hi3
  rintro e w4 ⟨rfl, hB4⟩
  have H4 : Hid (Below w.heap.size w w4 ∧ BoxF w4 bf 0 0) := ⟨H3.out.1.trans (hB4.mono H3.out.1.size), H3.out.2.below hB4 H3.out.2.lt⟩
  clear hB4 H3
  obtain ⟨c0, c1⟩ := H4.out.2.cell
  have hbq : ((mk [98, 47, 99, 47, 121]).toList == [98, 47, 99, 47, 121]) = true := by
    rw [toList_bs, bs_mk]
    rfl
  go_wp2
  go_ret
  exact ⟨by rw [← hbq]; rfl, H4.out.1⟩
end Go.Proofs.Ytggnglgehobglaa
