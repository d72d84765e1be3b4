import Derived.Test.YtggnglgehobglaaGreatDoorT39
import Derived.Test.YtggnglgehobglaaGreatDoorT18
import Derived.Test.YtggnglgehobglaaGreatDoorT46
/- The walk of the law's wakes. -/
namespace Go.Proofs.YtggnglgehobglaaGreatDoor
open Go.RowKit Go.Shelf Go.Maps

attribute [local go_sem] Oper.semAt_some

def rsW : List Ru := [(3, [97], [98, 47, 99]), (2, [97, 47, 120], [])]
theorem wake_good : GoodU rsW 2 := fun j r hj hr => by
  match j, hr with
  | 0, hr => cases hr; decide +kernel
  | 1, hr => cases hr; decide +kernel
  | j + 2, _ => omega
theorem wake_keys {ks : List (List UInt8)} (h : KeyL (tabL rsW) ks) : ks = [[97], [97, 47, 120]] ∨ ks = [[97, 47, 120], [97]] := by
  have hm : ∀ x, x ∈ ks ↔ x ∈ [[97], [97, 47, 120]] := fun x => by
    rw [h.mem]
    show (setT (setT (fun _ => none) [97] (3, [97], [98, 47, 99])) [97, 47, 120] (2, [97, 47, 120], []) x).isSome = true ↔ _
    unfold setT
    by_cases h1 : x = [97, 47, 120]
    · simp [h1]
    · by_cases h2 : x = [97]
      · simp [h2]
      · simp [h1, h2]
  have hp : ks.Perm [[97], [97, 47, 120]] := (List.perm_ext_iff_of_nodup h.nd (by decide)).2 hm
  have hl := hp.length_eq
  match ks, hl, h.nd, hm with
  | [x, y], _, hn, hm =>
    have h1 := (hm x).1 (by simp)
    have h2 := (hm y).1 (by simp)
    have h3 : x ≠ y := by simpa using hn
    simp only [List.mem_cons, List.not_mem_nil, or_false] at h1 h2
    rcases h1 with rfl | rfl <;> rcases h2 with rfl | rfl
    · exact absurd rfl h3
    · exact .inl rfl
    · exact .inr rfl
    · exact absurd rfl h3
theorem wake_img {ks : List (List UInt8)} (h : KeyL (tabL rsW) ks) : thr [97, 47, 121] (imgL (formT (tabL rsW) ks) [97, 47, 121]) = ([98, 47, 99, 47, 121], 0) ∧ thr [97, 47, 120, 47, 122] (imgL (formT (tabL rsW) ks) [97, 47, 120, 47, 122]) = ([], 4) := by
  rcases wake_keys h with rfl | rfl
  · exact ⟨by decide +kernel, by decide +kernel⟩
  · exact ⟨by decide +kernel, by decide +kernel⟩
theorem wake_new {w : World} {e : Ending} (h : NewR rsW 2 e w) : ∃ m ks, e = .returned (.tuple #[.pointer (some ⟨m, 0, none⟩), .agg #[.int .i64 0, .int .i64 0]]) ∧ MpAt w m (formT (tabL rsW) ks) ∧ KeyL (tabL rsW) ks := by
  rcases h with ⟨h, _⟩ | ⟨_, k, r, hr, hb, _⟩ | ⟨_, _, h⟩
  · omega
  · exfalso
    have hk : k < 2 := (List.getElem?_eq_some_iff.1 hr).1
    exact hb (wake_good k r hk hr)
  · exact h
theorem eqF (w : World) (a b c d : Int) : (binOp .eql 45 (.agg #[.int .i64 a, .int .i64 b]) (.agg #[.int .i64 c, .int .i64 d])).run Tryz.prog w = .ok (.bool (a == c && b == d)) w := by
  have u3 := Tryz.underlying3
  have u4 := Tryz.underlying25
  have hS : Tryz.prog.underlying 45 = some (.struct (Tryz.prog.fieldsOf 45)) := by kernel_rfl
  have hp : Tryz.prog.stoodInHeld 45 = false := by kernel_rfl
  rw [run_eql_struct, show (10000 : Nat) = 9999 + 1 from rfl, run_equalIn_agg w 9999 45 _ _ hS hp]
  simp only [Program.fieldsOf, Tryz.underlying45]
  go_simp
  cases h1 : (a == c) <;> cases h2 : (b == d) <;> simp_all
theorem wake_rus (w : World) : Rus (w.alloc (.cells #[.int .i64 3, .string ⟨#[97]⟩, .string ⟨#[98, 47, 99]⟩, .int .i64 2, .string ⟨#[97, 47, 120]⟩, .string ⟨#[]⟩] 31)) (some ⟨w.heap.size, 0, none⟩) 2 rsW := by
  refine ⟨rfl, fun _ => ⟨_, 0, rfl, fun j x hx => ?_⟩⟩
  have h : (w.alloc (.cells #[.int .i64 3, .string ⟨#[97]⟩, .string ⟨#[98, 47, 99]⟩, .int .i64 2, .string ⟨#[97, 47, 120]⟩, .string ⟨#[]⟩] 31)).heap[w.heap.size]? = some (.cells #[.int .i64 3, .string ⟨#[97]⟩, .string ⟨#[98, 47, 99]⟩, .int .i64 2, .string ⟨#[97, 47, 120]⟩, .string ⟨#[]⟩] 31 (0, 0)) := World.alloc_heap_new w _
  match j, hx with
  | 0, hx => cases hx; refine ⟨?_, ?_, ?_⟩ <;> (simp only [World.cell?, h]; rfl)
  | 1, hx => cases hx; refine ⟨?_, ?_, ?_⟩ <;> (simp only [World.cell?, h]; rfl)
  | j + 2, hx => simp [rsW] at hx
set_option maxRecDepth 100000 in
set_option maxHeartbeats 4000000 in
theorem wakes14_any (w : World) : Calls Tryz.prog 6 #[] w fun e w' => e = .returned (.bool true) ∧ Below w.heap.size w w' := by
  have hnw := new_any (w.alloc (.cells #[.int .i64 3, .string ⟨#[97]⟩, .string ⟨#[98, 47, 99]⟩, .int .i64 2, .string ⟨#[97, 47, 120]⟩, .string ⟨#[]⟩] 31)) (some ⟨w.heap.size, 0, none⟩) 2 2 rsW (wake_rus w) (Nat.le_refl _) (by omega) (fun r hr => by
    simp only [rsW, List.mem_cons, List.not_mem_nil, or_false] at hr
    rcases hr with rfl | rfl <;> simp)
  have hef := fun W => eqF W 0 0 0 0
  have H0 : Hid (Below w.heap.size w (w.alloc (.cells #[.int .i64 3, .string ⟨#[97]⟩, .string ⟨#[98, 47, 99]⟩, .int .i64 2, .string ⟨#[97, 47, 120]⟩, .string ⟨#[]⟩] 31))) := (Below.refl _ w).alloc (Nat.le_refl _) _
  go_enter Tryz.func6, Tryz.ntmps6
  go_wp2_with fail
  refine hnw.mono ?_
  clear hnw
  rintro e w1 ⟨hN, hB1⟩
  obtain ⟨m, ks, rfl, hM, hK⟩ := wake_new hN
  clear hN
  obtain ⟨j1, j2⟩ := wake_img hK
  have H1 : Hid (Below w.heap.size w w1) := H0.out.trans (hB1.mono H0.out.size)
  have H2 : Hid (Below w.heap.size w (w1.alloc (.cells #[.int .i64 0, .int .i64 0] 45)) ∧ BoxF (w1.alloc (.cells #[.int .i64 0, .int .i64 0] 45)) w1.heap.size 0 0) := ⟨H1.out.alloc H1.out.size _, BoxF.new w1 0 0⟩
  have hM2 := hM.below ((Below.refl _ w1).alloc (Nat.le_refl _) (.cells #[.int .i64 0, .int .i64 0] 45))
  have hi1 := Iimage_any _ m _ ⟨#[97, 47, 121]⟩ hM2 (by decide)
  have hi2 := fun W hW => Iimage_any W m _ ⟨#[97, 47, 120, 47, 122]⟩ (hM2.below hW) (by decide)
  rw [show bs ⟨#[97, 47, 121]⟩ = [97, 47, 121] from rfl, j1] at hi1
  rw [show bs ⟨#[97, 47, 120, 47, 122]⟩ = [97, 47, 120, 47, 122] from rfl, j2] at hi2
  clear hM hM2 hK j1 j2 hB1 H0
  go_wp2_with fail
  refine hi1.mono ?_
  clear hi1
  generalize w1.alloc (.cells #[.int .i64 0, .int .i64 0] 45) = w2 at *
  rintro e w3 ⟨rfl, hB3⟩
  have hi3 := hi2 w3 hB3
  clear hi2
  have H3 : Hid (Below w.heap.size w w3 ∧ BoxF w3 w1.heap.size 0 0) := ⟨H2.out.1.trans (hB3.mono H2.out.1.size), H2.out.2.below hB3 H2.out.2.lt⟩
  clear hB3 H2
  generalize w1.heap.size = bf at *
  go_wp2_with fail
  refine hi3.mono ?_
  clear hi3
  rintro e w4 ⟨rfl, hB4⟩
  have H4 : Hid (Below w.heap.size w w4 ∧ BoxF w4 bf 0 0) := ⟨H3.out.1.trans (hB4.mono H3.out.1.size), H3.out.2.below hB4 H3.out.2.lt⟩
  clear hB4 H3
  obtain ⟨c0, c1⟩ := H4.out.2.cell
  have hbq : ((mk [98, 47, 99, 47, 121]).toList == [98, 47, 99, 47, 121]) = true := by
    rw [toList_bs, bs_mk]
    rfl
  go_wp2
  go_ret
  exact ⟨by rw [← hbq]; rfl, H4.out.1⟩
end Go.Proofs.YtggnglgehobglaaGreatDoor

/- The walk of PathmapThree (genthree14.py). -/
namespace Go.Proofs.YtggnglgehobglaaGreatDoor
open Go.RowKit Go.Shelf Go.Maps

attribute [local go_sem] Oper.semAt_some

/-- a Map that New made -/
def NewV (v : Value) (w : World) : Prop := ∃ m F, v = .pointer (some ⟨m, 0, none⟩) ∧ MpAt w m F ∧ FormU F ∧ F.length ≤ 64
theorem NewV.below {v : Value} {w w' : World} (h : NewV v w) (hB : Below w.heap.size w w') : NewV v w' := by
  obtain ⟨m, F, h1, h2, h3⟩ := h
  exact ⟨m, F, h1, h2.below hB, h3⟩
theorem new_v {rs : List Ru} {w2 w : World} {ad : Option Addr} {c' : Nat} (hrow : w2.ownsRow w.heap.size 31 3 (.slice ad (cutR rs).length c') (cutR rs).length (ruCells (cutR rs))) :
    Calls Tryz.prog 20 #[.slice ad (cutR rs).length c'] w2 fun e w' => (∃ v E X, e = .returned (.tuple #[v, .agg #[.int .i64 E, .int .i64 X]]) ∧ (E = 0 → NewV v w')) ∧ Below w2.heap.size w2 w' :=
  (cut_row hrow).mono fun _ _ ⟨⟨v, E, X, h1, h2, _⟩, hB⟩ => ⟨⟨v, E, X, h1, fun h => (h2 h).2⟩, hB⟩
/-- what Compose answers, whatever it is -/
def CompV (v : Value) (w : World) (F G : List Ru) : Prop := ∃ m ks, v = .pointer (some ⟨m, 0, none⟩) ∧ KeyL (tabL (thL F G)) ks ∧ MpAt w m (formT (tabL (thL F G)) ks)
theorem CompV.below {v : Value} {w w' : World} {F G : List Ru} (h : CompV v w F G) (hB : Below w.heap.size w w') : CompV v w' F G := by
  obtain ⟨m, ks, h1, h2, h3⟩ := h
  exact ⟨m, ks, h1, h2, h3.below hB⟩
theorem comp_v (w : World) (a b : Nat) (F G : List Ru) (hM : MpAt w a F) (hV : MpAt w b G) :
    Calls Tryz.prog 10 #[.pointer (some ⟨a, 0, none⟩), .pointer (some ⟨b, 0, none⟩)] w fun e w' => (∃ v E, e = .returned (.tuple #[v, .int .i64 E]) ∧ (E = 0 → CompV v w' F G)) ∧ Below w.heap.size w w' := by
  refine (compose_any w a b F G hM hV).mono ?_
  rintro e w' ⟨⟨ks, hK, h⟩, hB⟩
  refine ⟨?_, hB⟩
  rcases h with ⟨_, rfl⟩ | ⟨_, v, rfl, hMv⟩
  · exact ⟨_, _, rfl, fun h => by cases h⟩
  · exact ⟨_, _, rfl, fun _ => ⟨v, ks, rfl, hK, hMv⟩⟩

set_option maxRecDepth 100000 in
set_option maxHeartbeats 8000000 in
theorem pathmapThree_walk (a1 : Option Addr) (n1 c1 : Nat) (r1 : List Ru) (a2 : Option Addr) (n2 c2 : Nat) (r2 : List Ru) (a3 : Option Addr) (n3 c3 : Nat) (r3 : List Ru) (w : World)
    (h1 : Rus w a1 n1 r1) (s1 : ∀ x ∈ r1, x.2.1.length ≤ maxLen ∧ x.2.2.length ≤ maxLen) (o1 : n1 * 40 ≤ 140737488351232) (_ : a1 = none → n1 = 0 ∧ c1 = 0)
    (h2 : Rus w a2 n2 r2) (s2 : ∀ x ∈ r2, x.2.1.length ≤ maxLen ∧ x.2.2.length ≤ maxLen) (o2 : n2 * 40 ≤ 140737488351232) (_ : a2 = none → n2 = 0 ∧ c2 = 0)
    (h3 : Rus w a3 n3 r3) (s3 : ∀ x ∈ r3, x.2.1.length ≤ maxLen ∧ x.2.2.length ≤ maxLen) (o3 : n3 * 40 ≤ 140737488351232) (_ : a3 = none → n3 = 0 ∧ c3 = 0) (hT : Tabs w) :
    Calls Tryz.prog 5 #[.slice a1 n1 c1, .slice a2 n2 c2, .slice a3 n3 c3] w fun e w' => e = .returned (.bool true) ∧ Below w.heap.size w w' := by
  have cA := fun W (hW : Below w.heap.size w W) => cut14_any W a1 n1 c1 r1 (h1.kept hW) (by omega) s1
  have cB := fun W (hW : Below w.heap.size w W) => cut14_any W a2 n2 c2 r2 (h2.kept hW) (by omega) s2
  have cC := fun W (hW : Below w.heap.size w W) => cut14_any W a3 n3 c3 r3 (h3.kept hW) (by omega) s3
  have HTb : Hid (∀ W, Below w.heap.size w W → Tabs W) := fun W hW => hT.below hW
  clear h1 s1 o1 h2 s2 o2 h3 s3 o3 hT
  go_enter Tryz.func5, Tryz.ntmps5
  go_wp2_with fail
  refine (wakes14_any _).mono ?_
  rintro e w0 ⟨rfl, hB⟩
  have H0 : Hid (Below w.heap.size w w0) := hB
  clear hB
  go_wp2_with fail
  refine (cA _ H0.out).mono ?_
  clear cA
  rintro e u1 ⟨ad1, d1, rfl, hrow, hB⟩
  have Hu1 : Hid (Below w.heap.size w u1) := H0.out.trans (hB.mono H0.out.size)
  have cN := new_v hrow
  clear hrow hB H0
  generalize (cutR r1).length = N1 at *
  go_wp2_with fail
  refine cN.mono ?_
  clear cN
  rintro e v1 ⟨⟨p1, E1, X1, rfl, hE⟩, hB⟩
  have Hv1 : Hid (Below w.heap.size w (v1.alloc (.cells #[.int .i64 E1, .int .i64 X1] 45)) ∧ BoxF (v1.alloc (.cells #[.int .i64 E1, .int .i64 X1] 45)) v1.heap.size E1 X1 ∧ (E1 = 0 → NewV p1 (v1.alloc (.cells #[.int .i64 E1, .int .i64 X1] 45)))) := by
    have hB2 : Below w.heap.size w v1 := Hu1.out.trans (hB.mono Hu1.out.size)
    have hB3 : Below v1.heap.size v1 (v1.alloc (.cells #[.int .i64 E1, .int .i64 X1] 45)) := (Below.refl _ v1).alloc (Nat.le_refl _) _
    exact ⟨hB2.alloc hB2.size _, BoxF.new v1 E1 X1, fun h => (hE h).below hB3⟩
  clear hE hB Hu1
  go_upto_region 4 with fail
  generalize v1.alloc (.cells #[.int .i64 E1, .int .i64 X1] 45) = w1 at *
  generalize v1.heap.size = b1 at *
  have Hw1 := Hv1
  clear Hv1
  go_wp2_with fail
  refine (cB _ Hw1.out.1).mono ?_
  clear cB
  rintro e u2 ⟨ad2, d2, rfl, hrow, hB⟩
  have Hu2 : Hid (Below w.heap.size w u2 ∧ BoxF u2 b1 E1 X1 ∧ (E1 = 0 → NewV p1 u2)) := ⟨Hw1.out.1.trans (hB.mono Hw1.out.1.size), (Hw1.out.2.1).below hB (Hw1.out.2.1).lt, fun h => (Hw1.out.2.2 h).below hB⟩
  have cN := new_v hrow
  clear hrow hB Hw1
  generalize (cutR r2).length = N2 at *
  go_wp2_with fail
  refine cN.mono ?_
  clear cN
  rintro e v2 ⟨⟨p2, E2, X2, rfl, hE⟩, hB⟩
  have Hv2 : Hid (Below w.heap.size w (v2.alloc (.cells #[.int .i64 E2, .int .i64 X2] 45)) ∧ BoxF (v2.alloc (.cells #[.int .i64 E2, .int .i64 X2] 45)) b1 E1 X1 ∧ (E1 = 0 → NewV p1 (v2.alloc (.cells #[.int .i64 E2, .int .i64 X2] 45))) ∧ BoxF (v2.alloc (.cells #[.int .i64 E2, .int .i64 X2] 45)) v2.heap.size E2 X2 ∧ (E2 = 0 → NewV p2 (v2.alloc (.cells #[.int .i64 E2, .int .i64 X2] 45)))) := by
    have hB2 : Below w.heap.size w v2 := Hu2.out.1.trans (hB.mono Hu2.out.1.size)
    have hB3 : Below v2.heap.size v2 (v2.alloc (.cells #[.int .i64 E2, .int .i64 X2] 45)) := (Below.refl _ v2).alloc (Nat.le_refl _) _
    exact ⟨hB2.alloc hB2.size _, ((Hu2.out.2.1).below hB (Hu2.out.2.1).lt).below hB3 ((Hu2.out.2.1).below hB (Hu2.out.2.1).lt).lt, fun h => ((Hu2.out.2.2 h).below hB).below hB3, BoxF.new v2 E2 X2, fun h => (hE h).below hB3⟩
  clear hE hB Hu2
  go_upto_region 5 with fail
  generalize v2.alloc (.cells #[.int .i64 E2, .int .i64 X2] 45) = w2 at *
  generalize v2.heap.size = b2 at *
  have Hw2 := Hv2
  clear Hv2
  go_wp2_with fail
  refine (cC _ Hw2.out.1).mono ?_
  clear cC
  rintro e u3 ⟨ad3, d3, rfl, hrow, hB⟩
  have Hu3 : Hid (Below w.heap.size w u3 ∧ BoxF u3 b1 E1 X1 ∧ (E1 = 0 → NewV p1 u3) ∧ BoxF u3 b2 E2 X2 ∧ (E2 = 0 → NewV p2 u3)) := ⟨Hw2.out.1.trans (hB.mono Hw2.out.1.size), (Hw2.out.2.1).below hB (Hw2.out.2.1).lt, fun h => (Hw2.out.2.2.1 h).below hB, (Hw2.out.2.2.2.1).below hB (Hw2.out.2.2.2.1).lt, fun h => (Hw2.out.2.2.2.2 h).below hB⟩
  have cN := new_v hrow
  clear hrow hB Hw2
  generalize (cutR r3).length = N3 at *
  go_wp2_with fail
  refine cN.mono ?_
  clear cN
  rintro e v3 ⟨⟨p3, E3, X3, rfl, hE⟩, hB⟩
  have Hv3 : Hid (Below w.heap.size w (v3.alloc (.cells #[.int .i64 E3, .int .i64 X3] 45)) ∧ BoxF (v3.alloc (.cells #[.int .i64 E3, .int .i64 X3] 45)) b1 E1 X1 ∧ (E1 = 0 → NewV p1 (v3.alloc (.cells #[.int .i64 E3, .int .i64 X3] 45))) ∧ BoxF (v3.alloc (.cells #[.int .i64 E3, .int .i64 X3] 45)) b2 E2 X2 ∧ (E2 = 0 → NewV p2 (v3.alloc (.cells #[.int .i64 E3, .int .i64 X3] 45))) ∧ BoxF (v3.alloc (.cells #[.int .i64 E3, .int .i64 X3] 45)) v3.heap.size E3 X3 ∧ (E3 = 0 → NewV p3 (v3.alloc (.cells #[.int .i64 E3, .int .i64 X3] 45)))) := by
    have hB2 : Below w.heap.size w v3 := Hu3.out.1.trans (hB.mono Hu3.out.1.size)
    have hB3 : Below v3.heap.size v3 (v3.alloc (.cells #[.int .i64 E3, .int .i64 X3] 45)) := (Below.refl _ v3).alloc (Nat.le_refl _) _
    exact ⟨hB2.alloc hB2.size _, ((Hu3.out.2.1).below hB (Hu3.out.2.1).lt).below hB3 ((Hu3.out.2.1).below hB (Hu3.out.2.1).lt).lt, fun h => ((Hu3.out.2.2.1 h).below hB).below hB3, ((Hu3.out.2.2.2.1).below hB (Hu3.out.2.2.2.1).lt).below hB3 ((Hu3.out.2.2.2.1).below hB (Hu3.out.2.2.2.1).lt).lt, fun h => ((Hu3.out.2.2.2.2 h).below hB).below hB3, BoxF.new v3 E3 X3, fun h => (hE h).below hB3⟩
  clear hE hB Hu3
  go_upto_region 6 with fail
  generalize v3.alloc (.cells #[.int .i64 E3, .int .i64 X3] 45) = w3 at *
  generalize v3.heap.size = b3 at *
  have Hw3 := Hv3
  clear Hv3
  obtain ⟨x0, _⟩ := Hw3.out.2.1.cell
  obtain ⟨y0, _⟩ := Hw3.out.2.2.2.1.cell
  obtain ⟨z0, _⟩ := Hw3.out.2.2.2.2.2.1.cell
  by_cases e1 : E1 = 0
  case neg =>
    go_wp2_with fail
    refine (wakes14_any _).mono ?_
    rintro e z ⟨rfl, hBz⟩
    have Hz : Hid (Below w.heap.size w z) := Hw3.out.1.trans (hBz.mono Hw3.out.1.size)
    clear hBz
    go_wp2
    go_ret
    exact ⟨rfl, Hz.out⟩
  case pos =>
  obtain ⟨m1, F, rfl, M1, U1, _⟩ := Hw3.out.2.2.1 e1
  subst e1
  by_cases e2 : E2 = 0
  case neg =>
    go_wp2_with fail
    refine (wakes14_any _).mono ?_
    rintro e z ⟨rfl, hBz⟩
    have Hz : Hid (Below w.heap.size w z) := Hw3.out.1.trans (hBz.mono Hw3.out.1.size)
    clear hBz
    go_wp2
    go_ret
    exact ⟨rfl, Hz.out⟩
  case pos =>
  obtain ⟨m2, G, rfl, M2, U2, _⟩ := Hw3.out.2.2.2.2.1 e2
  subst e2
  by_cases e3 : E3 = 0
  case neg =>
    go_wp2_with fail
    refine (wakes14_any _).mono ?_
    rintro e z ⟨rfl, hBz⟩
    have Hz : Hid (Below w.heap.size w z) := Hw3.out.1.trans (hBz.mono Hw3.out.1.size)
    clear hBz
    go_wp2
    go_ret
    exact ⟨rfl, Hz.out⟩
  case pos =>
  obtain ⟨m3, J, rfl, M3, U3, _⟩ := Hw3.out.2.2.2.2.2.2 e3
  subst e3
  have HM : Hid (Below w.heap.size w w3 ∧ MpAt w3 m1 F ∧ MpAt w3 m2 G ∧ MpAt w3 m3 J ∧ FormU F ∧ FormU G ∧ FormU J) := ⟨Hw3.out.1, M1, M2, M3, U1, U2, U3⟩
  clear M1 M2 M3 U1 U2 U3 Hw3
  have c1 := comp_v w3 m1 m2 F G HM.out.2.1 HM.out.2.2.1
  go_wp2_with fail
  refine c1.mono ?_
  clear c1 x0 y0 z0
  rintro e w4 ⟨⟨px, E4, rfl, hV4⟩, hB⟩
  have H4 : Hid (Below w3.heap.size w3 w4 ∧ (E4 = 0 → CompV px w4 F G)) := ⟨hB, hV4⟩
  clear hB hV4
  have c2 := comp_v w4 m2 m3 G J (HM.out.2.2.1.below H4.out.1) (HM.out.2.2.2.1.below H4.out.1)
  go_wp2_with fail
  refine c2.mono ?_
  clear c2
  rintro e w5 ⟨⟨py, E5, rfl, hV5⟩, hB⟩
  have H5 : Hid (Below w3.heap.size w3 w5 ∧ (E4 = 0 → CompV px w5 F G) ∧ (E5 = 0 → CompV py w5 G J) ∧ Below w.heap.size w w5) := ⟨H4.out.1.trans (hB.mono H4.out.1.size), fun h => (H4.out.2 h).below hB, hV5, HM.out.1.trans ((H4.out.1.trans (hB.mono H4.out.1.size)).mono HM.out.1.size)⟩
  clear hB hV5 H4
  by_cases e4 : E4 = 0
  case neg =>
    go_wp2_with fail
    refine (wakes14_any _).mono ?_
    rintro e z ⟨rfl, hBz⟩
    have Hz : Hid (Below w.heap.size w z) := H5.out.2.2.2.trans (hBz.mono H5.out.2.2.2.size)
    clear hBz
    go_wp2
    go_ret
    exact ⟨rfl, Hz.out⟩
  case pos =>
  by_cases e5 : E5 = 0
  case neg =>
    subst e4
    go_wp2_with fail
    refine (wakes14_any _).mono ?_
    rintro e z ⟨rfl, hBz⟩
    have Hz : Hid (Below w.heap.size w z) := H5.out.2.2.2.trans (hBz.mono H5.out.2.2.2.size)
    clear hBz
    go_wp2
    go_ret
    exact ⟨rfl, Hz.out⟩
  case pos =>
  obtain ⟨x, k1, rfl, K1, Mx⟩ := H5.out.2.1 e4
  obtain ⟨y, k2, rfl, K2, My⟩ := H5.out.2.2.1 e5
  subst e4
  subst e5
  have heq := fun k3 k4 h3 h4 => three_eq HM.out.2.1.ok HM.out.2.2.1.ok HM.out.2.2.2.1.ok HM.out.2.2.2.2.1 HM.out.2.2.2.2.2.1 HM.out.2.2.2.2.2.2 K1 K2 Mx.ok My.ok (k3 := k3) (k4 := k4) h3 h4
  have HEQ : Hid (∀ k3 k4, KeyL (tabL (thL (formT (tabL (thL F G)) k1) J)) k3 → KeyL (tabL (thL F (formT (tabL (thL G J)) k2))) k4 → formT (tabL (thL (formT (tabL (thL F G)) k1) J)) k3 = formT (tabL (thL F (formT (tabL (thL G J)) k2))) k4) := heq
  clear heq K1 K2
  generalize formT (tabL (thL F G)) k1 = X at *
  generalize formT (tabL (thL G J)) k2 = Y at *
  have HXY : Hid (MpAt w5 x X ∧ MpAt w5 y Y) := ⟨Mx, My⟩
  clear Mx My
  have c3 := comp_v w5 x m3 X J HXY.out.1 (HM.out.2.2.2.1.below H5.out.1)
  go_wp2_with fail
  refine c3.mono ?_
  clear c3
  rintro e w6 ⟨⟨pp, E6, rfl, hV6⟩, hB⟩
  have H6 : Hid (Below w3.heap.size w3 w6 ∧ (E6 = 0 → CompV pp w6 X J) ∧ MpAt w6 y Y ∧ Below w.heap.size w w6) := ⟨H5.out.1.trans (hB.mono H5.out.1.size), hV6, HXY.out.2.below hB, H5.out.2.2.2.trans (hB.mono H5.out.2.2.2.size)⟩
  clear hB hV6 H5 HXY
  have c4 := comp_v w6 m1 y F Y (HM.out.2.1.below H6.out.1) H6.out.2.2.1
  go_wp2_with fail
  refine c4.mono ?_
  clear c4
  rintro e w7 ⟨⟨pq, E7, rfl, hV7⟩, hB⟩
  have H7 : Hid ((E6 = 0 → CompV pp w7 X J) ∧ (E7 = 0 → CompV pq w7 F Y) ∧ Below w.heap.size w w7) := ⟨fun h => (H6.out.2.1 h).below hB, hV7, H6.out.2.2.2.trans (hB.mono H6.out.2.2.2.size)⟩
  clear hB hV7 H6
  by_cases e6 : E6 = 0
  case neg =>
    go_wp2_with fail
    refine (wakes14_any _).mono ?_
    rintro e z ⟨rfl, hBz⟩
    have Hz : Hid (Below w.heap.size w z) := H7.out.2.2.trans (hBz.mono H7.out.2.2.size)
    clear hBz
    go_wp2
    go_ret
    exact ⟨rfl, Hz.out⟩
  case pos =>
  by_cases e7 : E7 = 0
  case neg =>
    subst e6
    go_wp2_with fail
    refine (wakes14_any _).mono ?_
    rintro e z ⟨rfl, hBz⟩
    have Hz : Hid (Below w.heap.size w z) := H7.out.2.2.trans (hBz.mono H7.out.2.2.size)
    clear hBz
    go_wp2
    go_ret
    exact ⟨rfl, Hz.out⟩
  case pos =>
  obtain ⟨p, k3, rfl, K3, Mp⟩ := H7.out.1 e6
  obtain ⟨q, k4, rfl, K4, Mq⟩ := H7.out.2.1 e7
  subst e6
  subst e7
  rw [← HEQ.out k3 k4 K3 K4] at Mq
  clear K3 K4 HEQ
  generalize formT (tabL (thL X J)) k3 = D at *
  have H8 : Hid (Below w.heap.size w w7 ∧ MpAt w7 p D ∧ MpAt w7 q D) := ⟨H7.out.2.2, Mp, Mq⟩
  clear Mp Mq H7
  have cS := same14_any w7 p q D D H8.out.2.1 H8.out.2.2
  rw [decide_eq_true rfl] at cS
  go_wp2_with fail
  refine cS.mono ?_
  clear cS
  rintro e w8 ⟨rfl, hB⟩
  have H9 : Hid (Below w.heap.size w w8 ∧ MpAt w8 p D ∧ MpAt w8 q D) := ⟨H8.out.1.trans (hB.mono H8.out.1.size), H8.out.2.1.below hB, H8.out.2.2.below hB⟩
  clear hB H8
  have cK := key_any w8 p D H9.out.2.1 (HTb.out _ H9.out.1)
  go_wp2_with fail
  refine cK.mono ?_
  clear cK
  rintro e w9 ⟨rfl, hB⟩
  have H10 : Hid (Below w.heap.size w w9 ∧ MpAt w9 q D) := ⟨H9.out.1.trans (hB.mono H9.out.1.size), H9.out.2.2.below hB⟩
  clear hB H9
  have cK := key_any w9 q D H10.out.2 (HTb.out _ H10.out.1)
  generalize keyF D = KF at *
  go_wp2_with fail
  refine cK.mono ?_
  clear cK
  rintro e w10 ⟨rfl, hB⟩
  have H11 : Hid (Below w.heap.size w w10) := H10.out.1.trans (hB.mono H10.out.1.size)
  clear hB H10
  go_wp2_with fail
  refine (wakes14_any _).mono ?_
  rintro e z ⟨rfl, hBz⟩
  have Hz : Hid (Below w.heap.size w z) := H11.out.trans (hBz.mono H11.out.size)
  clear hBz
  go_wp2
  go_ret
  exact ⟨rfl, Hz.out⟩
end Go.Proofs.YtggnglgehobglaaGreatDoor
