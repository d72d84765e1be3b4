/- The walk of NameMakes. -/
import Derived.Test.YtadmpobnpnbgoaaNRefMake
import Derived.Test.YtadmpobnpnbgoaaNApp
namespace Go.Proofs.Ytadmpobnpnbgoaa
open Go.RowKit Go.Shelf

theorem Hid.mk' {p : Prop} (h : p) : Hid p := h
theorem srow_base {W : World} {base base' n : Nat} {e : TypeId} {v : Value} {xs : List Value} (h : W.ownsRow base e 1 v n xs) (hb : base' ≤ base) : W.ownsRow base' e 1 v n xs := by
  refine ⟨h.1, ?_⟩
  rcases h.2 with h | ⟨g, cap, cur, rfl, hg, rest⟩
  · exact .inl h
  · exact .inr ⟨g, cap, cur, rfl, Nat.le_trans hb hg, rest⟩
def tilde : ByteArray := ⟨#[126]⟩

set_option maxRecDepth 100000 in
set_option maxHeartbeats 20000000 in
theorem makes_any (sa : Option Addr) (n sc : Nat) (l : List ByteArray) (w : World) (hst : Strs w sa n l) (hnc : n ≤ sc) (hsc : sc ≤ maxLen) (hnil : sa = none → n = 0 ∧ sc = 0) (hl : ∀ x ∈ l, x.size ≤ maxLen) :
    Calls Try.prog 3 #[.slice sa n sc] w fun e w' => e = .returned (.bool true) ∧ Below w.heap.size w w' := by
  have hwk := fun w => wakes_any w
  have hBc : Below w.heap.size w w := Below.refl _ _
  obtain ⟨m, hm⟩ : ∃ m, m = min n 40 := ⟨_, rfl⟩
  have hm40 : m ≤ 40 := by omega
  have hmn : m ≤ n := by omega
  have hmc : m ≤ sc := by omega
  have hst' : Strs w sa m (l.take m) := by
    refine ⟨by rw [List.length_take, hst.1]; omega, fun h0 => ?_⟩
    obtain ⟨bb, off, e, hc⟩ := hst.2 (by omega)
    exact ⟨bb, off, e, fun j x hx => hc j x (by
      have hj : j < m := by have := (List.getElem?_eq_some_iff.1 hx).1; rw [List.length_take] at this; omega
      rw [List.getElem?_take_of_lt hj] at hx; exact hx)⟩
  have hl' : ∀ x ∈ l.take m, x.size ≤ maxLen := fun x hx => hl x (List.mem_of_mem_take hx)
  have hnil' : sa = none → m = 0 ∧ sc = 0 := fun e => ⟨by have := hnil e; omega, (hnil e).2⟩
  obtain ⟨ll, hll⟩ : ∃ ll, ll = l.take m := ⟨_, rfl⟩
  rw [← hll] at hst' hl'
  have HST : Hid (Strs w sa m ll ∧ (∀ x ∈ ll, x.size ≤ maxLen)) := ⟨hst', hl'⟩
  have HM : Hid (m = min n 40) := hm
  have HNIL : Hid (sa = none → m = 0 ∧ sc = 0) := hnil'
  have hn63 : n ≤ 9223372036854775807 := by unfold maxLen at hsc; omega
  have hc63 : sc ≤ 9223372036854775807 := by unfold maxLen at hsc; omega
  clear hst hst' hl hl' hll hm hnil'
  go_enter Try.func3, Try.ntmps3
  refine wp_seq_k fun K hK => ?_
  suffices hK' : ∀ (u1 u3 u4 u5 u6 u7 u8 u9 u10 u11 u12 u13 u14 u15 u16 u17 u18 u19 u20 u21 u22 u23 u24 u25 u26 u27 u28 u29 u30 u31 u32 u33 u34 u35 u36 u37 u38 u39 u40 u41 u42 u43 u44 u45 u46 u47 u48 u49 u50 u51 u52 u53 u54 u55 u56 u57 u58 u59 u60 u61 u62 u63 : Value) (w1 : World), Below w.heap.size w w1 → K { tmps := #[.slice sa n sc, u1, .bool false, u3, u4, u5, u6, u7, u8, u9, u10, u11, u12, u13, u14, u15, u16, u17, u18, u19, u20, u21, u22, u23, u24, u25, u26, u27, u28, u29, u30, u31, u32, u33, u34, u35, u36, u37, u38, u39, u40, u41, u42, u43, u44, u45, u46, u47, u48, u49, u50, u51, u52, u53, u54, u55, u56, u57, u58, u59, u60, u61, u62, u63], defers := [] } w1 by
    have HK := Hid.mk' hK'
    clear hK hK'
    go_wp2
    exact HK.out _ _ _ _ _ _ _ _ _ _ _ _ _ _ _ _ _ _ _ _ _ _ _ _ _ _ _ _ _ _ _ _ _ _ _ _ _ _ _ _ _ _ _ _ _ _ _ _ _ _ _ _ _ _ _ _ _ _ _ _ _ _ _ hBc
  clear hBc
  intro u1 u3 u4 u5 u6 u7 u8 u9 u10 u11 u12 u13 u14 u15 u16 u17 u18 u19 u20 u21 u22 u23 u24 u25 u26 u27 u28 u29 u30 u31 u32 u33 u34 u35 u36 u37 u38 u39 u40 u41 u42 u43 u44 u45 u46 u47 u48 u49 u50 u51 u52 u53 u54 u55 u56 u57 u58 u59 u60 u61 u62 u63 w1 hBc
  refine hK _ _ ?_
  clear hK
  refine wp_seq_k fun K hK => ?_
  suffices hK' : ∀ (u1 u3 u4 u5 u6 u7 u8 u9 u10 u11 u12 u13 u14 u15 u16 u17 u18 u19 u20 u21 u22 u23 u24 u25 u26 u27 u28 u29 u30 u31 u32 u33 u34 u35 u36 u37 u38 u39 u40 u41 u42 u43 u44 u45 u46 u47 u48 u49 u50 u51 u52 u53 u54 u55 u56 u57 u58 u59 u60 u61 u62 u63 : Value) (w1 : World), Below w.heap.size w w1 → K { tmps := #[.slice sa n sc, u1, .bool false, u3, u4, u5, u6, u7, u8, u9, u10, u11, u12, u13, u14, u15, u16, u17, u18, u19, u20, u21, u22, u23, u24, u25, u26, u27, u28, u29, u30, u31, u32, u33, u34, u35, u36, u37, u38, u39, u40, u41, u42, u43, u44, u45, u46, u47, u48, u49, u50, u51, u52, u53, u54, u55, u56, u57, u58, u59, u60, u61, u62, u63], defers := [] } w1 by
    have HK := Hid.mk' hK'
    clear hK hK'
    go_wp2_with (go_at_call 4; refine (hwk _).mono ?_; rintro e wn ⟨rfl, hBn⟩; replace hBc := hBc.trans (hBn.mono hBc.size); clear hBn)
    exact HK.out _ _ _ _ _ _ _ _ _ _ _ _ _ _ _ _ _ _ _ _ _ _ _ _ _ _ _ _ _ _ _ _ _ _ _ _ _ _ _ _ _ _ _ _ _ _ _ _ _ _ _ _ _ _ _ _ _ _ _ _ _ _ _ hBc
  clear hBc
  intro u1 u3 u4 u5 u6 u7 u8 u9 u10 u11 u12 u13 u14 u15 u16 u17 u18 u19 u20 u21 u22 u23 u24 u25 u26 u27 u28 u29 u30 u31 u32 u33 u34 u35 u36 u37 u38 u39 u40 u41 u42 u43 u44 u45 u46 u47 u48 u49 u50 u51 u52 u53 u54 u55 u56 u57 u58 u59 u60 u61 u62 u63 w1 hBc
  refine hK _ _ ?_
  clear hK
  refine wp_seq_k fun K hK => ?_
  suffices hK' : ∀ (u1 u3 u4 u5 u6 u7 u8 u9 u10 u11 u12 u13 u14 u15 u16 u17 u18 u19 u20 u21 u22 u23 u24 u25 u26 u27 u28 u29 u30 u31 u32 u33 u34 u35 u36 u37 u38 u39 u40 u41 u42 u43 u44 u45 u46 u47 u48 u49 u50 u51 u52 u53 u54 u55 u56 u57 u58 u59 u60 u61 u62 u63 : Value) (w1 : World), Below w.heap.size w w1 → K { tmps := #[.slice sa m sc, u1, .bool false, u3, u4, u5, u6, u7, u8, u9, u10, u11, u12, u13, u14, u15, u16, u17, u18, u19, u20, u21, u22, u23, u24, u25, u26, u27, u28, u29, u30, u31, u32, u33, u34, u35, u36, u37, u38, u39, u40, u41, u42, u43, u44, u45, u46, u47, u48, u49, u50, u51, u52, u53, u54, u55, u56, u57, u58, u59, u60, u61, u62, u63], defers := [] } w1 by
    have HK := Hid.mk' hK'
    clear hK hK'
    clear HST HNIL
    have hmin : min (n : Int) 40 = (m : Int) := by have := HM.out; omega
    clear HM
    cases sa with
    | none =>
      obtain ⟨rfl, rfl⟩ := hnil rfl
      obtain rfl : m = 0 := by omega
      clear hmin hnil
      go_wp2
      exact HK.out _ _ _ _ _ _ _ _ _ _ _ _ _ _ _ _ _ _ _ _ _ _ _ _ _ _ _ _ _ _ _ _ _ _ _ _ _ _ _ _ _ _ _ _ _ _ _ _ _ _ _ _ _ _ _ _ _ _ _ _ _ _ _ hBc
    | some ad =>
      clear hnil
      have i3 : (m : Int) ≤ sc := by omega
      go_wp2
      exact HK.out _ _ _ _ _ _ _ _ _ _ _ _ _ _ _ _ _ _ _ _ _ _ _ _ _ _ _ _ _ _ _ _ _ _ _ _ _ _ _ _ _ _ _ _ _ _ _ _ _ _ _ _ _ _ _ _ _ _ _ _ _ _ _ hBc
  clear hBc
  intro u1 u3 u4 u5 u6 u7 u8 u9 u10 u11 u12 u13 u14 u15 u16 u17 u18 u19 u20 u21 u22 u23 u24 u25 u26 u27 u28 u29 u30 u31 u32 u33 u34 u35 u36 u37 u38 u39 u40 u41 u42 u43 u44 u45 u46 u47 u48 u49 u50 u51 u52 u53 u54 u55 u56 u57 u58 u59 u60 u61 u62 u63 w1 hBc
  refine hK _ _ ?_
  clear hK
  clear HM hnil
  refine wp_seq_k fun K hK => ?_
  suffices hK' : ∀ (u1 u4 u5 u6 u7 u8 u9 u10 u11 u12 u13 u14 u15 u16 u17 u18 u19 u20 u21 u22 u23 u24 u25 u26 u27 u28 u29 u30 u31 u32 u33 u34 u35 u36 u37 u38 u39 u40 u41 u42 u43 u44 u45 u46 u47 u48 u49 u50 u51 u52 u53 u54 u55 u56 u57 u58 u59 u60 u61 u62 u63 : Value) (w1 : World), Below w.heap.size w w1 → ∀ (fa : Option Addr) (fc : Nat), m ≤ fc → fc ≤ maxLen → w1.ownsRow w.heap.size 9 1 (.slice fa m fc) m (ll.map Value.string) → K { tmps := #[.slice sa m sc, u1, .bool false, .slice fa m fc, u4, u5, u6, u7, u8, u9, u10, u11, u12, u13, u14, u15, u16, u17, u18, u19, u20, u21, u22, u23, u24, u25, u26, u27, u28, u29, u30, u31, u32, u33, u34, u35, u36, u37, u38, u39, u40, u41, u42, u43, u44, u45, u46, u47, u48, u49, u50, u51, u52, u53, u54, u55, u56, u57, u58, u59, u60, u61, u62, u63], defers := [] } w1 by
    have HK := Hid.mk' hK'
    clear hK hK'
    have hst := HST.out.1.kept hBc
    have HS1 : Hid (Strs w1 sa m ll) := hst
    have hw1s := hBc.size
    clear hst
    go_wp2_with first
      | (at_make; refine wpList_make_strs _ rfl _ _ rfl _ _ (m + 5) _ rfl rfl (by simp) (by omega) ?_; intro w2 hrow2 hB2)
      | (at_builtin; refine wpList_append_strs rfl _ _ rfl w1.heap.size 0 m sc _ [] ll sa rfl rfl hrow2 (HS1.out.kept hB2) HNIL.out (by omega) hB2.size ?_; intro ad3 c3 w3 h31 h32 h33 h34)
    simp only [Nat.zero_add, List.nil_append] at h31 h33 ⊢
    replace hBc := hBc.trans ((hB2.trans h34).mono hBc.size)
    exact HK.out _ _ _ _ _ _ _ _ _ _ _ _ _ _ _ _ _ _ _ _ _ _ _ _ _ _ _ _ _ _ _ _ _ _ _ _ _ _ _ _ _ _ _ _ _ _ _ _ _ _ _ _ _ _ _ _ _ _ _ _ _ _ hBc _ _ h31 h32 (srow_base h33 hw1s)
  clear hBc
  intro u1 u4 u5 u6 u7 u8 u9 u10 u11 u12 u13 u14 u15 u16 u17 u18 u19 u20 u21 u22 u23 u24 u25 u26 u27 u28 u29 u30 u31 u32 u33 u34 u35 u36 u37 u38 u39 u40 u41 u42 u43 u44 u45 u46 u47 u48 u49 u50 u51 u52 u53 u54 u55 u56 u57 u58 u59 u60 u61 u62 u63 w1 hBc fa fc hfc hfm hfrow
  refine hK _ _ ?_
  clear hK
  refine wp_seq_k fun K hK => ?_
  suffices hK' : ∀ (u1 u4 u5 u6 u7 u8 u9 u10 u11 u12 u13 u14 u15 u16 u17 u18 u19 u20 u21 u22 u23 u24 u25 u26 u27 u28 u29 u30 u31 u32 u33 u34 u35 u36 u37 u38 u39 u40 u41 u42 u43 u44 u45 u46 u47 u48 u49 u50 u51 u52 u53 u54 u55 u56 u57 u58 u59 u60 u61 u62 u63 : Value) (w1 : World), Below w.heap.size w w1 → ∀ (gb go gc : Nat), m + 2 ≤ gc → gc ≤ maxLen → (∀ (j : Nat) x, (ll ++ [tilde, tilde])[j]? = some x → w1.cell? ⟨gb, go + j, none⟩ = some (.string x)) → K { tmps := #[.slice sa m sc, u1, .bool false, .slice (some ⟨gb, go, none⟩) (m + 2) gc, u4, u5, u6, u7, u8, u9, u10, u11, u12, u13, u14, u15, u16, u17, u18, u19, u20, u21, u22, u23, u24, u25, u26, u27, u28, u29, u30, u31, u32, u33, u34, u35, u36, u37, u38, u39, u40, u41, u42, u43, u44, u45, u46, u47, u48, u49, u50, u51, u52, u53, u54, u55, u56, u57, u58, u59, u60, u61, u62, u63], defers := [] } w1 by
    have HK := Hid.mk' hK'
    clear hK hK'
    have HR : Hid (w1.ownsRow w.heap.size 9 1 (.slice fa m fc) m (ll.map Value.string)) := hfrow
    clear hfrow
    go_wp2_with (at_builtin; refine wpList_append_strs rfl _ _ rfl w.heap.size m 2 2 _ ll [tilde, tilde] (some ⟨w1.heap.size, 0, none⟩) rfl rfl (HR.out.alloc _) (strs_new w1 [tilde, tilde] 9 2 rfl) (fun h => by cases h) (by omega) (by have := hBc.size; simp; omega) ?_; intro ad3 c3 w3 h31 h32 h33 h34)
    have hs3 := srow_strs h33
    obtain ⟨gb, go, rfl, hcl⟩ := hs3.2 (by omega)
    have hBn := (hBc.alloc hBc.size (.cells #[.string tilde, .string tilde] 9)).trans h34
    exact HK.out _ _ _ _ _ _ _ _ _ _ _ _ _ _ _ _ _ _ _ _ _ _ _ _ _ _ _ _ _ _ _ _ _ _ _ _ _ _ _ _ _ _ _ _ _ _ _ _ _ _ _ _ _ _ _ _ _ _ _ _ _ _ hBn _ _ _ h31 h32 hcl
  clear hBc
  intro u1 u4 u5 u6 u7 u8 u9 u10 u11 u12 u13 u14 u15 u16 u17 u18 u19 u20 u21 u22 u23 u24 u25 u26 u27 u28 u29 u30 u31 u32 u33 u34 u35 u36 u37 u38 u39 u40 u41 u42 u43 u44 u45 u46 u47 u48 u49 u50 u51 u52 u53 u54 u55 u56 u57 u58 u59 u60 u61 u62 u63 w5 hBc gb go gc hgc hgm hcl
  refine hK _ _ ?_
  clear hK
  clear hfc hfm hfrow
  have hBw : Below w.heap.size w w5 := hBc
  have hS5 := HST.out.1.kept hBc
  have hlen : ll.length = m := HST.out.1.1
  have HF : Hid (Strs w5 (some ⟨gb, go, none⟩) m ll) := ⟨hlen, fun _ => ⟨gb, go, rfl, fun j x hx => hcl j x (by rw [List.getElem?_append_left ((List.getElem?_eq_some_iff.1 hx).1)]; exact hx)⟩⟩
  have HL : Hid (Strs w5 sa m ll ∧ ∀ x ∈ ll, x.size ≤ maxLen) := ⟨hS5, HST.out.2⟩
  have HC : Hid (w5.cell? ⟨gb, go + m, none⟩ = some (.string tilde)) := hcl m tilde (by rw [List.getElem?_append_right (by omega), hlen]; simp)
  have hgc63 : gc ≤ 9223372036854775807 := by unfold maxLen at hgm; omega
  clear hcl hS5 HST HNIL hlen
  replace hBc : Below w5.heap.size w5 w5 := Below.refl _ _
  obtain ⟨P, hP⟩ : ∃ P, mk (makeP (ll.map bs)).1 = P := ⟨_, rfl⟩
  obtain ⟨q, hq⟩ : ∃ q, (makeP (ll.map bs)).2 = q := ⟨_, rfl⟩
  have HMk : Hid (∀ w1 aa c, Strs w1 aa m ll → m ≤ c → Calls Try.prog 5 #[.slice aa m c] w1 fun e w' => e = .returned (.tuple #[.string P, .int .i64 (q : Int)]) ∧ Below w1.heap.size w1 w') := fun w1 aa c h1 h2 => by
    have := Make_any w1 aa m c ll h1 HL.out.2 h2 (by omega)
    rw [hP, hq] at this; exact this
  have HRm : Hid (∀ w1 aa c, Strs w1 aa m ll → m ≤ c → Calls Try.prog 6 #[.slice aa m c] w1 fun e w' => e = .returned (.tuple #[.string P, .int .i64 (q : Int)]) ∧ Below w1.heap.size w1 w') := fun w1 aa c h1 h2 => by
    have := refMake_any w1 aa m c ll h1 HL.out.2 h2 (by omega)
    rw [hP, hq] at this; exact this
  clear hP hq
  refine wp_seq_k fun K hK => ?_
  suffices hK' : ∀ (u1 u6 u7 u8 u9 u10 u11 u12 u13 u14 u15 u16 u17 u18 u19 u20 u21 u22 u23 u24 u25 u26 u27 u28 u29 u30 u31 u32 u33 u34 u35 u36 u37 u38 u39 u40 u41 u42 u43 u44 u45 u46 u47 u48 u49 u50 u51 u52 u53 u54 u55 u56 u57 u58 u59 u60 u61 u62 u63 : Value) (w1 : World), Below w5.heap.size w5 w1 → K { tmps := #[.slice sa m sc, u1, .bool false, .slice (some ⟨gb, go, none⟩) (m + 2) gc, .string P, .int .i64 (q : Int), u6, u7, u8, u9, u10, u11, u12, u13, u14, u15, u16, u17, u18, u19, u20, u21, u22, u23, u24, u25, u26, u27, u28, u29, u30, u31, u32, u33, u34, u35, u36, u37, u38, u39, u40, u41, u42, u43, u44, u45, u46, u47, u48, u49, u50, u51, u52, u53, u54, u55, u56, u57, u58, u59, u60, u61, u62, u63], defers := [] } w1 by
    have HK := Hid.mk' hK'
    clear hK hK'
    have h1 := HMk.out w5 _ gc HF.out (by omega)
    have i1 : (m : Int) ≤ gc := by omega
    clear HMk HRm HF HL HC
    go_wp2_with (go_at_call 5; refine h1.mono ?_; clear h1; rintro e wn ⟨rfl, hBn⟩; replace hBc := hBc.trans (hBn.mono hBc.size))
    exact HK.out _ _ _ _ _ _ _ _ _ _ _ _ _ _ _ _ _ _ _ _ _ _ _ _ _ _ _ _ _ _ _ _ _ _ _ _ _ _ _ _ _ _ _ _ _ _ _ _ _ _ _ _ _ _ _ _ _ _ _ _ hBc
  clear hBc
  intro u1 u6 u7 u8 u9 u10 u11 u12 u13 u14 u15 u16 u17 u18 u19 u20 u21 u22 u23 u24 u25 u26 u27 u28 u29 u30 u31 u32 u33 u34 u35 u36 u37 u38 u39 u40 u41 u42 u43 u44 u45 u46 u47 u48 u49 u50 u51 u52 u53 u54 u55 u56 u57 u58 u59 u60 u61 u62 u63 w1 hBc
  refine hK _ _ ?_
  clear hK
  refine wp_seq_k fun K hK => ?_
  suffices hK' : ∀ (u1 u8 u9 u10 u11 u12 u13 u14 u15 u16 u17 u18 u19 u20 u21 u22 u23 u24 u25 u26 u27 u28 u29 u30 u31 u32 u33 u34 u35 u36 u37 u38 u39 u40 u41 u42 u43 u44 u45 u46 u47 u48 u49 u50 u51 u52 u53 u54 u55 u56 u57 u58 u59 u60 u61 u62 u63 : Value) (w1 : World), Below w5.heap.size w5 w1 → K { tmps := #[.slice sa m sc, u1, .bool false, .slice (some ⟨gb, go, none⟩) (m + 2) gc, .string P, .int .i64 (q : Int), .string P, .int .i64 (q : Int), u8, u9, u10, u11, u12, u13, u14, u15, u16, u17, u18, u19, u20, u21, u22, u23, u24, u25, u26, u27, u28, u29, u30, u31, u32, u33, u34, u35, u36, u37, u38, u39, u40, u41, u42, u43, u44, u45, u46, u47, u48, u49, u50, u51, u52, u53, u54, u55, u56, u57, u58, u59, u60, u61, u62, u63], defers := [] } w1 by
    have HK := Hid.mk' hK'
    clear hK hK'
    have h1 := HRm.out w1 sa sc (HL.out.1.kept hBc) hmc
    clear HMk HRm HF HL HC
    go_wp2_with (go_at_call 6; refine h1.mono ?_; clear h1; rintro e wn ⟨rfl, hBn⟩; replace hBc := hBc.trans (hBn.mono hBc.size))
    exact HK.out _ _ _ _ _ _ _ _ _ _ _ _ _ _ _ _ _ _ _ _ _ _ _ _ _ _ _ _ _ _ _ _ _ _ _ _ _ _ _ _ _ _ _ _ _ _ _ _ _ _ _ _ _ _ _ _ _ _ hBc
  clear hBc
  intro u1 u8 u9 u10 u11 u12 u13 u14 u15 u16 u17 u18 u19 u20 u21 u22 u23 u24 u25 u26 u27 u28 u29 u30 u31 u32 u33 u34 u35 u36 u37 u38 u39 u40 u41 u42 u43 u44 u45 u46 u47 u48 u49 u50 u51 u52 u53 u54 u55 u56 u57 u58 u59 u60 u61 u62 u63 w1 hBc
  refine hK _ _ ?_
  clear hK
  have hcc := (hBc.cell (p := ⟨gb, go + m, none⟩) (World.block_lt_of_cell? w5 _ HC.out)).trans HC.out
  have HCell : Hid (∀ w', Below w5.heap.size w5 w' → w'.cell? ⟨gb, go + m, none⟩ = some (.string ⟨#[126]⟩)) := fun w' h => (h.cell (p := ⟨gb, go + m, none⟩) (World.block_lt_of_cell? w5 _ HC.out)).trans HC.out
  have h1 := texts_yes w1 (some ⟨gb, go, none⟩) sa m gc sc ll (HF.out.kept hBc) (HL.out.1.kept hBc) (by omega)
  have i1 : (m : Int) ≤ gc := by omega
  have i2 : (m : Int) < (m : Int) + 2 := by omega
  have i3 : m < m + 2 := by omega
  clear HMk HRm HF HL HC hcc
  go_wp2_with first
    | (go_at_call 7; refine h1.mono ?_; clear h1; rintro e wn ⟨rfl, hBn⟩; replace hBc := hBc.trans (hBn.mono hBc.size); have hcw := HCell.out _ hBc)
    | (go_at_call 4; refine (hwk _).mono ?_; rintro e wn ⟨rfl, hBn⟩; replace hBc := hBc.trans (hBn.mono hBc.size); clear hBn)
  go_ret
  exact ⟨rfl, hBw.trans (hBc.mono hBw.size)⟩
end Go.Proofs.Ytadmpobnpnbgoaa
