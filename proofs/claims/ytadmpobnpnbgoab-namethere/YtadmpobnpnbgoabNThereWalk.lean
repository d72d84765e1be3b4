/- The walk of NameThere. -/
import Derived.Test.YtadmpobnpnbgoabNTherePlain
namespace Go.Proofs.Ytadmpobnpnbgoab
open Go.RowKit Go.Shelf

set_option maxRecDepth 100000 in
set_option maxHeartbeats 20000000 in
theorem there_any (a b : ByteArray) (sa : Option Addr) (n sc : Nat) (l : List ByteArray) (w : World) (ha : a.size ≤ maxLen) (hb : b.size ≤ maxLen) (hst : Strs w sa n l) (hnc : n ≤ sc) (hsc : sc ≤ maxLen) (hnil : sa = none → n = 0 ∧ sc = 0) (hl : ∀ x ∈ l, x.size ≤ maxLen) :
    Calls Try.prog 4 #[.string a, .string b, .slice sa n sc] w fun e w' => e = .returned (.bool true) ∧ Below w.heap.size w w' := by
  have hwk := fun w => wakes_any w
  have hca := fun w => cut_any a w ha
  have hcb := fun w => cut_any b w hb
  have hA := cutT_size a
  have hB := cutT_size b
  generalize cutT a = A at hca hA
  generalize cutT b = B at hcb hB
  have hBc : Below w.heap.size w w := Below.refl _ _
  obtain ⟨m, hm⟩ : ∃ m, m = min n 40 := ⟨_, rfl⟩
  have hm40 : m ≤ 40 := by omega
  have hmn : m ≤ n := by omega
  have hmc : m ≤ sc := by omega
  have hst' : Strs w sa m (l.take m) := by
    refine ⟨by rw [List.length_take, hst.1]; omega, fun h0 => ?_⟩
    obtain ⟨bb, off, e, hc⟩ := hst.2 (by omega)
    exact ⟨bb, off, e, fun j x hx => hc j x (by
      have hj : j < m := by have := (List.getElem?_eq_some_iff.1 hx).1; rw [List.length_take] at this; omega
      rw [List.getElem?_take_of_lt hj] at hx; exact hx)⟩
  have hl' : ∀ x ∈ l.take m, x.size ≤ maxLen := fun x hx => hl x (List.mem_of_mem_take hx)
  obtain ⟨ll, hll⟩ : ∃ ll, ll = l.take m := ⟨_, rfl⟩
  rw [← hll] at hst' hl'
  have HST : Hid (Strs w sa m ll ∧ (∀ x ∈ ll, x.size ≤ maxLen)) := ⟨hst', hl'⟩
  have HM : Hid (m = min n 40) := hm
  have hn63 : n ≤ 9223372036854775807 := by unfold maxLen at hsc; omega
  have hc63 : sc ≤ 9223372036854775807 := by unfold maxLen at hsc; omega
  clear ha hb hst hst' hl hl' hll hm
  go_enter Try.func4, Try.ntmps4
  refine wp_seq_k fun K hK => ?_
  suffices hK' : ∀ (u3 u4 u5 u7 u8 u9 u10 u11 u12 u13 u14 u15 u16 u17 u18 u19 u20 u21 u22 u23 u24 u25 u26 u27 u28 u29 u30 u31 u32 u33 u34 u35 u36 u37 u38 u39 u40 u41 u42 u43 u44 u45 u46 u47 u48 u49 u50 u51 u52 u53 u54 u55 u56 u57 u58 u59 u60 u61 u62 u63 u64 u65 u66 u67 u68 u69 u70 u71 u72 u73 u74 u75 u76 u77 u78 u79 u80 u81 u82 u83 u84 u85 u86 u87 u88 u89 u90 u91 u92 u93 u94 u95 u96 u97 u98 u99 u100 u101 u102 u103 u104 u105 u106 u107 u108 u109 u110 u111 u112 u113 u114 u115 u116 u117 u118 u119 u120 u121 u122 u123 u124 u125 u126 u127 u128 u129 u130 u131 u132 u133 u134 u135 u136 u137 : Value) (w1 : World), Below w.heap.size w w1 → K { tmps := #[.string a, .string b, .slice sa n sc, u3, u4, u5, .bool false, u7, u8, u9, u10, u11, u12, u13, u14, u15, u16, u17, u18, u19, u20, u21, u22, u23, u24, u25, u26, u27, u28, u29, u30, u31, u32, u33, u34, u35, u36, u37, u38, u39, u40, u41, u42, u43, u44, u45, u46, u47, u48, u49, u50, u51, u52, u53, u54, u55, u56, u57, u58, u59, u60, u61, u62, u63, u64, u65, u66, u67, u68, u69, u70, u71, u72, u73, u74, u75, u76, u77, u78, u79, u80, u81, u82, u83, u84, u85, u86, u87, u88, u89, u90, u91, u92, u93, u94, u95, u96, u97, u98, u99, u100, u101, u102, u103, u104, u105, u106, u107, u108, u109, u110, u111, u112, u113, u114, u115, u116, u117, u118, u119, u120, u121, u122, u123, u124, u125, u126, u127, u128, u129, u130, u131, u132, u133, u134, u135, u136, u137], defers := [] } w1 by
    have HK := Hid.mk' hK'
    clear hK hK'
    go_wp2
    exact HK.out _ _ _ _ _ _ _ _ _ _ _ _ _ _ _ _ _ _ _ _ _ _ _ _ _ _ _ _ _ _ _ _ _ _ _ _ _ _ _ _ _ _ _ _ _ _ _ _ _ _ _ _ _ _ _ _ _ _ _ _ _ _ _ _ _ _ _ _ _ _ _ _ _ _ _ _ _ _ _ _ _ _ _ _ _ _ _ _ _ _ _ _ _ _ _ _ _ _ _ _ _ _ _ _ _ _ _ _ _ _ _ _ _ _ _ _ _ _ _ _ _ _ _ _ _ _ _ _ _ _ _ _ _ _ _ hBc
  clear hBc
  intro u3 u4 u5 u7 u8 u9 u10 u11 u12 u13 u14 u15 u16 u17 u18 u19 u20 u21 u22 u23 u24 u25 u26 u27 u28 u29 u30 u31 u32 u33 u34 u35 u36 u37 u38 u39 u40 u41 u42 u43 u44 u45 u46 u47 u48 u49 u50 u51 u52 u53 u54 u55 u56 u57 u58 u59 u60 u61 u62 u63 u64 u65 u66 u67 u68 u69 u70 u71 u72 u73 u74 u75 u76 u77 u78 u79 u80 u81 u82 u83 u84 u85 u86 u87 u88 u89 u90 u91 u92 u93 u94 u95 u96 u97 u98 u99 u100 u101 u102 u103 u104 u105 u106 u107 u108 u109 u110 u111 u112 u113 u114 u115 u116 u117 u118 u119 u120 u121 u122 u123 u124 u125 u126 u127 u128 u129 u130 u131 u132 u133 u134 u135 u136 u137 w1 hBc
  refine hK _ _ ?_
  clear hK
  refine wp_seq_k fun K hK => ?_
  suffices hK' : ∀ (u3 u4 u5 u7 u8 u9 u10 u11 u12 u13 u14 u15 u16 u17 u18 u19 u20 u21 u22 u23 u24 u25 u26 u27 u28 u29 u30 u31 u32 u33 u34 u35 u36 u37 u38 u39 u40 u41 u42 u43 u44 u45 u46 u47 u48 u49 u50 u51 u52 u53 u54 u55 u56 u57 u58 u59 u60 u61 u62 u63 u64 u65 u66 u67 u68 u69 u70 u71 u72 u73 u74 u75 u76 u77 u78 u79 u80 u81 u82 u83 u84 u85 u86 u87 u88 u89 u90 u91 u92 u93 u94 u95 u96 u97 u98 u99 u100 u101 u102 u103 u104 u105 u106 u107 u108 u109 u110 u111 u112 u113 u114 u115 u116 u117 u118 u119 u120 u121 u122 u123 u124 u125 u126 u127 u128 u129 u130 u131 u132 u133 u134 u135 u136 u137 : Value) (w1 : World), Below w.heap.size w w1 → K { tmps := #[.string a, .string b, .slice sa n sc, u3, u4, u5, .bool false, u7, u8, u9, u10, u11, u12, u13, u14, u15, u16, u17, u18, u19, u20, u21, u22, u23, u24, u25, u26, u27, u28, u29, u30, u31, u32, u33, u34, u35, u36, u37, u38, u39, u40, u41, u42, u43, u44, u45, u46, u47, u48, u49, u50, u51, u52, u53, u54, u55, u56, u57, u58, u59, u60, u61, u62, u63, u64, u65, u66, u67, u68, u69, u70, u71, u72, u73, u74, u75, u76, u77, u78, u79, u80, u81, u82, u83, u84, u85, u86, u87, u88, u89, u90, u91, u92, u93, u94, u95, u96, u97, u98, u99, u100, u101, u102, u103, u104, u105, u106, u107, u108, u109, u110, u111, u112, u113, u114, u115, u116, u117, u118, u119, u120, u121, u122, u123, u124, u125, u126, u127, u128, u129, u130, u131, u132, u133, u134, u135, u136, u137], defers := [] } w1 by
    have HK := Hid.mk' hK'
    clear hK hK'
    go_wp2_with (go_at_call 7; refine (hwk _).mono ?_; rintro e wn ⟨rfl, hBn⟩; replace hBc := hBc.trans (hBn.mono hBc.size); clear hBn)
    exact HK.out _ _ _ _ _ _ _ _ _ _ _ _ _ _ _ _ _ _ _ _ _ _ _ _ _ _ _ _ _ _ _ _ _ _ _ _ _ _ _ _ _ _ _ _ _ _ _ _ _ _ _ _ _ _ _ _ _ _ _ _ _ _ _ _ _ _ _ _ _ _ _ _ _ _ _ _ _ _ _ _ _ _ _ _ _ _ _ _ _ _ _ _ _ _ _ _ _ _ _ _ _ _ _ _ _ _ _ _ _ _ _ _ _ _ _ _ _ _ _ _ _ _ _ _ _ _ _ _ _ _ _ _ _ _ _ hBc
  clear hBc
  intro u3 u4 u5 u7 u8 u9 u10 u11 u12 u13 u14 u15 u16 u17 u18 u19 u20 u21 u22 u23 u24 u25 u26 u27 u28 u29 u30 u31 u32 u33 u34 u35 u36 u37 u38 u39 u40 u41 u42 u43 u44 u45 u46 u47 u48 u49 u50 u51 u52 u53 u54 u55 u56 u57 u58 u59 u60 u61 u62 u63 u64 u65 u66 u67 u68 u69 u70 u71 u72 u73 u74 u75 u76 u77 u78 u79 u80 u81 u82 u83 u84 u85 u86 u87 u88 u89 u90 u91 u92 u93 u94 u95 u96 u97 u98 u99 u100 u101 u102 u103 u104 u105 u106 u107 u108 u109 u110 u111 u112 u113 u114 u115 u116 u117 u118 u119 u120 u121 u122 u123 u124 u125 u126 u127 u128 u129 u130 u131 u132 u133 u134 u135 u136 u137 w1 hBc
  refine hK _ _ ?_
  clear hK
  refine wp_seq_k fun K hK => ?_
  suffices hK' : ∀ (u3 u4 u5 u7 u8 u9 u10 u11 u12 u13 u14 u15 u16 u17 u18 u19 u20 u21 u22 u23 u24 u25 u26 u27 u28 u29 u30 u31 u32 u33 u34 u35 u36 u37 u38 u39 u40 u41 u42 u43 u44 u45 u46 u47 u48 u49 u50 u51 u52 u53 u54 u55 u56 u57 u58 u59 u60 u61 u62 u63 u64 u65 u66 u67 u68 u69 u70 u71 u72 u73 u74 u75 u76 u77 u78 u79 u80 u81 u82 u83 u84 u85 u86 u87 u88 u89 u90 u91 u92 u93 u94 u95 u96 u97 u98 u99 u100 u101 u102 u103 u104 u105 u106 u107 u108 u109 u110 u111 u112 u113 u114 u115 u116 u117 u118 u119 u120 u121 u122 u123 u124 u125 u126 u127 u128 u129 u130 u131 u132 u133 u134 u135 u136 u137 : Value) (w1 : World), Below w.heap.size w w1 → K { tmps := #[.string A, .string B, .slice sa n sc, u3, u4, u5, .bool false, u7, u8, u9, u10, u11, u12, u13, u14, u15, u16, u17, u18, u19, u20, u21, u22, u23, u24, u25, u26, u27, u28, u29, u30, u31, u32, u33, u34, u35, u36, u37, u38, u39, u40, u41, u42, u43, u44, u45, u46, u47, u48, u49, u50, u51, u52, u53, u54, u55, u56, u57, u58, u59, u60, u61, u62, u63, u64, u65, u66, u67, u68, u69, u70, u71, u72, u73, u74, u75, u76, u77, u78, u79, u80, u81, u82, u83, u84, u85, u86, u87, u88, u89, u90, u91, u92, u93, u94, u95, u96, u97, u98, u99, u100, u101, u102, u103, u104, u105, u106, u107, u108, u109, u110, u111, u112, u113, u114, u115, u116, u117, u118, u119, u120, u121, u122, u123, u124, u125, u126, u127, u128, u129, u130, u131, u132, u133, u134, u135, u136, u137], defers := [] } w1 by
    have HK := Hid.mk' hK'
    clear hK hK'
    go_wp2_with first
      | (go_at_call 8; refine (hca _).mono ?_; clear hca; rintro e wn ⟨rfl, rfl⟩)
      | (go_at_call 8; refine (hcb _).mono ?_; clear hcb; rintro e wn ⟨rfl, rfl⟩)
    exact HK.out _ _ _ _ _ _ _ _ _ _ _ _ _ _ _ _ _ _ _ _ _ _ _ _ _ _ _ _ _ _ _ _ _ _ _ _ _ _ _ _ _ _ _ _ _ _ _ _ _ _ _ _ _ _ _ _ _ _ _ _ _ _ _ _ _ _ _ _ _ _ _ _ _ _ _ _ _ _ _ _ _ _ _ _ _ _ _ _ _ _ _ _ _ _ _ _ _ _ _ _ _ _ _ _ _ _ _ _ _ _ _ _ _ _ _ _ _ _ _ _ _ _ _ _ _ _ _ _ _ _ _ _ _ _ _ hBc
  clear hBc
  intro u3 u4 u5 u7 u8 u9 u10 u11 u12 u13 u14 u15 u16 u17 u18 u19 u20 u21 u22 u23 u24 u25 u26 u27 u28 u29 u30 u31 u32 u33 u34 u35 u36 u37 u38 u39 u40 u41 u42 u43 u44 u45 u46 u47 u48 u49 u50 u51 u52 u53 u54 u55 u56 u57 u58 u59 u60 u61 u62 u63 u64 u65 u66 u67 u68 u69 u70 u71 u72 u73 u74 u75 u76 u77 u78 u79 u80 u81 u82 u83 u84 u85 u86 u87 u88 u89 u90 u91 u92 u93 u94 u95 u96 u97 u98 u99 u100 u101 u102 u103 u104 u105 u106 u107 u108 u109 u110 u111 u112 u113 u114 u115 u116 u117 u118 u119 u120 u121 u122 u123 u124 u125 u126 u127 u128 u129 u130 u131 u132 u133 u134 u135 u136 u137 w1 hBc
  refine hK _ _ ?_
  clear hK
  clear hca hcb
  refine wp_seq_k fun K hK => ?_
  suffices hK' : ∀ (u3 u4 u5 u7 u8 u9 u10 u11 u12 u13 u14 u15 u16 u17 u18 u19 u20 u21 u22 u23 u24 u25 u26 u27 u28 u29 u30 u31 u32 u33 u34 u35 u36 u37 u38 u39 u40 u41 u42 u43 u44 u45 u46 u47 u48 u49 u50 u51 u52 u53 u54 u55 u56 u57 u58 u59 u60 u61 u62 u63 u64 u65 u66 u67 u68 u69 u70 u71 u72 u73 u74 u75 u76 u77 u78 u79 u80 u81 u82 u83 u84 u85 u86 u87 u88 u89 u90 u91 u92 u93 u94 u95 u96 u97 u98 u99 u100 u101 u102 u103 u104 u105 u106 u107 u108 u109 u110 u111 u112 u113 u114 u115 u116 u117 u118 u119 u120 u121 u122 u123 u124 u125 u126 u127 u128 u129 u130 u131 u132 u133 u134 u135 u136 u137 : Value) (w1 : World), Below w.heap.size w w1 → K { tmps := #[.string A, .string B, .slice sa m sc, u3, u4, u5, .bool false, u7, u8, u9, u10, u11, u12, u13, u14, u15, u16, u17, u18, u19, u20, u21, u22, u23, u24, u25, u26, u27, u28, u29, u30, u31, u32, u33, u34, u35, u36, u37, u38, u39, u40, u41, u42, u43, u44, u45, u46, u47, u48, u49, u50, u51, u52, u53, u54, u55, u56, u57, u58, u59, u60, u61, u62, u63, u64, u65, u66, u67, u68, u69, u70, u71, u72, u73, u74, u75, u76, u77, u78, u79, u80, u81, u82, u83, u84, u85, u86, u87, u88, u89, u90, u91, u92, u93, u94, u95, u96, u97, u98, u99, u100, u101, u102, u103, u104, u105, u106, u107, u108, u109, u110, u111, u112, u113, u114, u115, u116, u117, u118, u119, u120, u121, u122, u123, u124, u125, u126, u127, u128, u129, u130, u131, u132, u133, u134, u135, u136, u137], defers := [] } w1 by
    have HK := Hid.mk' hK'
    clear hK hK'
    clear HST
    have hmin : min (n : Int) 40 = (m : Int) := by have := HM.out; omega
    clear HM
    cases sa with
    | none =>
      obtain ⟨rfl, rfl⟩ := hnil rfl
      obtain rfl : m = 0 := by omega
      clear hmin hnil
      go_wp2
      exact HK.out _ _ _ _ _ _ _ _ _ _ _ _ _ _ _ _ _ _ _ _ _ _ _ _ _ _ _ _ _ _ _ _ _ _ _ _ _ _ _ _ _ _ _ _ _ _ _ _ _ _ _ _ _ _ _ _ _ _ _ _ _ _ _ _ _ _ _ _ _ _ _ _ _ _ _ _ _ _ _ _ _ _ _ _ _ _ _ _ _ _ _ _ _ _ _ _ _ _ _ _ _ _ _ _ _ _ _ _ _ _ _ _ _ _ _ _ _ _ _ _ _ _ _ _ _ _ _ _ _ _ _ _ _ _ _ hBc
    | some ad =>
      clear hnil
      have i3 : (m : Int) ≤ sc := by omega
      go_wp2
      exact HK.out _ _ _ _ _ _ _ _ _ _ _ _ _ _ _ _ _ _ _ _ _ _ _ _ _ _ _ _ _ _ _ _ _ _ _ _ _ _ _ _ _ _ _ _ _ _ _ _ _ _ _ _ _ _ _ _ _ _ _ _ _ _ _ _ _ _ _ _ _ _ _ _ _ _ _ _ _ _ _ _ _ _ _ _ _ _ _ _ _ _ _ _ _ _ _ _ _ _ _ _ _ _ _ _ _ _ _ _ _ _ _ _ _ _ _ _ _ _ _ _ _ _ _ _ _ _ _ _ _ _ _ _ _ _ _ hBc
  clear hBc
  intro u3 u4 u5 u7 u8 u9 u10 u11 u12 u13 u14 u15 u16 u17 u18 u19 u20 u21 u22 u23 u24 u25 u26 u27 u28 u29 u30 u31 u32 u33 u34 u35 u36 u37 u38 u39 u40 u41 u42 u43 u44 u45 u46 u47 u48 u49 u50 u51 u52 u53 u54 u55 u56 u57 u58 u59 u60 u61 u62 u63 u64 u65 u66 u67 u68 u69 u70 u71 u72 u73 u74 u75 u76 u77 u78 u79 u80 u81 u82 u83 u84 u85 u86 u87 u88 u89 u90 u91 u92 u93 u94 u95 u96 u97 u98 u99 u100 u101 u102 u103 u104 u105 u106 u107 u108 u109 u110 u111 u112 u113 u114 u115 u116 u117 u118 u119 u120 u121 u122 u123 u124 u125 u126 u127 u128 u129 u130 u131 u132 u133 u134 u135 u136 u137 w1 hBc
  refine hK _ _ ?_
  clear hK
  clear HM hnil
  refine wp_seq_k fun K hK => ?_
  suffices hK' : ∀ (u3 u4 u5 u7 u8 u9 u10 u11 u12 u13 u14 u15 u16 u17 u18 u19 u20 u21 u22 u23 u24 u25 u26 u27 u28 u29 u30 u31 u32 u33 u34 u35 u36 u37 u38 u39 u40 u41 u42 u43 u44 u45 u46 u47 u48 u49 u50 u51 u52 u53 u54 u55 u56 u57 u58 u59 u60 u61 u62 u63 u64 u65 u66 u67 u68 u69 u70 u71 u72 u73 u74 u75 u76 u77 u78 u79 u80 u81 u82 u83 u84 u85 u86 u87 u88 u89 u90 u91 u92 u93 u94 u95 u96 u97 u98 u99 u100 u101 u102 u103 u104 u105 u106 u107 u108 u109 u110 u111 u112 u113 u114 u115 u116 u117 u118 u119 u120 u121 u122 u123 u124 u125 u126 u127 u128 u129 u130 u131 u132 u133 u134 u135 u136 u137 : Value) (w1 : World), Below w.heap.size w w1 → K { tmps := #[.string A, .string B, .slice sa m sc, u3, u4, u5, .bool false, u7, u8, u9, u10, u11, u12, u13, u14, u15, u16, u17, u18, u19, u20, u21, u22, u23, u24, u25, u26, u27, u28, u29, u30, u31, u32, u33, u34, u35, u36, u37, u38, u39, u40, u41, u42, u43, u44, u45, u46, u47, u48, u49, u50, u51, u52, u53, u54, u55, u56, u57, u58, u59, u60, u61, u62, u63, u64, u65, u66, u67, u68, u69, u70, u71, u72, u73, u74, u75, u76, u77, u78, u79, u80, u81, u82, u83, u84, u85, u86, u87, u88, u89, u90, u91, u92, u93, u94, u95, u96, u97, u98, u99, u100, u101, u102, u103, u104, u105, u106, u107, u108, u109, u110, u111, u112, u113, u114, u115, u116, u117, u118, u119, u120, u121, u122, u123, u124, u125, u126, u127, u128, u129, u130, u131, u132, u133, u134, u135, u136, u137], defers := [] } w1 by
    have HK := Hid.mk' hK'
    clear hK hK'
    cases hpa : isP (bs A) with
    | false =>
      obtain ⟨e1, he⟩ : ∃ e1, e1 = (pathSpot (bs A)).1 := ⟨_, rfl⟩
      have h0 := Split_no A (by omega) e1 he
      have j1 : ¬ (e1 : Int) = 0 := by have := isP_err _ hpa; rw [← he] at this; omega
      clear hpa he HST
      go_wp2_with (go_at_call 11; refine (h0 _).mono ?_; clear h0; rintro e wn ⟨⟨v, rfl⟩, hBn⟩; replace hBc := hBc.trans (hBn.mono hBc.size))
      exact HK.out _ _ _ _ _ _ _ _ _ _ _ _ _ _ _ _ _ _ _ _ _ _ _ _ _ _ _ _ _ _ _ _ _ _ _ _ _ _ _ _ _ _ _ _ _ _ _ _ _ _ _ _ _ _ _ _ _ _ _ _ _ _ _ _ _ _ _ _ _ _ _ _ _ _ _ _ _ _ _ _ _ _ _ _ _ _ _ _ _ _ _ _ _ _ _ _ _ _ _ _ _ _ _ _ _ _ _ _ _ _ _ _ _ _ _ _ _ _ _ _ _ _ _ _ _ _ _ _ _ _ _ _ _ _ _ hBc
    | true =>
      have h0 := Split_ok A (by omega) hpa
      have hk := parts_len_small _ hpa
      have hmk := fun (w : World) (aa : Option Addr) (k c : Nat) (h1 : Strs w aa k ((parts (bs A)).map mk)) (h2 : k ≤ c) (h3 : k ≤ 1000) => Make_any w aa k c _ h1 (fun x hx => by
        obtain ⟨y, hy, rfl⟩ := List.mem_map.1 hx
        have := (okName_parts y (isP_good hpa y hy)).2.1
        rw [← bs_len, bs_mk]; unfold maxLen; omega) h2 h3
      simp only [map_bs_mk, make_parts _ hpa, mk_bs, show ((0 : Nat) : Int) = 0 from rfl] at hmk
      have HP : Hid (∀ (w : World) (aa : Option Addr) (c : Nat), Strs w aa (parts (bs A)).length ((parts (bs A)).map mk) → (parts (bs A)).length ≤ c → Calls Try.prog 12 #[.slice aa (parts (bs A)).length c] w fun e w' => e = .returned (.tuple #[.string A, .int .i64 0]) ∧ Below w.heap.size w w') := fun w aa c h1 h2 => hmk w aa _ c h1 h2 (by omega)
      clear hmk
      by_cases hz : bs A = []
      · have hk0 : (parts (bs A)).length = 0 := by rw [hz]; rfl
        rw [hk0] at h0 hk HP
        clear HST hpa
        go_wp2_with first
          | (go_at_call 11; refine (h0 _).mono ?_; clear h0; rintro e wn ⟨⟨a1, c1, rfl, hc1, hs1⟩, hBn⟩; replace hBc := hBc.trans (hBn.mono hBc.size); have h1 := HP.out wn a1 c1 hs1 hc1)
          | (go_at_call 12; refine h1.mono ?_; clear h1; rintro e wn2 ⟨rfl, hBn⟩; replace hBc := hBc.trans (hBn.mono hBc.size))
        exact HK.out _ _ _ _ _ _ _ _ _ _ _ _ _ _ _ _ _ _ _ _ _ _ _ _ _ _ _ _ _ _ _ _ _ _ _ _ _ _ _ _ _ _ _ _ _ _ _ _ _ _ _ _ _ _ _ _ _ _ _ _ _ _ _ _ _ _ _ _ _ _ _ _ _ _ _ _ _ _ _ _ _ _ _ _ _ _ _ _ _ _ _ _ _ _ _ _ _ _ _ _ _ _ _ _ _ _ _ _ _ _ _ _ _ _ _ _ _ _ _ _ _ _ _ _ _ _ _ _ _ _ _ _ _ _ _ hBc
      · obtain ⟨hd, hj⟩ := dir_join (bs A) hpa hz
        have h2 := fun w => Dir_any A w (by omega)
        rw [hd] at h2
        have hgl : (glue (parts (bs A)).dropLast).length ≤ 200 := by
          have := glue_pre_len _ _ (List.dropLast_prefix (parts (bs A)))
          have h3 := ((isP_iff _).1 hpa).1
          rw [glue_parts] at this; omega
        have hgn : ((parts (bs A)).getLastD []).length ≤ 200 := by
          have hn := parts_ne hz
          have : (parts (bs A)).getLastD [] ∈ parts (bs A) := by rw [List.getLastD_eq_getLast?, List.getLast?_eq_some_getLast hn]; exact List.getLast_mem hn
          have := (okName_parts _ (isP_good hpa _ this)).2.1
          omega
        have h3 := fun w => Join_any (mk (glue (parts (bs A)).dropLast)) (mk ((parts (bs A)).getLastD [])) w (by rw [← bs_len, bs_mk]; omega) (by rw [← bs_len, bs_mk]; omega)
        rw [bs_mk, bs_mk, hj] at h3
        simp only [mk_bs, show ((0 : Nat) : Int) = 0 from rfl] at h2 h3
        have hk1 : 0 < (parts (bs A)).length := List.length_pos_iff.2 (parts_ne hz)
        generalize mk (glue (parts (bs A)).dropLast) = D1 at h2 h3
        generalize mk ((parts (bs A)).getLastD []) = D2 at h2 h3
        obtain ⟨K0, hK0⟩ : ∃ K0, K0 = (parts (bs A)).length := ⟨_, rfl⟩
        rw [← hK0] at h0 hk HP hk1
        have i1 : (0 : Int) < K0 := by omega
        clear HST hpa hd hj hgl hgn hK0
        go_wp2_with first
          | (go_at_call 11; refine (h0 _).mono ?_; clear h0; rintro e wn ⟨⟨a1, c1, rfl, hc1, hs1⟩, hBn⟩; replace hBc := hBc.trans (hBn.mono hBc.size); have h1 := HP.out wn a1 c1 hs1 hc1)
          | (go_at_call 12; refine h1.mono ?_; clear h1; rintro e wn2 ⟨rfl, hBn⟩; replace hBc := hBc.trans (hBn.mono hBc.size))
          | (go_at_call 13; refine (h2 _).mono ?_; clear h2; rintro e wn ⟨rfl, hBn⟩; replace hBc := hBc.trans (hBn.mono hBc.size))
          | (go_at_call 14; refine (h3 _).mono ?_; clear h3; rintro e wn ⟨rfl, hBn⟩; replace hBc := hBc.trans (hBn.mono hBc.size))
        exact HK.out _ _ _ _ _ _ _ _ _ _ _ _ _ _ _ _ _ _ _ _ _ _ _ _ _ _ _ _ _ _ _ _ _ _ _ _ _ _ _ _ _ _ _ _ _ _ _ _ _ _ _ _ _ _ _ _ _ _ _ _ _ _ _ _ _ _ _ _ _ _ _ _ _ _ _ _ _ _ _ _ _ _ _ _ _ _ _ _ _ _ _ _ _ _ _ _ _ _ _ _ _ _ _ _ _ _ _ _ _ _ _ _ _ _ _ _ _ _ _ _ _ _ _ _ _ _ _ _ _ _ _ _ _ _ _ hBc
  clear hBc
  intro u3 u4 u5 u7 u8 u9 u10 u11 u12 u13 u14 u15 u16 u17 u18 u19 u20 u21 u22 u23 u24 u25 u26 u27 u28 u29 u30 u31 u32 u33 u34 u35 u36 u37 u38 u39 u40 u41 u42 u43 u44 u45 u46 u47 u48 u49 u50 u51 u52 u53 u54 u55 u56 u57 u58 u59 u60 u61 u62 u63 u64 u65 u66 u67 u68 u69 u70 u71 u72 u73 u74 u75 u76 u77 u78 u79 u80 u81 u82 u83 u84 u85 u86 u87 u88 u89 u90 u91 u92 u93 u94 u95 u96 u97 u98 u99 u100 u101 u102 u103 u104 u105 u106 u107 u108 u109 u110 u111 u112 u113 u114 u115 u116 u117 u118 u119 u120 u121 u122 u123 u124 u125 u126 u127 u128 u129 u130 u131 u132 u133 u134 u135 u136 u137 w1 hBc
  refine hK _ _ ?_
  clear hK
  refine wp_seq_k fun K hK => ?_
  suffices hK' : ∀ (u3 u4 u5 u7 u8 u9 u10 u11 u12 u13 u14 u15 u16 u17 u18 u19 u20 u21 u22 u23 u24 u25 u26 u27 u28 u29 u30 u31 u32 u33 u34 u35 u36 u37 u38 u39 u40 u41 u42 u43 u44 u45 u46 u47 u48 u49 u50 u51 u52 u53 u54 u55 u56 u57 u58 u59 u60 u61 u62 u63 u64 u65 u66 u67 u68 u69 u70 u71 u72 u73 u74 u75 u76 u77 u78 u79 u80 u81 u82 u83 u84 u85 u86 u87 u88 u89 u90 u91 u92 u93 u94 u95 u96 u97 u98 u99 u100 u101 u102 u103 u104 u105 u106 u107 u108 u109 u110 u111 u112 u113 u114 u115 u116 u117 u118 u119 u120 u121 u122 u123 u124 u125 u126 u127 u128 u129 u130 u131 u132 u133 u134 u135 u136 u137 : Value) (w1 : World), Below w.heap.size w w1 → K { tmps := #[.string A, .string B, .slice sa m sc, u3, u4, u5, .bool false, u7, u8, u9, u10, u11, u12, u13, u14, u15, u16, u17, u18, u19, u20, u21, u22, u23, u24, u25, u26, u27, u28, u29, u30, u31, u32, u33, u34, u35, u36, u37, u38, u39, u40, u41, u42, u43, u44, u45, u46, u47, u48, u49, u50, u51, u52, u53, u54, u55, u56, u57, u58, u59, u60, u61, u62, u63, u64, u65, u66, u67, u68, u69, u70, u71, u72, u73, u74, u75, u76, u77, u78, u79, u80, u81, u82, u83, u84, u85, u86, u87, u88, u89, u90, u91, u92, u93, u94, u95, u96, u97, u98, u99, u100, u101, u102, u103, u104, u105, u106, u107, u108, u109, u110, u111, u112, u113, u114, u115, u116, u117, u118, u119, u120, u121, u122, u123, u124, u125, u126, u127, u128, u129, u130, u131, u132, u133, u134, u135, u136, u137], defers := [] } w1 by
    have HK := Hid.mk' hK'
    clear hK hK'
    have hst := HST.out.1.kept hBc
    have hmk := Make_any w1 sa m sc ll hst HST.out.2 hmc (by omega)
    obtain ⟨S, hS⟩ : ∃ S, mk (makeP (ll.map bs)).1 = S := ⟨_, rfl⟩
    obtain ⟨q, he⟩ : ∃ q, (makeP (ll.map bs)).2 = q := ⟨_, rfl⟩
    have hSb : bs S = (makeP (ll.map bs)).1 := by rw [← hS, bs_mk]
    have hSz : S.size ≤ 200 := by rw [← bs_len, hSb]; exact makeP_len _
    rw [hS, he] at hmk
    by_cases h0 : q = 0
    · subst h0
      obtain ⟨hpS, hparts⟩ := make_back (ll.map bs) (bs S) (by rw [hSb, ← he])
      have h2 := Split_ok S (by omega) hpS
      rw [hparts, map_mk_bs, List.length_map, hst.1] at h2
      have HT : Hid (∀ (w' : World) (a1 : Option Addr) (c1 : Nat), Below w.heap.size w w' → Strs w' a1 m ll → Calls Try.prog 15 #[.slice a1 m c1, .slice sa m sc] w' fun e w'' => e = .returned (.bool true) ∧ Below w'.heap.size w' w'') := fun w' a1 c1 hB h1 => texts_yes w' a1 sa m c1 sc ll h1 (HST.out.1.kept hB) (by omega)
      clear HST hS he hSb hpS hparts hst
      go_wp2_with first
        | (go_at_call 12; refine hmk.mono ?_; clear hmk; rintro e wn ⟨rfl, hBn⟩; replace hBc := hBc.trans (hBn.mono hBc.size))
        | (go_at_call 11; refine (h2 _).mono ?_; clear h2; rintro e wn ⟨⟨a1, c1, rfl, hc1, hs1⟩, hBn⟩; replace hBc := hBc.trans (hBn.mono hBc.size); have h3 := HT.out wn a1 c1 hBc hs1)
        | (go_at_call 15; refine h3.mono ?_; clear h3; rintro e wn2 ⟨rfl, hBn⟩; replace hBc := hBc.trans (hBn.mono hBc.size))
      exact HK.out _ _ _ _ _ _ _ _ _ _ _ _ _ _ _ _ _ _ _ _ _ _ _ _ _ _ _ _ _ _ _ _ _ _ _ _ _ _ _ _ _ _ _ _ _ _ _ _ _ _ _ _ _ _ _ _ _ _ _ _ _ _ _ _ _ _ _ _ _ _ _ _ _ _ _ _ _ _ _ _ _ _ _ _ _ _ _ _ _ _ _ _ _ _ _ _ _ _ _ _ _ _ _ _ _ _ _ _ _ _ _ _ _ _ _ _ _ _ _ _ _ _ _ _ _ _ _ _ _ _ _ _ _ _ _ hBc
    · have j0 : ¬ (q : Int) = 0 := by omega
      clear HST hS he hSb hst
      go_wp2_with (go_at_call 12; refine hmk.mono ?_; clear hmk; rintro e wn ⟨rfl, hBn⟩; replace hBc := hBc.trans (hBn.mono hBc.size))
      exact HK.out _ _ _ _ _ _ _ _ _ _ _ _ _ _ _ _ _ _ _ _ _ _ _ _ _ _ _ _ _ _ _ _ _ _ _ _ _ _ _ _ _ _ _ _ _ _ _ _ _ _ _ _ _ _ _ _ _ _ _ _ _ _ _ _ _ _ _ _ _ _ _ _ _ _ _ _ _ _ _ _ _ _ _ _ _ _ _ _ _ _ _ _ _ _ _ _ _ _ _ _ _ _ _ _ _ _ _ _ _ _ _ _ _ _ _ _ _ _ _ _ _ _ _ _ _ _ _ _ _ _ _ _ _ _ _ hBc
  clear hBc
  intro u3 u4 u5 u7 u8 u9 u10 u11 u12 u13 u14 u15 u16 u17 u18 u19 u20 u21 u22 u23 u24 u25 u26 u27 u28 u29 u30 u31 u32 u33 u34 u35 u36 u37 u38 u39 u40 u41 u42 u43 u44 u45 u46 u47 u48 u49 u50 u51 u52 u53 u54 u55 u56 u57 u58 u59 u60 u61 u62 u63 u64 u65 u66 u67 u68 u69 u70 u71 u72 u73 u74 u75 u76 u77 u78 u79 u80 u81 u82 u83 u84 u85 u86 u87 u88 u89 u90 u91 u92 u93 u94 u95 u96 u97 u98 u99 u100 u101 u102 u103 u104 u105 u106 u107 u108 u109 u110 u111 u112 u113 u114 u115 u116 u117 u118 u119 u120 u121 u122 u123 u124 u125 u126 u127 u128 u129 u130 u131 u132 u133 u134 u135 u136 u137 w1 hBc
  refine hK _ _ ?_
  clear hK
  clear HST
  refine wp_seq_k fun K hK => ?_
  suffices hK' : ∀ (u3 u4 u5 u7 u8 u9 u10 u11 u12 u13 u14 u15 u16 u17 u18 u19 u20 u21 u22 u23 u24 u25 u26 u27 u28 u29 u30 u31 u32 u33 u34 u35 u36 u37 u38 u39 u40 u41 u42 u43 u44 u45 u46 u47 u48 u49 u50 u51 u52 u53 u54 u55 u56 u57 u58 u59 u60 u61 u62 u63 u64 u65 u66 u67 u68 u69 u70 u71 u72 u73 u74 u75 u76 u77 u78 u79 u80 u81 u82 u83 u84 u85 u86 u87 u88 u89 u90 u91 u92 u93 u94 u95 u96 u97 u98 u99 u100 u101 u102 u103 u104 u105 u106 u107 u108 u109 u110 u111 u112 u113 u114 u115 u116 u117 u118 u119 u120 u121 u122 u123 u124 u125 u126 u127 u128 u129 u130 u131 u132 u133 u134 u135 u136 u137 : Value) (w1 : World), Below w.heap.size w w1 → K { tmps := #[.string A, .string B, .slice sa m sc, u3, u4, u5, .bool false, u7, u8, u9, u10, u11, u12, u13, u14, u15, u16, u17, u18, u19, u20, u21, u22, u23, u24, u25, u26, u27, u28, u29, u30, u31, u32, u33, u34, u35, u36, u37, u38, u39, u40, u41, u42, u43, u44, u45, u46, u47, u48, u49, u50, u51, u52, u53, u54, u55, u56, u57, u58, u59, u60, u61, u62, u63, u64, u65, u66, u67, u68, u69, u70, u71, u72, u73, u74, u75, u76, u77, u78, u79, u80, u81, u82, u83, u84, u85, u86, u87, u88, u89, u90, u91, u92, u93, u94, u95, u96, u97, u98, u99, u100, u101, u102, u103, u104, u105, u106, u107, u108, u109, u110, u111, u112, u113, u114, u115, u116, u117, u118, u119, u120, u121, u122, u123, u124, u125, u126, u127, u128, u129, u130, u131, u132, u133, u134, u135, u136, u137], defers := [] } w1 by
    have HK := Hid.mk' hK'
    clear hK hK'
    have hjl := joinR_len (bs A) (bs B)
    rw [bs_len, bs_len] at hjl
    have hm := fun w => Join_any A B w (by omega) (by omega)
    obtain ⟨S, hS⟩ : ∃ S, mk (joinR (bs A) (bs B)).1 = S := ⟨_, rfl⟩
    obtain ⟨q, he⟩ : ∃ q, (joinR (bs A) (bs B)).2 = q := ⟨_, rfl⟩
    have hSb : bs S = (joinR (bs A) (bs B)).1 := by rw [← hS, bs_mk]
    have hSz : S.size ≤ 4096 := by rw [← bs_len, hSb]; omega
    rw [hS, he] at hm
    by_cases h0 : q = 0
    · subst h0
      have hje : joinR (bs A) (bs B) = (bs S, 0) := by rw [hSb, ← he]
      obtain ⟨q1, q2, q3⟩ := join_rest (bs A) (bs B) (bs S) hje
      obtain ⟨pa, pb, ps, _⟩ := join_back (bs A) (bs B) (bs S) hje
      have h1 := fun w => Rest_any S A w (by omega) (by omega)
      have hrs : (if isP (bs S) && isP (bs A) then restS S A else ⟨#[]⟩) = B := by
        rw [ps, pa]
        show restS S A = B
        unfold restS
        rw [q2]; exact mk_bs B
      rw [hrs, q1] at h1
      have h2 := In_is S A (by omega) (by omega) true q1
      have h3 := fun w => Depth_any S w (by omega)
      have h4 := fun w => Depth_any A w (by omega)
      have h5 := fun w => Depth_any B w (by omega)
      rw [q3] at h3
      have hda : 0 ≤ depthP (bs A) ∧ depthP (bs A) ≤ 16 := by unfold depthP; rw [pa]; have := parts_len_small _ pa; simp; omega
      have hdb : 0 ≤ depthP (bs B) ∧ depthP (bs B) ≤ 16 := by unfold depthP; rw [pb]; have := parts_len_small _ pb; simp; omega
      generalize depthP (bs A) = da at h3 h4 hda
      generalize depthP (bs B) = db at h3 h5 hdb
      clear hS he hSb hje q1 q2 q3 pa pb ps hrs hjl
      go_wp2_with first
        | (go_at_call 14; refine (hm _).mono ?_; clear hm; rintro e wn ⟨rfl, hBn⟩; replace hBc := hBc.trans (hBn.mono hBc.size))
        | (go_at_call 16; refine (h1 _).mono ?_; clear h1; rintro e wn ⟨rfl, hBn⟩; replace hBc := hBc.trans (hBn.mono hBc.size))
        | (go_at_call 17; refine (h2 _).mono ?_; clear h2; rintro e wn ⟨rfl, hBn⟩; replace hBc := hBc.trans (hBn.mono hBc.size))
        | (go_at_call 18; refine (h3 _).mono ?_; clear h3; rintro e wn ⟨rfl, hBn⟩; replace hBc := hBc.trans (hBn.mono hBc.size))
        | (go_at_call 18; refine (h4 _).mono ?_; clear h4; rintro e wn ⟨rfl, hBn⟩; replace hBc := hBc.trans (hBn.mono hBc.size))
        | (go_at_call 18; refine (h5 _).mono ?_; clear h5; rintro e wn ⟨rfl, hBn⟩; replace hBc := hBc.trans (hBn.mono hBc.size))
      exact HK.out _ _ _ _ _ _ _ _ _ _ _ _ _ _ _ _ _ _ _ _ _ _ _ _ _ _ _ _ _ _ _ _ _ _ _ _ _ _ _ _ _ _ _ _ _ _ _ _ _ _ _ _ _ _ _ _ _ _ _ _ _ _ _ _ _ _ _ _ _ _ _ _ _ _ _ _ _ _ _ _ _ _ _ _ _ _ _ _ _ _ _ _ _ _ _ _ _ _ _ _ _ _ _ _ _ _ _ _ _ _ _ _ _ _ _ _ _ _ _ _ _ _ _ _ _ _ _ _ _ _ _ _ _ _ _ hBc
    · have j0 : ¬ (q : Int) = 0 := by omega
      clear hS he hSb hjl
      go_wp2_with (go_at_call 14; refine (hm _).mono ?_; clear hm; rintro e wn ⟨rfl, hBn⟩; replace hBc := hBc.trans (hBn.mono hBc.size))
      exact HK.out _ _ _ _ _ _ _ _ _ _ _ _ _ _ _ _ _ _ _ _ _ _ _ _ _ _ _ _ _ _ _ _ _ _ _ _ _ _ _ _ _ _ _ _ _ _ _ _ _ _ _ _ _ _ _ _ _ _ _ _ _ _ _ _ _ _ _ _ _ _ _ _ _ _ _ _ _ _ _ _ _ _ _ _ _ _ _ _ _ _ _ _ _ _ _ _ _ _ _ _ _ _ _ _ _ _ _ _ _ _ _ _ _ _ _ _ _ _ _ _ _ _ _ _ _ _ _ _ _ _ _ _ _ _ _ hBc
  clear hBc
  intro u3 u4 u5 u7 u8 u9 u10 u11 u12 u13 u14 u15 u16 u17 u18 u19 u20 u21 u22 u23 u24 u25 u26 u27 u28 u29 u30 u31 u32 u33 u34 u35 u36 u37 u38 u39 u40 u41 u42 u43 u44 u45 u46 u47 u48 u49 u50 u51 u52 u53 u54 u55 u56 u57 u58 u59 u60 u61 u62 u63 u64 u65 u66 u67 u68 u69 u70 u71 u72 u73 u74 u75 u76 u77 u78 u79 u80 u81 u82 u83 u84 u85 u86 u87 u88 u89 u90 u91 u92 u93 u94 u95 u96 u97 u98 u99 u100 u101 u102 u103 u104 u105 u106 u107 u108 u109 u110 u111 u112 u113 u114 u115 u116 u117 u118 u119 u120 u121 u122 u123 u124 u125 u126 u127 u128 u129 u130 u131 u132 u133 u134 u135 u136 u137 w1 hBc
  refine hK _ _ ?_
  clear hK
  go_wp2_with (go_at_call 7; refine (hwk _).mono ?_; rintro e wn ⟨rfl, hBn⟩; replace hBc := hBc.trans (hBn.mono hBc.size); clear hBn)
  go_ret
  exact ⟨rfl, hBc⟩
end Go.Proofs.Ytadmpobnpnbgoab
