/- The walk of NameOrder. -/
import Derived.Test.YtadmpobnpnbgoabNStr
import Derived.Test.YtadmpobnpnbgoabNLiesWalk
namespace Go.Proofs.Ytadmpobnpnbgoab
open Go.RowKit Go.Shelf
open Go.Lib (compareBytes)

theorem Cmp_is (p q : ByteArray) (hp : p.size ≤ 20000) (hq : q.size ≤ 20000) (v : Int) (h : ordP (bs p) (bs q) = v) (w : World) :
    Calls Try.prog 21 #[.string p, .string q] w fun e w' => e = .returned (.int .i64 v) ∧ Below w.heap.size w w' := by
  rw [← h]; exact Compare_any p q w (by omega) (by omega)

set_option maxRecDepth 100000 in
set_option maxHeartbeats 20000000 in
theorem order_any (a b c : ByteArray) (w : World) (ha : a.size ≤ maxLen) (hb : b.size ≤ maxLen) (hc : c.size ≤ maxLen) :
    Calls Try.prog 6 #[.string a, .string b, .string c] w fun e w' => e = .returned (.bool true) ∧ Below w.heap.size w w' := by
  have hwk := fun w => wakes_any w
  have hca := fun w => cut_any a w ha
  have hcb := fun w => cut_any b w hb
  have hcc := fun w => cut_any c w hc
  have hA := cutT_size a
  have hB := cutT_size b
  have hC := cutT_size c
  generalize cutT a = A at hca hA
  generalize cutT b = B at hcb hB
  generalize cutT c = C at hcc hC
  have hfd := field0
  have hBc : Below w.heap.size w w := Below.refl _ _
  obtain ⟨x, hx⟩ : ∃ x, ordP (bs A) (bs B) = x := ⟨_, rfl⟩
  obtain ⟨y, hy⟩ : ∃ y, ordP (bs B) (bs C) = y := ⟨_, rfl⟩
  obtain ⟨z, hz⟩ : ∃ z, ordP (bs A) (bs C) = z := ⟨_, rfl⟩
  have HX : Hid (ordP (bs A) (bs B) = x) := hx
  have HY : Hid (ordP (bs B) (bs C) = y) := hy
  have HZ : Hid (ordP (bs A) (bs C) = z) := hz
  have CX := Cmp_is A B (by omega) (by omega) x hx
  have CY := Cmp_is B C (by omega) (by omega) y hy
  have CZ := Cmp_is A C (by omega) (by omega) z hz
  have rx := ordP_range (bs A) (bs B)
  have ry := ordP_range (bs B) (bs C)
  have rz := ordP_range (bs A) (bs C)
  rw [hx] at rx
  rw [hy] at ry
  rw [hz] at rz
  clear hx hy hz ha hb hc
  go_enter Try.func6, Try.ntmps6
  refine wp_seq_k fun K hK => ?_
  suffices hK' : ∀ (u3 u4 u5 u7 u8 u9 u10 u11 u12 u13 u14 u15 u16 u17 u18 u19 u20 u21 u22 u23 u24 u25 u26 u27 u28 u29 u30 u31 u32 u33 u34 u35 u36 u37 u38 u39 u40 u41 u42 u43 u44 u45 u46 u47 u48 u49 u50 u51 u52 u53 u54 u55 u56 u57 u58 u59 u60 u61 u62 u63 u64 u65 u66 u67 u68 u69 u70 u71 u72 u73 u74 u75 u76 u77 u78 u79 u80 u81 u82 u83 u84 u85 u86 u87 u88 u89 u90 u91 u92 u93 u94 u95 u96 u97 u98 u99 u100 u101 u102 u103 u104 u105 u106 u107 u108 u109 u110 u111 u112 u113 u114 u115 u116 u117 u118 u119 u120 u121 u122 : Value) (w1 : World), Below w.heap.size w w1 → K { tmps := #[.string a, .string b, .string c, u3, u4, u5, .bool false, u7, u8, u9, u10, u11, u12, u13, u14, u15, u16, u17, u18, u19, u20, u21, u22, u23, u24, u25, u26, u27, u28, u29, u30, u31, u32, u33, u34, u35, u36, u37, u38, u39, u40, u41, u42, u43, u44, u45, u46, u47, u48, u49, u50, u51, u52, u53, u54, u55, u56, u57, u58, u59, u60, u61, u62, u63, u64, u65, u66, u67, u68, u69, u70, u71, u72, u73, u74, u75, u76, u77, u78, u79, u80, u81, u82, u83, u84, u85, u86, u87, u88, u89, u90, u91, u92, u93, u94, u95, u96, u97, u98, u99, u100, u101, u102, u103, u104, u105, u106, u107, u108, u109, u110, u111, u112, u113, u114, u115, u116, u117, u118, u119, u120, u121, u122], defers := [] } w1 by
    have HK := Hid.mk' hK'
    clear hK hK'
    go_wp2
    exact HK.out _ _ _ _ _ _ _ _ _ _ _ _ _ _ _ _ _ _ _ _ _ _ _ _ _ _ _ _ _ _ _ _ _ _ _ _ _ _ _ _ _ _ _ _ _ _ _ _ _ _ _ _ _ _ _ _ _ _ _ _ _ _ _ _ _ _ _ _ _ _ _ _ _ _ _ _ _ _ _ _ _ _ _ _ _ _ _ _ _ _ _ _ _ _ _ _ _ _ _ _ _ _ _ _ _ _ _ _ _ _ _ _ _ _ _ _ _ _ _ _ hBc
  clear hBc
  intro u3 u4 u5 u7 u8 u9 u10 u11 u12 u13 u14 u15 u16 u17 u18 u19 u20 u21 u22 u23 u24 u25 u26 u27 u28 u29 u30 u31 u32 u33 u34 u35 u36 u37 u38 u39 u40 u41 u42 u43 u44 u45 u46 u47 u48 u49 u50 u51 u52 u53 u54 u55 u56 u57 u58 u59 u60 u61 u62 u63 u64 u65 u66 u67 u68 u69 u70 u71 u72 u73 u74 u75 u76 u77 u78 u79 u80 u81 u82 u83 u84 u85 u86 u87 u88 u89 u90 u91 u92 u93 u94 u95 u96 u97 u98 u99 u100 u101 u102 u103 u104 u105 u106 u107 u108 u109 u110 u111 u112 u113 u114 u115 u116 u117 u118 u119 u120 u121 u122 w1 hBc
  refine hK _ _ ?_
  clear hK
  refine wp_seq_k fun K hK => ?_
  suffices hK' : ∀ (u3 u4 u5 u7 u8 u9 u10 u11 u12 u13 u14 u15 u16 u17 u18 u19 u20 u21 u22 u23 u24 u25 u26 u27 u28 u29 u30 u31 u32 u33 u34 u35 u36 u37 u38 u39 u40 u41 u42 u43 u44 u45 u46 u47 u48 u49 u50 u51 u52 u53 u54 u55 u56 u57 u58 u59 u60 u61 u62 u63 u64 u65 u66 u67 u68 u69 u70 u71 u72 u73 u74 u75 u76 u77 u78 u79 u80 u81 u82 u83 u84 u85 u86 u87 u88 u89 u90 u91 u92 u93 u94 u95 u96 u97 u98 u99 u100 u101 u102 u103 u104 u105 u106 u107 u108 u109 u110 u111 u112 u113 u114 u115 u116 u117 u118 u119 u120 u121 u122 : Value) (w1 : World), Below w.heap.size w w1 → K { tmps := #[.string a, .string b, .string c, u3, u4, u5, .bool false, u7, u8, u9, u10, u11, u12, u13, u14, u15, u16, u17, u18, u19, u20, u21, u22, u23, u24, u25, u26, u27, u28, u29, u30, u31, u32, u33, u34, u35, u36, u37, u38, u39, u40, u41, u42, u43, u44, u45, u46, u47, u48, u49, u50, u51, u52, u53, u54, u55, u56, u57, u58, u59, u60, u61, u62, u63, u64, u65, u66, u67, u68, u69, u70, u71, u72, u73, u74, u75, u76, u77, u78, u79, u80, u81, u82, u83, u84, u85, u86, u87, u88, u89, u90, u91, u92, u93, u94, u95, u96, u97, u98, u99, u100, u101, u102, u103, u104, u105, u106, u107, u108, u109, u110, u111, u112, u113, u114, u115, u116, u117, u118, u119, u120, u121, u122], defers := [] } w1 by
    have HK := Hid.mk' hK'
    clear hK hK'
    go_wp2_with (go_at_call 7; refine (hwk _).mono ?_; rintro e wn ⟨rfl, hBn⟩; replace hBc := hBc.trans (hBn.mono hBc.size); clear hBn)
    exact HK.out _ _ _ _ _ _ _ _ _ _ _ _ _ _ _ _ _ _ _ _ _ _ _ _ _ _ _ _ _ _ _ _ _ _ _ _ _ _ _ _ _ _ _ _ _ _ _ _ _ _ _ _ _ _ _ _ _ _ _ _ _ _ _ _ _ _ _ _ _ _ _ _ _ _ _ _ _ _ _ _ _ _ _ _ _ _ _ _ _ _ _ _ _ _ _ _ _ _ _ _ _ _ _ _ _ _ _ _ _ _ _ _ _ _ _ _ _ _ _ _ hBc
  clear hBc
  intro u3 u4 u5 u7 u8 u9 u10 u11 u12 u13 u14 u15 u16 u17 u18 u19 u20 u21 u22 u23 u24 u25 u26 u27 u28 u29 u30 u31 u32 u33 u34 u35 u36 u37 u38 u39 u40 u41 u42 u43 u44 u45 u46 u47 u48 u49 u50 u51 u52 u53 u54 u55 u56 u57 u58 u59 u60 u61 u62 u63 u64 u65 u66 u67 u68 u69 u70 u71 u72 u73 u74 u75 u76 u77 u78 u79 u80 u81 u82 u83 u84 u85 u86 u87 u88 u89 u90 u91 u92 u93 u94 u95 u96 u97 u98 u99 u100 u101 u102 u103 u104 u105 u106 u107 u108 u109 u110 u111 u112 u113 u114 u115 u116 u117 u118 u119 u120 u121 u122 w1 hBc
  refine hK _ _ ?_
  clear hK
  refine wp_seq_k fun K hK => ?_
  suffices hK' : ∀ (u3 u4 u5 u7 u8 u9 u10 u11 u12 u13 u14 u15 u16 u17 u18 u19 u20 u21 u22 u23 u24 u25 u26 u27 u28 u29 u30 u31 u32 u33 u34 u35 u36 u37 u38 u39 u40 u41 u42 u43 u44 u45 u46 u47 u48 u49 u50 u51 u52 u53 u54 u55 u56 u57 u58 u59 u60 u61 u62 u63 u64 u65 u66 u67 u68 u69 u70 u71 u72 u73 u74 u75 u76 u77 u78 u79 u80 u81 u82 u83 u84 u85 u86 u87 u88 u89 u90 u91 u92 u93 u94 u95 u96 u97 u98 u99 u100 u101 u102 u103 u104 u105 u106 u107 u108 u109 u110 u111 u112 u113 u114 u115 u116 u117 u118 u119 u120 u121 u122 : Value) (w1 : World), Below w.heap.size w w1 → K { tmps := #[.string A, .string B, .string C, u3, u4, u5, .bool false, u7, u8, u9, u10, u11, u12, u13, u14, u15, u16, u17, u18, u19, u20, u21, u22, u23, u24, u25, u26, u27, u28, u29, u30, u31, u32, u33, u34, u35, u36, u37, u38, u39, u40, u41, u42, u43, u44, u45, u46, u47, u48, u49, u50, u51, u52, u53, u54, u55, u56, u57, u58, u59, u60, u61, u62, u63, u64, u65, u66, u67, u68, u69, u70, u71, u72, u73, u74, u75, u76, u77, u78, u79, u80, u81, u82, u83, u84, u85, u86, u87, u88, u89, u90, u91, u92, u93, u94, u95, u96, u97, u98, u99, u100, u101, u102, u103, u104, u105, u106, u107, u108, u109, u110, u111, u112, u113, u114, u115, u116, u117, u118, u119, u120, u121, u122], defers := [] } w1 by
    have HK := Hid.mk' hK'
    clear hK hK'
    go_wp2_with first
      | (go_at_call 8; refine (hca _).mono ?_; clear hca; rintro e wn ⟨rfl, rfl⟩)
      | (go_at_call 8; refine (hcb _).mono ?_; clear hcb; rintro e wn ⟨rfl, rfl⟩)
      | (go_at_call 8; refine (hcc _).mono ?_; clear hcc; rintro e wn ⟨rfl, rfl⟩)
    exact HK.out _ _ _ _ _ _ _ _ _ _ _ _ _ _ _ _ _ _ _ _ _ _ _ _ _ _ _ _ _ _ _ _ _ _ _ _ _ _ _ _ _ _ _ _ _ _ _ _ _ _ _ _ _ _ _ _ _ _ _ _ _ _ _ _ _ _ _ _ _ _ _ _ _ _ _ _ _ _ _ _ _ _ _ _ _ _ _ _ _ _ _ _ _ _ _ _ _ _ _ _ _ _ _ _ _ _ _ _ _ _ _ _ _ _ _ _ _ _ _ _ hBc
  clear hBc
  intro u3 u4 u5 u7 u8 u9 u10 u11 u12 u13 u14 u15 u16 u17 u18 u19 u20 u21 u22 u23 u24 u25 u26 u27 u28 u29 u30 u31 u32 u33 u34 u35 u36 u37 u38 u39 u40 u41 u42 u43 u44 u45 u46 u47 u48 u49 u50 u51 u52 u53 u54 u55 u56 u57 u58 u59 u60 u61 u62 u63 u64 u65 u66 u67 u68 u69 u70 u71 u72 u73 u74 u75 u76 u77 u78 u79 u80 u81 u82 u83 u84 u85 u86 u87 u88 u89 u90 u91 u92 u93 u94 u95 u96 u97 u98 u99 u100 u101 u102 u103 u104 u105 u106 u107 u108 u109 u110 u111 u112 u113 u114 u115 u116 u117 u118 u119 u120 u121 u122 w1 hBc
  refine hK _ _ ?_
  clear hK
  clear hca hcb hcc
  refine wp_seq_k fun K hK => ?_
  suffices hK' : ∀ (u3 u4 u5 u10 u11 u12 u13 u14 u15 u16 u17 u18 u19 u20 u21 u22 u23 u24 u25 u26 u27 u28 u29 u30 u31 u32 u33 u34 u35 u36 u37 u38 u39 u40 u41 u42 u43 u44 u45 u46 u47 u48 u49 u50 u51 u52 u53 u54 u55 u56 u57 u58 u59 u60 u61 u62 u63 u64 u65 u66 u67 u68 u69 u70 u71 u72 u73 u74 u75 u76 u77 u78 u79 u80 u81 u82 u83 u84 u85 u86 u87 u88 u89 u90 u91 u92 u93 u94 u95 u96 u97 u98 u99 u100 u101 u102 u103 u104 u105 u106 u107 u108 u109 u110 u111 u112 u113 u114 u115 u116 u117 u118 u119 u120 u121 u122 : Value) (w1 : World), Below w.heap.size w w1 → K { tmps := #[.string A, .string B, .string C, u3, u4, u5, .bool false, .int .i64 x, .int .i64 y, .int .i64 z, u10, u11, u12, u13, u14, u15, u16, u17, u18, u19, u20, u21, u22, u23, u24, u25, u26, u27, u28, u29, u30, u31, u32, u33, u34, u35, u36, u37, u38, u39, u40, u41, u42, u43, u44, u45, u46, u47, u48, u49, u50, u51, u52, u53, u54, u55, u56, u57, u58, u59, u60, u61, u62, u63, u64, u65, u66, u67, u68, u69, u70, u71, u72, u73, u74, u75, u76, u77, u78, u79, u80, u81, u82, u83, u84, u85, u86, u87, u88, u89, u90, u91, u92, u93, u94, u95, u96, u97, u98, u99, u100, u101, u102, u103, u104, u105, u106, u107, u108, u109, u110, u111, u112, u113, u114, u115, u116, u117, u118, u119, u120, u121, u122], defers := [] } w1 by
    have HK := Hid.mk' hK'
    clear hK hK'
    clear HX HY HZ rx ry rz
    go_wp2_with first
      | (go_at_call 21; refine (CX _).mono ?_; clear CX; rintro e wn ⟨rfl, hBn⟩; replace hBc := hBc.trans (hBn.mono hBc.size); clear hBn)
      | (go_at_call 21; refine (CY _).mono ?_; clear CY; rintro e wn ⟨rfl, hBn⟩; replace hBc := hBc.trans (hBn.mono hBc.size); clear hBn)
      | (go_at_call 21; refine (CZ _).mono ?_; clear CZ; rintro e wn ⟨rfl, hBn⟩; replace hBc := hBc.trans (hBn.mono hBc.size); clear hBn)
    exact HK.out _ _ _ _ _ _ _ _ _ _ _ _ _ _ _ _ _ _ _ _ _ _ _ _ _ _ _ _ _ _ _ _ _ _ _ _ _ _ _ _ _ _ _ _ _ _ _ _ _ _ _ _ _ _ _ _ _ _ _ _ _ _ _ _ _ _ _ _ _ _ _ _ _ _ _ _ _ _ _ _ _ _ _ _ _ _ _ _ _ _ _ _ _ _ _ _ _ _ _ _ _ _ _ _ _ _ _ _ _ _ _ _ _ _ _ _ _ hBc
  clear hBc
  intro u3 u4 u5 u10 u11 u12 u13 u14 u15 u16 u17 u18 u19 u20 u21 u22 u23 u24 u25 u26 u27 u28 u29 u30 u31 u32 u33 u34 u35 u36 u37 u38 u39 u40 u41 u42 u43 u44 u45 u46 u47 u48 u49 u50 u51 u52 u53 u54 u55 u56 u57 u58 u59 u60 u61 u62 u63 u64 u65 u66 u67 u68 u69 u70 u71 u72 u73 u74 u75 u76 u77 u78 u79 u80 u81 u82 u83 u84 u85 u86 u87 u88 u89 u90 u91 u92 u93 u94 u95 u96 u97 u98 u99 u100 u101 u102 u103 u104 u105 u106 u107 u108 u109 u110 u111 u112 u113 u114 u115 u116 u117 u118 u119 u120 u121 u122 w1 hBc
  refine hK _ _ ?_
  clear hK
  clear CX CY CZ
  refine wp_seq_k fun K hK => ?_
  suffices hK' : ∀ (u3 u4 u5 u10 u11 u12 u13 u14 u15 u16 u17 u18 u19 u20 u21 u22 u23 u24 u25 u26 u27 u28 u29 u30 u31 u32 u33 u34 u35 u36 u37 u38 u39 u40 u41 u42 u43 u44 u45 u46 u47 u48 u49 u50 u51 u52 u53 u54 u55 u56 u57 u58 u59 u60 u61 u62 u63 u64 u65 u66 u67 u68 u69 u70 u71 u72 u73 u74 u75 u76 u77 u78 u79 u80 u81 u82 u83 u84 u85 u86 u87 u88 u89 u90 u91 u92 u93 u94 u95 u96 u97 u98 u99 u100 u101 u102 u103 u104 u105 u106 u107 u108 u109 u110 u111 u112 u113 u114 u115 u116 u117 u118 u119 u120 u121 u122 : Value) (w1 : World), Below w.heap.size w w1 → K { tmps := #[.string A, .string B, .string C, u3, u4, u5, .bool false, .int .i64 x, .int .i64 y, .int .i64 z, u10, u11, u12, u13, u14, u15, u16, u17, u18, u19, u20, u21, u22, u23, u24, u25, u26, u27, u28, u29, u30, u31, u32, u33, u34, u35, u36, u37, u38, u39, u40, u41, u42, u43, u44, u45, u46, u47, u48, u49, u50, u51, u52, u53, u54, u55, u56, u57, u58, u59, u60, u61, u62, u63, u64, u65, u66, u67, u68, u69, u70, u71, u72, u73, u74, u75, u76, u77, u78, u79, u80, u81, u82, u83, u84, u85, u86, u87, u88, u89, u90, u91, u92, u93, u94, u95, u96, u97, u98, u99, u100, u101, u102, u103, u104, u105, u106, u107, u108, u109, u110, u111, u112, u113, u114, u115, u116, u117, u118, u119, u120, u121, u122], defers := [] } w1 by
    have HK := Hid.mk' hK'
    clear hK hK'
    rcases rx with e | e | e
    · subst e
      rcases ry with e | e | e
      · subst e
        have z1 : ¬ 0 < z := by have := ordP_trans (bs A) (bs B) (bs C) (by rw [HX.out]; decide) (by rw [HY.out]; decide); rw [HZ.out] at this; omega
        have hne : ¬ A = B := fun e => by have := (ordP_zero _ _).2 (congrArg bs e); rw [HX.out] at this; exact absurd this (by decide)
        have hq : (A.toList == B.toList) = false := by rw [str_ne]; exact decide_eq_false hne
        have hq2 : ¬ A.toList = B.toList := by rw [toList_bs, toList_bs]; exact fun e => hne (bs_inj e)
        have h2 := Cmp_is B A (by omega) (by omega) (1) (by have := ordP_neg (bs A) (bs B); rw [HX.out] at this; omega)
        clear HX HY HZ
        go_wp2_with (go_at_call 21; refine (h2 _).mono ?_; clear h2; rintro e wn ⟨rfl, hBn⟩; replace hBc := hBc.trans (hBn.mono hBc.size); clear hBn)
        exact HK.out _ _ _ _ _ _ _ _ _ _ _ _ _ _ _ _ _ _ _ _ _ _ _ _ _ _ _ _ _ _ _ _ _ _ _ _ _ _ _ _ _ _ _ _ _ _ _ _ _ _ _ _ _ _ _ _ _ _ _ _ _ _ _ _ _ _ _ _ _ _ _ _ _ _ _ _ _ _ _ _ _ _ _ _ _ _ _ _ _ _ _ _ _ _ _ _ _ _ _ _ _ _ _ _ _ _ _ _ _ _ _ _ _ _ _ _ _ hBc
      · subst e
        have z1 : ¬ 0 < z := by have := ordP_trans (bs A) (bs B) (bs C) (by rw [HX.out]; decide) (by rw [HY.out]; decide); rw [HZ.out] at this; omega
        have hne : ¬ A = B := fun e => by have := (ordP_zero _ _).2 (congrArg bs e); rw [HX.out] at this; exact absurd this (by decide)
        have hq : (A.toList == B.toList) = false := by rw [str_ne]; exact decide_eq_false hne
        have hq2 : ¬ A.toList = B.toList := by rw [toList_bs, toList_bs]; exact fun e => hne (bs_inj e)
        have h2 := Cmp_is B A (by omega) (by omega) (1) (by have := ordP_neg (bs A) (bs B); rw [HX.out] at this; omega)
        clear HX HY HZ
        go_wp2_with (go_at_call 21; refine (h2 _).mono ?_; clear h2; rintro e wn ⟨rfl, hBn⟩; replace hBc := hBc.trans (hBn.mono hBc.size); clear hBn)
        exact HK.out _ _ _ _ _ _ _ _ _ _ _ _ _ _ _ _ _ _ _ _ _ _ _ _ _ _ _ _ _ _ _ _ _ _ _ _ _ _ _ _ _ _ _ _ _ _ _ _ _ _ _ _ _ _ _ _ _ _ _ _ _ _ _ _ _ _ _ _ _ _ _ _ _ _ _ _ _ _ _ _ _ _ _ _ _ _ _ _ _ _ _ _ _ _ _ _ _ _ _ _ _ _ _ _ _ _ _ _ _ _ _ _ _ _ _ _ _ hBc
      · subst e
        have hne : ¬ A = B := fun e => by have := (ordP_zero _ _).2 (congrArg bs e); rw [HX.out] at this; exact absurd this (by decide)
        have hq : (A.toList == B.toList) = false := by rw [str_ne]; exact decide_eq_false hne
        have hq2 : ¬ A.toList = B.toList := by rw [toList_bs, toList_bs]; exact fun e => hne (bs_inj e)
        have h2 := Cmp_is B A (by omega) (by omega) (1) (by have := ordP_neg (bs A) (bs B); rw [HX.out] at this; omega)
        clear HX HY HZ
        go_wp2_with (go_at_call 21; refine (h2 _).mono ?_; clear h2; rintro e wn ⟨rfl, hBn⟩; replace hBc := hBc.trans (hBn.mono hBc.size); clear hBn)
        exact HK.out _ _ _ _ _ _ _ _ _ _ _ _ _ _ _ _ _ _ _ _ _ _ _ _ _ _ _ _ _ _ _ _ _ _ _ _ _ _ _ _ _ _ _ _ _ _ _ _ _ _ _ _ _ _ _ _ _ _ _ _ _ _ _ _ _ _ _ _ _ _ _ _ _ _ _ _ _ _ _ _ _ _ _ _ _ _ _ _ _ _ _ _ _ _ _ _ _ _ _ _ _ _ _ _ _ _ _ _ _ _ _ _ _ _ _ _ _ hBc
    · subst e
      rcases ry with e | e | e
      · subst e
        have z1 : ¬ 0 < z := by have := ordP_trans (bs A) (bs B) (bs C) (by rw [HX.out]; decide) (by rw [HY.out]; decide); rw [HZ.out] at this; omega
        have e : A = B := bs_inj ((ordP_zero _ _).1 HX.out)
        subst e
        have h2 := Cmp_is A A (by omega) (by omega) 0 ((ordP_zero _ _).2 rfl)
        clear HX HY HZ
        go_wp2_with (go_at_call 21; refine (h2 _).mono ?_; clear h2; rintro e wn ⟨rfl, hBn⟩; replace hBc := hBc.trans (hBn.mono hBc.size); clear hBn)
        exact HK.out _ _ _ _ _ _ _ _ _ _ _ _ _ _ _ _ _ _ _ _ _ _ _ _ _ _ _ _ _ _ _ _ _ _ _ _ _ _ _ _ _ _ _ _ _ _ _ _ _ _ _ _ _ _ _ _ _ _ _ _ _ _ _ _ _ _ _ _ _ _ _ _ _ _ _ _ _ _ _ _ _ _ _ _ _ _ _ _ _ _ _ _ _ _ _ _ _ _ _ _ _ _ _ _ _ _ _ _ _ _ _ _ _ _ _ _ _ hBc
      · subst e
        have z1 : ¬ 0 < z := by have := ordP_trans (bs A) (bs B) (bs C) (by rw [HX.out]; decide) (by rw [HY.out]; decide); rw [HZ.out] at this; omega
        have z2 : ¬ z < 0 := by have := ordP_trans' (bs A) (bs B) (bs C) (by rw [HX.out]; decide) (by rw [HY.out]; decide); rw [HZ.out] at this; omega
        have e : A = B := bs_inj ((ordP_zero _ _).1 HX.out)
        subst e
        have h2 := Cmp_is A A (by omega) (by omega) 0 ((ordP_zero _ _).2 rfl)
        clear HX HY HZ
        go_wp2_with (go_at_call 21; refine (h2 _).mono ?_; clear h2; rintro e wn ⟨rfl, hBn⟩; replace hBc := hBc.trans (hBn.mono hBc.size); clear hBn)
        exact HK.out _ _ _ _ _ _ _ _ _ _ _ _ _ _ _ _ _ _ _ _ _ _ _ _ _ _ _ _ _ _ _ _ _ _ _ _ _ _ _ _ _ _ _ _ _ _ _ _ _ _ _ _ _ _ _ _ _ _ _ _ _ _ _ _ _ _ _ _ _ _ _ _ _ _ _ _ _ _ _ _ _ _ _ _ _ _ _ _ _ _ _ _ _ _ _ _ _ _ _ _ _ _ _ _ _ _ _ _ _ _ _ _ _ _ _ _ _ hBc
      · subst e
        have z2 : ¬ z < 0 := by have := ordP_trans' (bs A) (bs B) (bs C) (by rw [HX.out]; decide) (by rw [HY.out]; decide); rw [HZ.out] at this; omega
        have e : A = B := bs_inj ((ordP_zero _ _).1 HX.out)
        subst e
        have h2 := Cmp_is A A (by omega) (by omega) 0 ((ordP_zero _ _).2 rfl)
        clear HX HY HZ
        go_wp2_with (go_at_call 21; refine (h2 _).mono ?_; clear h2; rintro e wn ⟨rfl, hBn⟩; replace hBc := hBc.trans (hBn.mono hBc.size); clear hBn)
        exact HK.out _ _ _ _ _ _ _ _ _ _ _ _ _ _ _ _ _ _ _ _ _ _ _ _ _ _ _ _ _ _ _ _ _ _ _ _ _ _ _ _ _ _ _ _ _ _ _ _ _ _ _ _ _ _ _ _ _ _ _ _ _ _ _ _ _ _ _ _ _ _ _ _ _ _ _ _ _ _ _ _ _ _ _ _ _ _ _ _ _ _ _ _ _ _ _ _ _ _ _ _ _ _ _ _ _ _ _ _ _ _ _ _ _ _ _ _ _ hBc
    · subst e
      rcases ry with e | e | e
      · subst e
        have hne : ¬ A = B := fun e => by have := (ordP_zero _ _).2 (congrArg bs e); rw [HX.out] at this; exact absurd this (by decide)
        have hq : (A.toList == B.toList) = false := by rw [str_ne]; exact decide_eq_false hne
        have hq2 : ¬ A.toList = B.toList := by rw [toList_bs, toList_bs]; exact fun e => hne (bs_inj e)
        have h2 := Cmp_is B A (by omega) (by omega) (-1) (by have := ordP_neg (bs A) (bs B); rw [HX.out] at this; omega)
        clear HX HY HZ
        go_wp2_with (go_at_call 21; refine (h2 _).mono ?_; clear h2; rintro e wn ⟨rfl, hBn⟩; replace hBc := hBc.trans (hBn.mono hBc.size); clear hBn)
        exact HK.out _ _ _ _ _ _ _ _ _ _ _ _ _ _ _ _ _ _ _ _ _ _ _ _ _ _ _ _ _ _ _ _ _ _ _ _ _ _ _ _ _ _ _ _ _ _ _ _ _ _ _ _ _ _ _ _ _ _ _ _ _ _ _ _ _ _ _ _ _ _ _ _ _ _ _ _ _ _ _ _ _ _ _ _ _ _ _ _ _ _ _ _ _ _ _ _ _ _ _ _ _ _ _ _ _ _ _ _ _ _ _ _ _ _ _ _ _ hBc
      · subst e
        have z2 : ¬ z < 0 := by have := ordP_trans' (bs A) (bs B) (bs C) (by rw [HX.out]; decide) (by rw [HY.out]; decide); rw [HZ.out] at this; omega
        have hne : ¬ A = B := fun e => by have := (ordP_zero _ _).2 (congrArg bs e); rw [HX.out] at this; exact absurd this (by decide)
        have hq : (A.toList == B.toList) = false := by rw [str_ne]; exact decide_eq_false hne
        have hq2 : ¬ A.toList = B.toList := by rw [toList_bs, toList_bs]; exact fun e => hne (bs_inj e)
        have h2 := Cmp_is B A (by omega) (by omega) (-1) (by have := ordP_neg (bs A) (bs B); rw [HX.out] at this; omega)
        clear HX HY HZ
        go_wp2_with (go_at_call 21; refine (h2 _).mono ?_; clear h2; rintro e wn ⟨rfl, hBn⟩; replace hBc := hBc.trans (hBn.mono hBc.size); clear hBn)
        exact HK.out _ _ _ _ _ _ _ _ _ _ _ _ _ _ _ _ _ _ _ _ _ _ _ _ _ _ _ _ _ _ _ _ _ _ _ _ _ _ _ _ _ _ _ _ _ _ _ _ _ _ _ _ _ _ _ _ _ _ _ _ _ _ _ _ _ _ _ _ _ _ _ _ _ _ _ _ _ _ _ _ _ _ _ _ _ _ _ _ _ _ _ _ _ _ _ _ _ _ _ _ _ _ _ _ _ _ _ _ _ _ _ _ _ _ _ _ _ hBc
      · subst e
        have z2 : ¬ z < 0 := by have := ordP_trans' (bs A) (bs B) (bs C) (by rw [HX.out]; decide) (by rw [HY.out]; decide); rw [HZ.out] at this; omega
        have hne : ¬ A = B := fun e => by have := (ordP_zero _ _).2 (congrArg bs e); rw [HX.out] at this; exact absurd this (by decide)
        have hq : (A.toList == B.toList) = false := by rw [str_ne]; exact decide_eq_false hne
        have hq2 : ¬ A.toList = B.toList := by rw [toList_bs, toList_bs]; exact fun e => hne (bs_inj e)
        have h2 := Cmp_is B A (by omega) (by omega) (-1) (by have := ordP_neg (bs A) (bs B); rw [HX.out] at this; omega)
        clear HX HY HZ
        go_wp2_with (go_at_call 21; refine (h2 _).mono ?_; clear h2; rintro e wn ⟨rfl, hBn⟩; replace hBc := hBc.trans (hBn.mono hBc.size); clear hBn)
        exact HK.out _ _ _ _ _ _ _ _ _ _ _ _ _ _ _ _ _ _ _ _ _ _ _ _ _ _ _ _ _ _ _ _ _ _ _ _ _ _ _ _ _ _ _ _ _ _ _ _ _ _ _ _ _ _ _ _ _ _ _ _ _ _ _ _ _ _ _ _ _ _ _ _ _ _ _ _ _ _ _ _ _ _ _ _ _ _ _ _ _ _ _ _ _ _ _ _ _ _ _ _ _ _ _ _ _ _ _ _ _ _ _ _ _ _ _ _ _ hBc
  clear hBc
  intro u3 u4 u5 u10 u11 u12 u13 u14 u15 u16 u17 u18 u19 u20 u21 u22 u23 u24 u25 u26 u27 u28 u29 u30 u31 u32 u33 u34 u35 u36 u37 u38 u39 u40 u41 u42 u43 u44 u45 u46 u47 u48 u49 u50 u51 u52 u53 u54 u55 u56 u57 u58 u59 u60 u61 u62 u63 u64 u65 u66 u67 u68 u69 u70 u71 u72 u73 u74 u75 u76 u77 u78 u79 u80 u81 u82 u83 u84 u85 u86 u87 u88 u89 u90 u91 u92 u93 u94 u95 u96 u97 u98 u99 u100 u101 u102 u103 u104 u105 u106 u107 u108 u109 u110 u111 u112 u113 u114 u115 u116 u117 u118 u119 u120 u121 u122 w1 hBc
  refine hK _ _ ?_
  clear hK
  clear HZ rz
  refine wp_seq_k fun K hK => ?_
  suffices hK' : ∀ (u3 u4 u5 u10 u11 u12 u13 u14 u15 u16 u17 u18 u19 u20 u21 u22 u23 u24 u25 u26 u27 u28 u29 u30 u31 u32 u33 u34 u35 u36 u37 u38 u39 u40 u41 u42 u43 u44 u45 u46 u47 u48 u49 u50 u51 u52 u53 u54 u55 u56 u57 u58 u59 u60 u61 u62 u63 u64 u65 u66 u67 u68 u69 u70 u71 u72 u73 u74 u75 u76 u77 u78 u79 u80 u81 u82 u83 u84 u85 u86 u87 u88 u89 u90 u91 u92 u93 u94 u95 u96 u97 u98 u99 u100 u101 u102 u103 u104 u105 u106 u107 u108 u109 u110 u111 u112 u113 u114 u115 u116 u117 u118 u119 u120 u121 u122 : Value) (w1 : World), Below w.heap.size w w1 → K { tmps := #[.string A, .string B, .string C, u3, u4, u5, .bool false, .int .i64 x, .int .i64 y, .int .i64 z, u10, u11, u12, u13, u14, u15, u16, u17, u18, u19, u20, u21, u22, u23, u24, u25, u26, u27, u28, u29, u30, u31, u32, u33, u34, u35, u36, u37, u38, u39, u40, u41, u42, u43, u44, u45, u46, u47, u48, u49, u50, u51, u52, u53, u54, u55, u56, u57, u58, u59, u60, u61, u62, u63, u64, u65, u66, u67, u68, u69, u70, u71, u72, u73, u74, u75, u76, u77, u78, u79, u80, u81, u82, u83, u84, u85, u86, u87, u88, u89, u90, u91, u92, u93, u94, u95, u96, u97, u98, u99, u100, u101, u102, u103, u104, u105, u106, u107, u108, u109, u110, u111, u112, u113, u114, u115, u116, u117, u118, u119, u120, u121, u122], defers := [] } w1 by
    have HK := Hid.mk' hK'
    clear hK hK'
    obtain ⟨v, hv⟩ : ∃ v, inP (bs A) (bs B) = v := ⟨_, rfl⟩
    have h2 := In_is A B (by omega) (by omega) v hv
    cases v with
    | false =>
      clear hv HX HY
      go_wp2_with (go_at_call 17; refine (h2 _).mono ?_; clear h2; rintro e wn ⟨rfl, hBn⟩; replace hBc := hBc.trans (hBn.mono hBc.size); clear hBn)
      exact HK.out _ _ _ _ _ _ _ _ _ _ _ _ _ _ _ _ _ _ _ _ _ _ _ _ _ _ _ _ _ _ _ _ _ _ _ _ _ _ _ _ _ _ _ _ _ _ _ _ _ _ _ _ _ _ _ _ _ _ _ _ _ _ _ _ _ _ _ _ _ _ _ _ _ _ _ _ _ _ _ _ _ _ _ _ _ _ _ _ _ _ _ _ _ _ _ _ _ _ _ _ _ _ _ _ _ _ _ _ _ _ _ _ _ _ _ _ _ hBc
    | true =>
      have hx0 : ¬ x < 0 := by have := ordP_in _ _ hv; rw [HX.out] at this; omega
      clear hv HX HY
      go_wp2_with (go_at_call 17; refine (h2 _).mono ?_; clear h2; rintro e wn ⟨rfl, hBn⟩; replace hBc := hBc.trans (hBn.mono hBc.size); clear hBn)
      exact HK.out _ _ _ _ _ _ _ _ _ _ _ _ _ _ _ _ _ _ _ _ _ _ _ _ _ _ _ _ _ _ _ _ _ _ _ _ _ _ _ _ _ _ _ _ _ _ _ _ _ _ _ _ _ _ _ _ _ _ _ _ _ _ _ _ _ _ _ _ _ _ _ _ _ _ _ _ _ _ _ _ _ _ _ _ _ _ _ _ _ _ _ _ _ _ _ _ _ _ _ _ _ _ _ _ _ _ _ _ _ _ _ _ _ _ _ _ _ hBc
  clear hBc
  intro u3 u4 u5 u10 u11 u12 u13 u14 u15 u16 u17 u18 u19 u20 u21 u22 u23 u24 u25 u26 u27 u28 u29 u30 u31 u32 u33 u34 u35 u36 u37 u38 u39 u40 u41 u42 u43 u44 u45 u46 u47 u48 u49 u50 u51 u52 u53 u54 u55 u56 u57 u58 u59 u60 u61 u62 u63 u64 u65 u66 u67 u68 u69 u70 u71 u72 u73 u74 u75 u76 u77 u78 u79 u80 u81 u82 u83 u84 u85 u86 u87 u88 u89 u90 u91 u92 u93 u94 u95 u96 u97 u98 u99 u100 u101 u102 u103 u104 u105 u106 u107 u108 u109 u110 u111 u112 u113 u114 u115 u116 u117 u118 u119 u120 u121 u122 w1 hBc
  refine hK _ _ ?_
  clear hK
  refine wp_seq_k fun K hK => ?_
  suffices hK' : ∀ (u3 u4 u5 u10 u11 u12 u13 u14 u15 u16 u17 u18 u19 u20 u21 u22 u23 u24 u25 u26 u27 u28 u29 u30 u31 u32 u33 u34 u35 u36 u37 u38 u39 u40 u41 u42 u43 u44 u45 u46 u47 u48 u49 u50 u51 u52 u53 u54 u55 u56 u57 u58 u59 u60 u61 u62 u63 u64 u65 u66 u67 u68 u69 u70 u71 u72 u73 u74 u75 u76 u77 u78 u79 u80 u81 u82 u83 u84 u85 u86 u87 u88 u89 u90 u91 u92 u93 u94 u95 u96 u97 u98 u99 u100 u101 u102 u103 u104 u105 u106 u107 u108 u109 u110 u111 u112 u113 u114 u115 u116 u117 u118 u119 u120 u121 u122 : Value) (w1 : World), Below w.heap.size w w1 → K { tmps := #[.string A, .string B, .string C, u3, u4, u5, .bool false, .int .i64 x, .int .i64 y, .int .i64 z, u10, u11, u12, u13, u14, u15, u16, u17, u18, u19, u20, u21, u22, u23, u24, u25, u26, u27, u28, u29, u30, u31, u32, u33, u34, u35, u36, u37, u38, u39, u40, u41, u42, u43, u44, u45, u46, u47, u48, u49, u50, u51, u52, u53, u54, u55, u56, u57, u58, u59, u60, u61, u62, u63, u64, u65, u66, u67, u68, u69, u70, u71, u72, u73, u74, u75, u76, u77, u78, u79, u80, u81, u82, u83, u84, u85, u86, u87, u88, u89, u90, u91, u92, u93, u94, u95, u96, u97, u98, u99, u100, u101, u102, u103, u104, u105, u106, u107, u108, u109, u110, u111, u112, u113, u114, u115, u116, u117, u118, u119, u120, u121, u122], defers := [] } w1 by
    have HK := Hid.mk' hK'
    clear hK hK'
    by_cases hx0 : x < 0
    · by_cases hy0 : y < 0
      · have hcm := fun w => Common_any A C w (by omega) (by omega)
        obtain ⟨M, hM⟩ : ∃ M, mk (comP (bs A) (bs C)) = M := ⟨_, rfl⟩
        have HM : Hid (bs M = comP (bs A) (bs C)) := by show _ = _; rw [← hM, bs_mk]
        have hMz : M.size ≤ 4096 := by
          rw [← bs_len, HM.out]
          unfold comP
          split
          · rename_i h
            have := glue_pre_len _ _ (lcp_left (parts (bs A)) (parts (bs C)))
            rw [glue_parts, bs_len] at this; omega
          · simp
        simp only [hM] at hcm
        clear hM
        cases hpc : isP (bs C) with
        | false =>
          obtain ⟨e1, he⟩ : ∃ e1, e1 = (pathSpot (bs C)).1 := ⟨_, rfl⟩
          have h0 := Path_no C (by omega) e1 he
          have j1 : ¬ (e1 : Int) = 0 := by have := isP_err _ hpc; rw [← he] at this; omega
          clear hpc HX HY HM he
          go_wp2_with first
            | (go_at_call 20; refine (hcm _).mono ?_; clear hcm; rintro e wn ⟨rfl, hBn⟩; replace hBc := hBc.trans (hBn.mono hBc.size); clear hBn)
            | (go_at_call 10; refine (h0 _).mono ?_; clear h0; rintro e wn ⟨rfl, hBn⟩; replace hBc := hBc.trans (hBn.mono hBc.size); clear hBn)
          exact HK.out _ _ _ _ _ _ _ _ _ _ _ _ _ _ _ _ _ _ _ _ _ _ _ _ _ _ _ _ _ _ _ _ _ _ _ _ _ _ _ _ _ _ _ _ _ _ _ _ _ _ _ _ _ _ _ _ _ _ _ _ _ _ _ _ _ _ _ _ _ _ _ _ _ _ _ _ _ _ _ _ _ _ _ _ _ _ _ _ _ _ _ _ _ _ _ _ _ _ _ _ _ _ _ _ _ _ _ _ _ _ _ _ _ _ _ _ _ hBc
        | true =>
          have h0 := Path_ok C (by omega) hpc
          have h1 := In_is B M (by omega) (by omega) true (by rw [HM.out]; exact ordP_together _ _ _ hpc (by rw [HX.out]; exact hx0) (by rw [HY.out]; exact hy0))
          clear hpc HX HY HM
          go_wp2_with first
            | (go_at_call 20; refine (hcm _).mono ?_; clear hcm; rintro e wn ⟨rfl, hBn⟩; replace hBc := hBc.trans (hBn.mono hBc.size); clear hBn)
            | (go_at_call 10; refine (h0 _).mono ?_; clear h0; rintro e wn ⟨rfl, hBn⟩; replace hBc := hBc.trans (hBn.mono hBc.size); clear hBn)
            | (go_at_call 17; refine (h1 _).mono ?_; clear h1; rintro e wn ⟨rfl, hBn⟩; replace hBc := hBc.trans (hBn.mono hBc.size); clear hBn)
          exact HK.out _ _ _ _ _ _ _ _ _ _ _ _ _ _ _ _ _ _ _ _ _ _ _ _ _ _ _ _ _ _ _ _ _ _ _ _ _ _ _ _ _ _ _ _ _ _ _ _ _ _ _ _ _ _ _ _ _ _ _ _ _ _ _ _ _ _ _ _ _ _ _ _ _ _ _ _ _ _ _ _ _ _ _ _ _ _ _ _ _ _ _ _ _ _ _ _ _ _ _ _ _ _ _ _ _ _ _ _ _ _ _ _ _ _ _ _ _ hBc
      · clear HX HY
        go_wp2
        exact HK.out _ _ _ _ _ _ _ _ _ _ _ _ _ _ _ _ _ _ _ _ _ _ _ _ _ _ _ _ _ _ _ _ _ _ _ _ _ _ _ _ _ _ _ _ _ _ _ _ _ _ _ _ _ _ _ _ _ _ _ _ _ _ _ _ _ _ _ _ _ _ _ _ _ _ _ _ _ _ _ _ _ _ _ _ _ _ _ _ _ _ _ _ _ _ _ _ _ _ _ _ _ _ _ _ _ _ _ _ _ _ _ _ _ _ _ _ _ hBc
    · clear HX HY
      go_wp2
      exact HK.out _ _ _ _ _ _ _ _ _ _ _ _ _ _ _ _ _ _ _ _ _ _ _ _ _ _ _ _ _ _ _ _ _ _ _ _ _ _ _ _ _ _ _ _ _ _ _ _ _ _ _ _ _ _ _ _ _ _ _ _ _ _ _ _ _ _ _ _ _ _ _ _ _ _ _ _ _ _ _ _ _ _ _ _ _ _ _ _ _ _ _ _ _ _ _ _ _ _ _ _ _ _ _ _ _ _ _ _ _ _ _ _ _ _ _ _ _ hBc
  clear hBc
  intro u3 u4 u5 u10 u11 u12 u13 u14 u15 u16 u17 u18 u19 u20 u21 u22 u23 u24 u25 u26 u27 u28 u29 u30 u31 u32 u33 u34 u35 u36 u37 u38 u39 u40 u41 u42 u43 u44 u45 u46 u47 u48 u49 u50 u51 u52 u53 u54 u55 u56 u57 u58 u59 u60 u61 u62 u63 u64 u65 u66 u67 u68 u69 u70 u71 u72 u73 u74 u75 u76 u77 u78 u79 u80 u81 u82 u83 u84 u85 u86 u87 u88 u89 u90 u91 u92 u93 u94 u95 u96 u97 u98 u99 u100 u101 u102 u103 u104 u105 u106 u107 u108 u109 u110 u111 u112 u113 u114 u115 u116 u117 u118 u119 u120 u121 u122 w1 hBc
  refine hK _ _ ?_
  clear hK
  clear HY ry
  refine wp_seq_k fun K hK => ?_
  suffices hK' : ∀ (u3 u4 u5 u10 u11 u12 u13 u14 u15 u16 u17 u18 u19 u20 u21 u22 u23 u24 u25 u26 u27 u28 u29 u30 u31 u32 u33 u34 u35 u36 u37 u38 u39 u40 u41 u42 u43 u44 u45 u46 u47 u48 u49 u50 u51 u52 u53 u54 u55 u56 u57 u58 u59 u60 u61 u62 u63 u64 u65 u66 u67 u68 u69 u70 u71 u72 u73 u74 u75 u76 u77 u78 u79 u80 u81 u82 u83 u84 u85 u86 u87 u88 u89 u90 u91 u92 u93 u94 u95 u96 u97 u98 u99 u100 u101 u102 u103 u104 u105 u106 u107 u108 u109 u110 u111 u112 u113 u114 u115 u116 u117 u118 u119 u120 u121 u122 : Value) (w1 : World), Below w.heap.size w w1 → K { tmps := #[.string A, .string B, .string C, u3, u4, u5, .bool false, .int .i64 x, .int .i64 y, .int .i64 z, u10, u11, u12, u13, u14, u15, u16, u17, u18, u19, u20, u21, u22, u23, u24, u25, u26, u27, u28, u29, u30, u31, u32, u33, u34, u35, u36, u37, u38, u39, u40, u41, u42, u43, u44, u45, u46, u47, u48, u49, u50, u51, u52, u53, u54, u55, u56, u57, u58, u59, u60, u61, u62, u63, u64, u65, u66, u67, u68, u69, u70, u71, u72, u73, u74, u75, u76, u77, u78, u79, u80, u81, u82, u83, u84, u85, u86, u87, u88, u89, u90, u91, u92, u93, u94, u95, u96, u97, u98, u99, u100, u101, u102, u103, u104, u105, u106, u107, u108, u109, u110, u111, u112, u113, u114, u115, u116, u117, u118, u119, u120, u121, u122], defers := [] } w1 by
    have HK := Hid.mk' hK'
    clear hK hK'
    cases hpa : isP (bs A) with
    | false =>
      obtain ⟨e1, he⟩ : ∃ e1, e1 = (pathSpot (bs A)).1 := ⟨_, rfl⟩
      have h0 := Path_no A (by omega) e1 he
      have j1 : ¬ (e1 : Int) = 0 := by have := isP_err _ hpa; rw [← he] at this; omega
      clear hpa HX he
      go_wp2_with (go_at_call 10; refine (h0 _).mono ?_; clear h0; rintro e wn ⟨rfl, hBn⟩; replace hBc := hBc.trans (hBn.mono hBc.size); clear hBn)
      exact HK.out _ _ _ _ _ _ _ _ _ _ _ _ _ _ _ _ _ _ _ _ _ _ _ _ _ _ _ _ _ _ _ _ _ _ _ _ _ _ _ _ _ _ _ _ _ _ _ _ _ _ _ _ _ _ _ _ _ _ _ _ _ _ _ _ _ _ _ _ _ _ _ _ _ _ _ _ _ _ _ _ _ _ _ _ _ _ _ _ _ _ _ _ _ _ _ _ _ _ _ _ _ _ _ _ _ _ _ _ _ _ _ _ _ _ _ _ _ hBc
    | true =>
      have h0 := Path_ok A (by omega) hpa
      cases hpb : isP (bs B) with
      | false =>
        obtain ⟨e1, he⟩ : ∃ e1, e1 = (pathSpot (bs B)).1 := ⟨_, rfl⟩
        have h1 := Path_no B (by omega) e1 he
        have j1 : ¬ (e1 : Int) = 0 := by have := isP_err _ hpb; rw [← he] at this; omega
        clear hpa hpb HX he
        go_wp2_with first
          | (go_at_call 10; refine (h0 _).mono ?_; clear h0; rintro e wn ⟨rfl, hBn⟩; replace hBc := hBc.trans (hBn.mono hBc.size); clear hBn)
          | (go_at_call 10; refine (h1 _).mono ?_; clear h1; rintro e wn ⟨rfl, hBn⟩; replace hBc := hBc.trans (hBn.mono hBc.size); clear hBn)
        exact HK.out _ _ _ _ _ _ _ _ _ _ _ _ _ _ _ _ _ _ _ _ _ _ _ _ _ _ _ _ _ _ _ _ _ _ _ _ _ _ _ _ _ _ _ _ _ _ _ _ _ _ _ _ _ _ _ _ _ _ _ _ _ _ _ _ _ _ _ _ _ _ _ _ _ _ _ _ _ _ _ _ _ _ _ _ _ _ _ _ _ _ _ _ _ _ _ _ _ _ _ _ _ _ _ _ _ _ _ _ _ _ _ _ _ _ _ _ _ hBc
      | true =>
        have h1 := Path_ok B (by omega) hpb
        have h2 := fun w => contains_stroke (A ++ B) w
        by_cases hs : (47 : UInt8) ∈ bs (A ++ B)
        · rw [decide_eq_true hs] at h2
          clear hpa hpb HX
          go_wp2_with first
            | (go_at_call 10; refine (h0 _).mono ?_; clear h0; rintro e wn ⟨rfl, hBn⟩; replace hBc := hBc.trans (hBn.mono hBc.size); clear hBn)
            | (go_at_call 10; refine (h1 _).mono ?_; clear h1; rintro e wn ⟨rfl, hBn⟩; replace hBc := hBc.trans (hBn.mono hBc.size); clear hBn)
            | (go_at_call 22; refine (h2 _).mono ?_; clear h2; rintro e wn ⟨rfl, rfl⟩)
          exact HK.out _ _ _ _ _ _ _ _ _ _ _ _ _ _ _ _ _ _ _ _ _ _ _ _ _ _ _ _ _ _ _ _ _ _ _ _ _ _ _ _ _ _ _ _ _ _ _ _ _ _ _ _ _ _ _ _ _ _ _ _ _ _ _ _ _ _ _ _ _ _ _ _ _ _ _ _ _ _ _ _ _ _ _ _ _ _ _ _ _ _ _ _ _ _ _ _ _ _ _ _ _ _ _ _ _ _ _ _ _ _ _ _ _ _ _ _ _ hBc
        · rw [decide_eq_false hs] at h2
          have h3 := fun w => str_cmp A B w
          have hxe : compareBytes (bs A) (bs B) = x := by
            rw [bs_append] at hs
            rw [← HX.out, ordP_plain _ _ hpa hpb (fun h => hs (List.mem_append.2 (.inl h))) (fun h => hs (List.mem_append.2 (.inr h)))]
          rw [hxe] at h3
          clear hpa hpb HX hxe
          go_wp2_with first
            | (go_at_call 10; refine (h0 _).mono ?_; clear h0; rintro e wn ⟨rfl, hBn⟩; replace hBc := hBc.trans (hBn.mono hBc.size); clear hBn)
            | (go_at_call 10; refine (h1 _).mono ?_; clear h1; rintro e wn ⟨rfl, hBn⟩; replace hBc := hBc.trans (hBn.mono hBc.size); clear hBn)
            | (go_at_call 22; refine (h2 _).mono ?_; clear h2; rintro e wn ⟨rfl, rfl⟩)
            | (go_at_call 23; refine (h3 _).mono ?_; clear h3; rintro e wn ⟨rfl, rfl⟩)
          exact HK.out _ _ _ _ _ _ _ _ _ _ _ _ _ _ _ _ _ _ _ _ _ _ _ _ _ _ _ _ _ _ _ _ _ _ _ _ _ _ _ _ _ _ _ _ _ _ _ _ _ _ _ _ _ _ _ _ _ _ _ _ _ _ _ _ _ _ _ _ _ _ _ _ _ _ _ _ _ _ _ _ _ _ _ _ _ _ _ _ _ _ _ _ _ _ _ _ _ _ _ _ _ _ _ _ _ _ _ _ _ _ _ _ _ _ _ _ _ hBc
  clear hBc
  intro u3 u4 u5 u10 u11 u12 u13 u14 u15 u16 u17 u18 u19 u20 u21 u22 u23 u24 u25 u26 u27 u28 u29 u30 u31 u32 u33 u34 u35 u36 u37 u38 u39 u40 u41 u42 u43 u44 u45 u46 u47 u48 u49 u50 u51 u52 u53 u54 u55 u56 u57 u58 u59 u60 u61 u62 u63 u64 u65 u66 u67 u68 u69 u70 u71 u72 u73 u74 u75 u76 u77 u78 u79 u80 u81 u82 u83 u84 u85 u86 u87 u88 u89 u90 u91 u92 u93 u94 u95 u96 u97 u98 u99 u100 u101 u102 u103 u104 u105 u106 u107 u108 u109 u110 u111 u112 u113 u114 u115 u116 u117 u118 u119 u120 u121 u122 w1 hBc
  refine hK _ _ ?_
  clear hK
  clear HX
  go_wp2_with (go_at_call 7; refine (hwk _).mono ?_; rintro e wn ⟨rfl, hBn⟩; replace hBc := hBc.trans (hBn.mono hBc.size); clear hBn)
  go_ret
  exact ⟨rfl, hBc⟩
end Go.Proofs.Ytadmpobnpnbgoab
