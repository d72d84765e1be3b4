/- The walk of NameLies. -/
import Derived.Test.YtadmpobnpnbgoabNCommon
import Derived.Test.YtadmpobnpnbgoabNLiesPlain
namespace Go.Proofs.Ytadmpobnpnbgoab
open Go.RowKit Go.Shelf

theorem In_is (p q : ByteArray) (hp : p.size ≤ 20000) (hq : q.size ≤ 20000) (v : Bool) (h : inP (bs p) (bs q) = v) (w : World) :
    Calls Try.prog 17 #[.string p, .string q] w fun e w' => e = .returned (.bool v) ∧ Below w.heap.size w w' := by
  rw [← h]; exact In_any p q w (by omega) (by omega)
theorem Path_ok (p : ByteArray) (hp : p.size ≤ 20000) (h : isP (bs p) = true) (w : World) :
    Calls Try.prog 10 #[.string p] w fun e w' => e = .returned (.agg #[.int .i64 0, .int .i64 ((pathSpot (bs p)).2 : Int)]) ∧ Below w.heap.size w w' := by
  have e : (pathSpot (bs p)).1 = 0 := by unfold isP at h; simpa using h
  have := path_any p w (by unfold maxLen; omega)
  unfold spotV at this
  rw [e] at this
  exact this
theorem Path_no (p : ByteArray) (hp : p.size ≤ 20000) (e1 : Nat) (h : e1 = (pathSpot (bs p)).1) (w : World) :
    Calls Try.prog 10 #[.string p] w fun e w' => e = .returned (.agg #[.int .i64 (e1 : Int), .int .i64 ((pathSpot (bs p)).2 : Int)]) ∧ Below w.heap.size w w' := by
  have := path_any p w (by unfold maxLen; omega)
  unfold spotV at this
  rw [← h] at this
  exact this
theorem moveP_len (p q t : List UInt8) : (moveP p q t).1.length ≤ 200 ∨ (moveP p q t).1.length ≤ p.length ∨ (moveP p q t).1.length ≤ t.length := by
  unfold moveP
  split
  · simp
  · cases h : restP p q with
    | none => simp
    | some r =>
      simp only
      cases h2 : joinP t r with
      | none => simp
      | some x =>
        simp only
        have hr := restP_len _ _ _ h
        unfold joinP at h2
        split at h2
        · injection h2 with h2; rw [← h2]; omega
        · split at h2
          · injection h2 with h2; rw [← h2]; omega
          · split at h2
            · cases h2
            · injection h2 with h2
              rename_i h3
              rw [← h2, List.length_append, List.length_cons]; omega

theorem Hid.mk' {p : Prop} (h : p) : Hid p := h
theorem str_ne (s t : ByteArray) : (s.toList == t.toList) = decide (s = t) := by
  rw [str_beq]; exact decide_eq_decide.2 ⟨bs_inj, fun e => by rw [e]⟩

set_option maxRecDepth 100000 in
set_option maxHeartbeats 20000000 in
theorem lies_any (a b c : ByteArray) (w : World) (ha : a.size ≤ maxLen) (hb : b.size ≤ maxLen) (hc : c.size ≤ maxLen) :
    Calls Try.prog 5 #[.string a, .string b, .string c] w fun e w' => e = .returned (.bool true) ∧ Below w.heap.size w w' := by
  have hwk := fun w => wakes_any w
  have hca := fun w => cut_any a w ha
  have hcb := fun w => cut_any b w hb
  have hcc := fun w => cut_any c w hc
  have hA := cutT_size a
  have hB := cutT_size b
  have hC := cutT_size c
  generalize cutT a = A at hca hA
  generalize cutT b = B at hcb hB
  generalize cutT c = C at hcc hC
  have hfd := field0
  have hBc : Below w.heap.size w w := Below.refl _ _
  obtain ⟨x, hx⟩ : ∃ x, inP (bs A) (bs B) = x := ⟨_, rfl⟩
  obtain ⟨y, hy⟩ : ∃ y, inP (bs B) (bs C) = y := ⟨_, rfl⟩
  obtain ⟨z, hz⟩ : ∃ z, inP (bs A) (bs C) = z := ⟨_, rfl⟩
  have HX : Hid (inP (bs A) (bs B) = x) := hx
  have HY : Hid (inP (bs B) (bs C) = y) := hy
  have HZ : Hid (inP (bs A) (bs C) = z) := hz
  have IX := In_is A B (by omega) (by omega) x hx
  have IY := In_is B C (by omega) (by omega) y hy
  have IZ := In_is A C (by omega) (by omega) z hz
  clear hx hy hz ha hb hc
  go_enter Try.func5, Try.ntmps5
  refine wp_seq_k fun K hK => ?_
  suffices hK' : ∀ (u3 u4 u5 u7 u8 u9 u10 u11 u12 u13 u14 u15 u16 u17 u18 u19 u20 u21 u22 u23 u24 u25 u26 u27 u28 u29 u30 u31 u32 u33 u34 u35 u36 u37 u38 u39 u40 u41 u42 u43 u44 u45 u46 u47 u48 u49 u50 u51 u52 u53 u54 u55 u56 u57 u58 u59 u60 u61 u62 u63 u64 u65 u66 u67 u68 u69 u70 u71 u72 u73 u74 u75 u76 u77 u78 u79 u80 u81 u82 u83 u84 u85 u86 u87 u88 u89 u90 u91 u92 u93 u94 u95 u96 u97 u98 u99 u100 u101 u102 u103 u104 u105 u106 u107 u108 u109 u110 u111 u112 u113 u114 u115 u116 u117 u118 u119 u120 u121 u122 u123 u124 u125 u126 u127 u128 u129 u130 u131 u132 u133 u134 u135 u136 u137 u138 u139 u140 u141 u142 u143 u144 u145 u146 u147 u148 u149 u150 u151 u152 u153 u154 u155 u156 : Value) (w1 : World), Below w.heap.size w w1 → K { tmps := #[.string a, .string b, .string c, u3, u4, u5, .bool false, u7, u8, u9, u10, u11, u12, u13, u14, u15, u16, u17, u18, u19, u20, u21, u22, u23, u24, u25, u26, u27, u28, u29, u30, u31, u32, u33, u34, u35, u36, u37, u38, u39, u40, u41, u42, u43, u44, u45, u46, u47, u48, u49, u50, u51, u52, u53, u54, u55, u56, u57, u58, u59, u60, u61, u62, u63, u64, u65, u66, u67, u68, u69, u70, u71, u72, u73, u74, u75, u76, u77, u78, u79, u80, u81, u82, u83, u84, u85, u86, u87, u88, u89, u90, u91, u92, u93, u94, u95, u96, u97, u98, u99, u100, u101, u102, u103, u104, u105, u106, u107, u108, u109, u110, u111, u112, u113, u114, u115, u116, u117, u118, u119, u120, u121, u122, u123, u124, u125, u126, u127, u128, u129, u130, u131, u132, u133, u134, u135, u136, u137, u138, u139, u140, u141, u142, u143, u144, u145, u146, u147, u148, u149, u150, u151, u152, u153, u154, u155, u156], defers := [] } w1 by
    have HK := Hid.mk' hK'
    clear hK hK'
    go_wp2
    exact HK.out _ _ _ _ _ _ _ _ _ _ _ _ _ _ _ _ _ _ _ _ _ _ _ _ _ _ _ _ _ _ _ _ _ _ _ _ _ _ _ _ _ _ _ _ _ _ _ _ _ _ _ _ _ _ _ _ _ _ _ _ _ _ _ _ _ _ _ _ _ _ _ _ _ _ _ _ _ _ _ _ _ _ _ _ _ _ _ _ _ _ _ _ _ _ _ _ _ _ _ _ _ _ _ _ _ _ _ _ _ _ _ _ _ _ _ _ _ _ _ _ _ _ _ _ _ _ _ _ _ _ _ _ _ _ _ _ _ _ _ _ _ _ _ _ _ _ _ _ _ _ _ _ _ _ hBc
  clear hBc
  intro u3 u4 u5 u7 u8 u9 u10 u11 u12 u13 u14 u15 u16 u17 u18 u19 u20 u21 u22 u23 u24 u25 u26 u27 u28 u29 u30 u31 u32 u33 u34 u35 u36 u37 u38 u39 u40 u41 u42 u43 u44 u45 u46 u47 u48 u49 u50 u51 u52 u53 u54 u55 u56 u57 u58 u59 u60 u61 u62 u63 u64 u65 u66 u67 u68 u69 u70 u71 u72 u73 u74 u75 u76 u77 u78 u79 u80 u81 u82 u83 u84 u85 u86 u87 u88 u89 u90 u91 u92 u93 u94 u95 u96 u97 u98 u99 u100 u101 u102 u103 u104 u105 u106 u107 u108 u109 u110 u111 u112 u113 u114 u115 u116 u117 u118 u119 u120 u121 u122 u123 u124 u125 u126 u127 u128 u129 u130 u131 u132 u133 u134 u135 u136 u137 u138 u139 u140 u141 u142 u143 u144 u145 u146 u147 u148 u149 u150 u151 u152 u153 u154 u155 u156 w1 hBc
  refine hK _ _ ?_
  clear hK
  refine wp_seq_k fun K hK => ?_
  suffices hK' : ∀ (u3 u4 u5 u7 u8 u9 u10 u11 u12 u13 u14 u15 u16 u17 u18 u19 u20 u21 u22 u23 u24 u25 u26 u27 u28 u29 u30 u31 u32 u33 u34 u35 u36 u37 u38 u39 u40 u41 u42 u43 u44 u45 u46 u47 u48 u49 u50 u51 u52 u53 u54 u55 u56 u57 u58 u59 u60 u61 u62 u63 u64 u65 u66 u67 u68 u69 u70 u71 u72 u73 u74 u75 u76 u77 u78 u79 u80 u81 u82 u83 u84 u85 u86 u87 u88 u89 u90 u91 u92 u93 u94 u95 u96 u97 u98 u99 u100 u101 u102 u103 u104 u105 u106 u107 u108 u109 u110 u111 u112 u113 u114 u115 u116 u117 u118 u119 u120 u121 u122 u123 u124 u125 u126 u127 u128 u129 u130 u131 u132 u133 u134 u135 u136 u137 u138 u139 u140 u141 u142 u143 u144 u145 u146 u147 u148 u149 u150 u151 u152 u153 u154 u155 u156 : Value) (w1 : World), Below w.heap.size w w1 → K { tmps := #[.string a, .string b, .string c, u3, u4, u5, .bool false, u7, u8, u9, u10, u11, u12, u13, u14, u15, u16, u17, u18, u19, u20, u21, u22, u23, u24, u25, u26, u27, u28, u29, u30, u31, u32, u33, u34, u35, u36, u37, u38, u39, u40, u41, u42, u43, u44, u45, u46, u47, u48, u49, u50, u51, u52, u53, u54, u55, u56, u57, u58, u59, u60, u61, u62, u63, u64, u65, u66, u67, u68, u69, u70, u71, u72, u73, u74, u75, u76, u77, u78, u79, u80, u81, u82, u83, u84, u85, u86, u87, u88, u89, u90, u91, u92, u93, u94, u95, u96, u97, u98, u99, u100, u101, u102, u103, u104, u105, u106, u107, u108, u109, u110, u111, u112, u113, u114, u115, u116, u117, u118, u119, u120, u121, u122, u123, u124, u125, u126, u127, u128, u129, u130, u131, u132, u133, u134, u135, u136, u137, u138, u139, u140, u141, u142, u143, u144, u145, u146, u147, u148, u149, u150, u151, u152, u153, u154, u155, u156], defers := [] } w1 by
    have HK := Hid.mk' hK'
    clear hK hK'
    go_wp2_with (go_at_call 7; refine (hwk _).mono ?_; clear hwk; rintro e wn ⟨rfl, hBn⟩; replace hBc := hBc.trans (hBn.mono hBc.size); clear hBn)
    exact HK.out _ _ _ _ _ _ _ _ _ _ _ _ _ _ _ _ _ _ _ _ _ _ _ _ _ _ _ _ _ _ _ _ _ _ _ _ _ _ _ _ _ _ _ _ _ _ _ _ _ _ _ _ _ _ _ _ _ _ _ _ _ _ _ _ _ _ _ _ _ _ _ _ _ _ _ _ _ _ _ _ _ _ _ _ _ _ _ _ _ _ _ _ _ _ _ _ _ _ _ _ _ _ _ _ _ _ _ _ _ _ _ _ _ _ _ _ _ _ _ _ _ _ _ _ _ _ _ _ _ _ _ _ _ _ _ _ _ _ _ _ _ _ _ _ _ _ _ _ _ _ _ _ _ _ hBc
  clear hBc
  intro u3 u4 u5 u7 u8 u9 u10 u11 u12 u13 u14 u15 u16 u17 u18 u19 u20 u21 u22 u23 u24 u25 u26 u27 u28 u29 u30 u31 u32 u33 u34 u35 u36 u37 u38 u39 u40 u41 u42 u43 u44 u45 u46 u47 u48 u49 u50 u51 u52 u53 u54 u55 u56 u57 u58 u59 u60 u61 u62 u63 u64 u65 u66 u67 u68 u69 u70 u71 u72 u73 u74 u75 u76 u77 u78 u79 u80 u81 u82 u83 u84 u85 u86 u87 u88 u89 u90 u91 u92 u93 u94 u95 u96 u97 u98 u99 u100 u101 u102 u103 u104 u105 u106 u107 u108 u109 u110 u111 u112 u113 u114 u115 u116 u117 u118 u119 u120 u121 u122 u123 u124 u125 u126 u127 u128 u129 u130 u131 u132 u133 u134 u135 u136 u137 u138 u139 u140 u141 u142 u143 u144 u145 u146 u147 u148 u149 u150 u151 u152 u153 u154 u155 u156 w1 hBc
  refine hK _ _ ?_
  clear hK
  refine wp_seq_k fun K hK => ?_
  suffices hK' : ∀ (u3 u4 u5 u7 u8 u9 u10 u11 u12 u13 u14 u15 u16 u17 u18 u19 u20 u21 u22 u23 u24 u25 u26 u27 u28 u29 u30 u31 u32 u33 u34 u35 u36 u37 u38 u39 u40 u41 u42 u43 u44 u45 u46 u47 u48 u49 u50 u51 u52 u53 u54 u55 u56 u57 u58 u59 u60 u61 u62 u63 u64 u65 u66 u67 u68 u69 u70 u71 u72 u73 u74 u75 u76 u77 u78 u79 u80 u81 u82 u83 u84 u85 u86 u87 u88 u89 u90 u91 u92 u93 u94 u95 u96 u97 u98 u99 u100 u101 u102 u103 u104 u105 u106 u107 u108 u109 u110 u111 u112 u113 u114 u115 u116 u117 u118 u119 u120 u121 u122 u123 u124 u125 u126 u127 u128 u129 u130 u131 u132 u133 u134 u135 u136 u137 u138 u139 u140 u141 u142 u143 u144 u145 u146 u147 u148 u149 u150 u151 u152 u153 u154 u155 u156 : Value) (w1 : World), Below w.heap.size w w1 → K { tmps := #[.string A, .string B, .string C, u3, u4, u5, .bool false, u7, u8, u9, u10, u11, u12, u13, u14, u15, u16, u17, u18, u19, u20, u21, u22, u23, u24, u25, u26, u27, u28, u29, u30, u31, u32, u33, u34, u35, u36, u37, u38, u39, u40, u41, u42, u43, u44, u45, u46, u47, u48, u49, u50, u51, u52, u53, u54, u55, u56, u57, u58, u59, u60, u61, u62, u63, u64, u65, u66, u67, u68, u69, u70, u71, u72, u73, u74, u75, u76, u77, u78, u79, u80, u81, u82, u83, u84, u85, u86, u87, u88, u89, u90, u91, u92, u93, u94, u95, u96, u97, u98, u99, u100, u101, u102, u103, u104, u105, u106, u107, u108, u109, u110, u111, u112, u113, u114, u115, u116, u117, u118, u119, u120, u121, u122, u123, u124, u125, u126, u127, u128, u129, u130, u131, u132, u133, u134, u135, u136, u137, u138, u139, u140, u141, u142, u143, u144, u145, u146, u147, u148, u149, u150, u151, u152, u153, u154, u155, u156], defers := [] } w1 by
    have HK := Hid.mk' hK'
    clear hK hK'
    go_wp2_with first
      | (go_at_call 8; refine (hca _).mono ?_; clear hca; rintro e wn ⟨rfl, rfl⟩)
      | (go_at_call 8; refine (hcb _).mono ?_; clear hcb; rintro e wn ⟨rfl, rfl⟩)
      | (go_at_call 8; refine (hcc _).mono ?_; clear hcc; rintro e wn ⟨rfl, rfl⟩)
    exact HK.out _ _ _ _ _ _ _ _ _ _ _ _ _ _ _ _ _ _ _ _ _ _ _ _ _ _ _ _ _ _ _ _ _ _ _ _ _ _ _ _ _ _ _ _ _ _ _ _ _ _ _ _ _ _ _ _ _ _ _ _ _ _ _ _ _ _ _ _ _ _ _ _ _ _ _ _ _ _ _ _ _ _ _ _ _ _ _ _ _ _ _ _ _ _ _ _ _ _ _ _ _ _ _ _ _ _ _ _ _ _ _ _ _ _ _ _ _ _ _ _ _ _ _ _ _ _ _ _ _ _ _ _ _ _ _ _ _ _ _ _ _ _ _ _ _ _ _ _ _ _ _ _ _ _ hBc
  clear hBc
  intro u3 u4 u5 u7 u8 u9 u10 u11 u12 u13 u14 u15 u16 u17 u18 u19 u20 u21 u22 u23 u24 u25 u26 u27 u28 u29 u30 u31 u32 u33 u34 u35 u36 u37 u38 u39 u40 u41 u42 u43 u44 u45 u46 u47 u48 u49 u50 u51 u52 u53 u54 u55 u56 u57 u58 u59 u60 u61 u62 u63 u64 u65 u66 u67 u68 u69 u70 u71 u72 u73 u74 u75 u76 u77 u78 u79 u80 u81 u82 u83 u84 u85 u86 u87 u88 u89 u90 u91 u92 u93 u94 u95 u96 u97 u98 u99 u100 u101 u102 u103 u104 u105 u106 u107 u108 u109 u110 u111 u112 u113 u114 u115 u116 u117 u118 u119 u120 u121 u122 u123 u124 u125 u126 u127 u128 u129 u130 u131 u132 u133 u134 u135 u136 u137 u138 u139 u140 u141 u142 u143 u144 u145 u146 u147 u148 u149 u150 u151 u152 u153 u154 u155 u156 w1 hBc
  refine hK _ _ ?_
  clear hK
  clear hca hcb hcc
  refine wp_seq_k fun K hK => ?_
  suffices hK' : ∀ (u3 u4 u5 u7 u8 u9 u10 u11 u12 u13 u14 u15 u16 u17 u18 u19 u20 u21 u22 u23 u24 u25 u26 u27 u28 u29 u30 u31 u32 u33 u34 u35 u36 u37 u38 u39 u40 u41 u42 u43 u44 u45 u46 u47 u48 u49 u50 u51 u52 u53 u54 u55 u56 u57 u58 u59 u60 u61 u62 u63 u64 u65 u66 u67 u68 u69 u70 u71 u72 u73 u74 u75 u76 u77 u78 u79 u80 u81 u82 u83 u84 u85 u86 u87 u88 u89 u90 u91 u92 u93 u94 u95 u96 u97 u98 u99 u100 u101 u102 u103 u104 u105 u106 u107 u108 u109 u110 u111 u112 u113 u114 u115 u116 u117 u118 u119 u120 u121 u122 u123 u124 u125 u126 u127 u128 u129 u130 u131 u132 u133 u134 u135 u136 u137 u138 u139 u140 u141 u142 u143 u144 u145 u146 u147 u148 u149 u150 u151 u152 u153 u154 u155 u156 : Value) (w1 : World), Below w.heap.size w w1 → K { tmps := #[.string A, .string B, .string C, u3, u4, u5, .bool false, u7, u8, u9, u10, u11, u12, u13, u14, u15, u16, u17, u18, u19, u20, u21, u22, u23, u24, u25, u26, u27, u28, u29, u30, u31, u32, u33, u34, u35, u36, u37, u38, u39, u40, u41, u42, u43, u44, u45, u46, u47, u48, u49, u50, u51, u52, u53, u54, u55, u56, u57, u58, u59, u60, u61, u62, u63, u64, u65, u66, u67, u68, u69, u70, u71, u72, u73, u74, u75, u76, u77, u78, u79, u80, u81, u82, u83, u84, u85, u86, u87, u88, u89, u90, u91, u92, u93, u94, u95, u96, u97, u98, u99, u100, u101, u102, u103, u104, u105, u106, u107, u108, u109, u110, u111, u112, u113, u114, u115, u116, u117, u118, u119, u120, u121, u122, u123, u124, u125, u126, u127, u128, u129, u130, u131, u132, u133, u134, u135, u136, u137, u138, u139, u140, u141, u142, u143, u144, u145, u146, u147, u148, u149, u150, u151, u152, u153, u154, u155, u156], defers := [] } w1 by
    have HK := Hid.mk' hK'
    clear hK hK'
    cases hpa : isP (bs A) with
    | true =>
      have h1 := In_is A A (by omega) (by omega) true (inP_self _ hpa).1
      have h2 := In_is A ⟨#[]⟩ (by omega) (by decide) true (inP_self _ hpa).2
      have h0 := Path_ok A (by omega) hpa
      clear hpa HX HY HZ IX IY IZ
      go_wp2_with first
        | (go_at_call 10; refine (h0 _).mono ?_; clear h0; rintro e wn ⟨rfl, hBn⟩; replace hBc := hBc.trans (hBn.mono hBc.size); clear hBn)
        | (go_at_call 17; refine (h1 _).mono ?_; clear h1; rintro e wn ⟨rfl, hBn⟩; replace hBc := hBc.trans (hBn.mono hBc.size); clear hBn)
        | (go_at_call 17; refine (h2 _).mono ?_; clear h2; rintro e wn ⟨rfl, hBn⟩; replace hBc := hBc.trans (hBn.mono hBc.size); clear hBn)
      exact HK.out _ _ _ _ _ _ _ _ _ _ _ _ _ _ _ _ _ _ _ _ _ _ _ _ _ _ _ _ _ _ _ _ _ _ _ _ _ _ _ _ _ _ _ _ _ _ _ _ _ _ _ _ _ _ _ _ _ _ _ _ _ _ _ _ _ _ _ _ _ _ _ _ _ _ _ _ _ _ _ _ _ _ _ _ _ _ _ _ _ _ _ _ _ _ _ _ _ _ _ _ _ _ _ _ _ _ _ _ _ _ _ _ _ _ _ _ _ _ _ _ _ _ _ _ _ _ _ _ _ _ _ _ _ _ _ _ _ _ _ _ _ _ _ _ _ _ _ _ _ _ _ _ _ _ hBc
    | false =>
      obtain ⟨e1, he⟩ : ∃ e1, e1 = (pathSpot (bs A)).1 := ⟨_, rfl⟩
      have h0 := Path_no A (by omega) e1 he
      have j1 : ¬ (e1 : Int) = 0 := by have := isP_err _ hpa; rw [← he] at this; omega
      clear hpa HX HY HZ IX IY IZ he
      go_wp2_with (go_at_call 10; refine (h0 _).mono ?_; clear h0; rintro e wn ⟨rfl, hBn⟩; replace hBc := hBc.trans (hBn.mono hBc.size); clear hBn)
      exact HK.out _ _ _ _ _ _ _ _ _ _ _ _ _ _ _ _ _ _ _ _ _ _ _ _ _ _ _ _ _ _ _ _ _ _ _ _ _ _ _ _ _ _ _ _ _ _ _ _ _ _ _ _ _ _ _ _ _ _ _ _ _ _ _ _ _ _ _ _ _ _ _ _ _ _ _ _ _ _ _ _ _ _ _ _ _ _ _ _ _ _ _ _ _ _ _ _ _ _ _ _ _ _ _ _ _ _ _ _ _ _ _ _ _ _ _ _ _ _ _ _ _ _ _ _ _ _ _ _ _ _ _ _ _ _ _ _ _ _ _ _ _ _ _ _ _ _ _ _ _ _ _ _ _ _ hBc
  clear hBc
  intro u3 u4 u5 u7 u8 u9 u10 u11 u12 u13 u14 u15 u16 u17 u18 u19 u20 u21 u22 u23 u24 u25 u26 u27 u28 u29 u30 u31 u32 u33 u34 u35 u36 u37 u38 u39 u40 u41 u42 u43 u44 u45 u46 u47 u48 u49 u50 u51 u52 u53 u54 u55 u56 u57 u58 u59 u60 u61 u62 u63 u64 u65 u66 u67 u68 u69 u70 u71 u72 u73 u74 u75 u76 u77 u78 u79 u80 u81 u82 u83 u84 u85 u86 u87 u88 u89 u90 u91 u92 u93 u94 u95 u96 u97 u98 u99 u100 u101 u102 u103 u104 u105 u106 u107 u108 u109 u110 u111 u112 u113 u114 u115 u116 u117 u118 u119 u120 u121 u122 u123 u124 u125 u126 u127 u128 u129 u130 u131 u132 u133 u134 u135 u136 u137 u138 u139 u140 u141 u142 u143 u144 u145 u146 u147 u148 u149 u150 u151 u152 u153 u154 u155 u156 w1 hBc
  refine hK _ _ ?_
  clear hK
  refine wp_seq_k fun K hK => ?_
  suffices hK' : ∀ (u3 u4 u5 u9 u10 u11 u12 u13 u14 u15 u16 u17 u18 u19 u20 u21 u22 u23 u24 u25 u26 u27 u28 u29 u30 u31 u32 u33 u34 u35 u36 u37 u38 u39 u40 u41 u42 u43 u44 u45 u46 u47 u48 u49 u50 u51 u52 u53 u54 u55 u56 u57 u58 u59 u60 u61 u62 u63 u64 u65 u66 u67 u68 u69 u70 u71 u72 u73 u74 u75 u76 u77 u78 u79 u80 u81 u82 u83 u84 u85 u86 u87 u88 u89 u90 u91 u92 u93 u94 u95 u96 u97 u98 u99 u100 u101 u102 u103 u104 u105 u106 u107 u108 u109 u110 u111 u112 u113 u114 u115 u116 u117 u118 u119 u120 u121 u122 u123 u124 u125 u126 u127 u128 u129 u130 u131 u132 u133 u134 u135 u136 u137 u138 u139 u140 u141 u142 u143 u144 u145 u146 u147 u148 u149 u150 u151 u152 u153 u154 u155 u156 : Value) (w1 : World), Below w.heap.size w w1 → K { tmps := #[.string A, .string B, .string C, u3, u4, u5, .bool false, .bool x, .bool y, u9, u10, u11, u12, u13, u14, u15, u16, u17, u18, u19, u20, u21, u22, u23, u24, u25, u26, u27, u28, u29, u30, u31, u32, u33, u34, u35, u36, u37, u38, u39, u40, u41, u42, u43, u44, u45, u46, u47, u48, u49, u50, u51, u52, u53, u54, u55, u56, u57, u58, u59, u60, u61, u62, u63, u64, u65, u66, u67, u68, u69, u70, u71, u72, u73, u74, u75, u76, u77, u78, u79, u80, u81, u82, u83, u84, u85, u86, u87, u88, u89, u90, u91, u92, u93, u94, u95, u96, u97, u98, u99, u100, u101, u102, u103, u104, u105, u106, u107, u108, u109, u110, u111, u112, u113, u114, u115, u116, u117, u118, u119, u120, u121, u122, u123, u124, u125, u126, u127, u128, u129, u130, u131, u132, u133, u134, u135, u136, u137, u138, u139, u140, u141, u142, u143, u144, u145, u146, u147, u148, u149, u150, u151, u152, u153, u154, u155, u156], defers := [] } w1 by
    have HK := Hid.mk' hK'
    clear hK hK'
    clear HX HY HZ IZ
    go_wp2_with first
      | (go_at_call 17; refine (IX _).mono ?_; clear IX; rintro e wn ⟨rfl, hBn⟩; replace hBc := hBc.trans (hBn.mono hBc.size); clear hBn)
      | (go_at_call 17; refine (IY _).mono ?_; clear IY; rintro e wn ⟨rfl, hBn⟩; replace hBc := hBc.trans (hBn.mono hBc.size); clear hBn)
    exact HK.out _ _ _ _ _ _ _ _ _ _ _ _ _ _ _ _ _ _ _ _ _ _ _ _ _ _ _ _ _ _ _ _ _ _ _ _ _ _ _ _ _ _ _ _ _ _ _ _ _ _ _ _ _ _ _ _ _ _ _ _ _ _ _ _ _ _ _ _ _ _ _ _ _ _ _ _ _ _ _ _ _ _ _ _ _ _ _ _ _ _ _ _ _ _ _ _ _ _ _ _ _ _ _ _ _ _ _ _ _ _ _ _ _ _ _ _ _ _ _ _ _ _ _ _ _ _ _ _ _ _ _ _ _ _ _ _ _ _ _ _ _ _ _ _ _ _ _ _ _ _ _ _ hBc
  clear hBc
  intro u3 u4 u5 u9 u10 u11 u12 u13 u14 u15 u16 u17 u18 u19 u20 u21 u22 u23 u24 u25 u26 u27 u28 u29 u30 u31 u32 u33 u34 u35 u36 u37 u38 u39 u40 u41 u42 u43 u44 u45 u46 u47 u48 u49 u50 u51 u52 u53 u54 u55 u56 u57 u58 u59 u60 u61 u62 u63 u64 u65 u66 u67 u68 u69 u70 u71 u72 u73 u74 u75 u76 u77 u78 u79 u80 u81 u82 u83 u84 u85 u86 u87 u88 u89 u90 u91 u92 u93 u94 u95 u96 u97 u98 u99 u100 u101 u102 u103 u104 u105 u106 u107 u108 u109 u110 u111 u112 u113 u114 u115 u116 u117 u118 u119 u120 u121 u122 u123 u124 u125 u126 u127 u128 u129 u130 u131 u132 u133 u134 u135 u136 u137 u138 u139 u140 u141 u142 u143 u144 u145 u146 u147 u148 u149 u150 u151 u152 u153 u154 u155 u156 w1 hBc
  refine hK _ _ ?_
  clear hK
  refine wp_seq_k fun K hK => ?_
  suffices hK' : ∀ (u3 u4 u5 u9 u10 u11 u12 u13 u14 u15 u16 u17 u18 u19 u20 u21 u22 u23 u24 u25 u26 u27 u28 u29 u30 u31 u32 u33 u34 u35 u36 u37 u38 u39 u40 u41 u42 u43 u44 u45 u46 u47 u48 u49 u50 u51 u52 u53 u54 u55 u56 u57 u58 u59 u60 u61 u62 u63 u64 u65 u66 u67 u68 u69 u70 u71 u72 u73 u74 u75 u76 u77 u78 u79 u80 u81 u82 u83 u84 u85 u86 u87 u88 u89 u90 u91 u92 u93 u94 u95 u96 u97 u98 u99 u100 u101 u102 u103 u104 u105 u106 u107 u108 u109 u110 u111 u112 u113 u114 u115 u116 u117 u118 u119 u120 u121 u122 u123 u124 u125 u126 u127 u128 u129 u130 u131 u132 u133 u134 u135 u136 u137 u138 u139 u140 u141 u142 u143 u144 u145 u146 u147 u148 u149 u150 u151 u152 u153 u154 u155 u156 : Value) (w1 : World), Below w.heap.size w w1 → K { tmps := #[.string A, .string B, .string C, u3, u4, u5, .bool false, .bool x, .bool y, u9, u10, u11, u12, u13, u14, u15, u16, u17, u18, u19, u20, u21, u22, u23, u24, u25, u26, u27, u28, u29, u30, u31, u32, u33, u34, u35, u36, u37, u38, u39, u40, u41, u42, u43, u44, u45, u46, u47, u48, u49, u50, u51, u52, u53, u54, u55, u56, u57, u58, u59, u60, u61, u62, u63, u64, u65, u66, u67, u68, u69, u70, u71, u72, u73, u74, u75, u76, u77, u78, u79, u80, u81, u82, u83, u84, u85, u86, u87, u88, u89, u90, u91, u92, u93, u94, u95, u96, u97, u98, u99, u100, u101, u102, u103, u104, u105, u106, u107, u108, u109, u110, u111, u112, u113, u114, u115, u116, u117, u118, u119, u120, u121, u122, u123, u124, u125, u126, u127, u128, u129, u130, u131, u132, u133, u134, u135, u136, u137, u138, u139, u140, u141, u142, u143, u144, u145, u146, u147, u148, u149, u150, u151, u152, u153, u154, u155, u156], defers := [] } w1 by
    have HK := Hid.mk' hK'
    clear hK hK'
    cases x with
    | false =>
      clear HX HY HZ IX IY IZ
      go_wp2
      exact HK.out _ _ _ _ _ _ _ _ _ _ _ _ _ _ _ _ _ _ _ _ _ _ _ _ _ _ _ _ _ _ _ _ _ _ _ _ _ _ _ _ _ _ _ _ _ _ _ _ _ _ _ _ _ _ _ _ _ _ _ _ _ _ _ _ _ _ _ _ _ _ _ _ _ _ _ _ _ _ _ _ _ _ _ _ _ _ _ _ _ _ _ _ _ _ _ _ _ _ _ _ _ _ _ _ _ _ _ _ _ _ _ _ _ _ _ _ _ _ _ _ _ _ _ _ _ _ _ _ _ _ _ _ _ _ _ _ _ _ _ _ _ _ _ _ _ _ _ _ _ _ _ _ hBc
    | true =>
      cases y with
      | false =>
        clear IZ
        obtain ⟨v, hv⟩ : ∃ v, inP (bs B) (bs A) = v := ⟨_, rfl⟩
        have h2 := In_is B A (by omega) (by omega) v hv
        cases v with
        | false =>
          clear hv HX HY HZ IX IY
          go_wp2_with first
            | (fail)
            | (go_at_call 17; refine (h2 _).mono ?_; clear h2; rintro e wn ⟨rfl, hBn⟩; replace hBc := hBc.trans (hBn.mono hBc.size); clear hBn)
          exact HK.out _ _ _ _ _ _ _ _ _ _ _ _ _ _ _ _ _ _ _ _ _ _ _ _ _ _ _ _ _ _ _ _ _ _ _ _ _ _ _ _ _ _ _ _ _ _ _ _ _ _ _ _ _ _ _ _ _ _ _ _ _ _ _ _ _ _ _ _ _ _ _ _ _ _ _ _ _ _ _ _ _ _ _ _ _ _ _ _ _ _ _ _ _ _ _ _ _ _ _ _ _ _ _ _ _ _ _ _ _ _ _ _ _ _ _ _ _ _ _ _ _ _ _ _ _ _ _ _ _ _ _ _ _ _ _ _ _ _ _ _ _ _ _ _ _ _ _ _ _ _ _ _ hBc
        | true =>
          have he : A = B := bs_inj (inP_anti _ _ HX.out hv)
          subst he
          clear hv HX HY HZ IX IY
          go_wp2_with first
            | (fail)
            | (go_at_call 17; refine (h2 _).mono ?_; clear h2; rintro e wn ⟨rfl, hBn⟩; replace hBc := hBc.trans (hBn.mono hBc.size); clear hBn)
          exact HK.out _ _ _ _ _ _ _ _ _ _ _ _ _ _ _ _ _ _ _ _ _ _ _ _ _ _ _ _ _ _ _ _ _ _ _ _ _ _ _ _ _ _ _ _ _ _ _ _ _ _ _ _ _ _ _ _ _ _ _ _ _ _ _ _ _ _ _ _ _ _ _ _ _ _ _ _ _ _ _ _ _ _ _ _ _ _ _ _ _ _ _ _ _ _ _ _ _ _ _ _ _ _ _ _ _ _ _ _ _ _ _ _ _ _ _ _ _ _ _ _ _ _ _ _ _ _ _ _ _ _ _ _ _ _ _ _ _ _ _ _ _ _ _ _ _ _ _ _ _ _ _ _ hBc
      | true =>
        have hzt : z = true := HZ.out.symm.trans (inP_trans _ _ _ HX.out HY.out)
        subst hzt
        obtain ⟨v, hv⟩ : ∃ v, inP (bs B) (bs A) = v := ⟨_, rfl⟩
        have h2 := In_is B A (by omega) (by omega) v hv
        cases v with
        | false =>
          clear hv HX HY HZ IX IY
          go_wp2_with first
            | (go_at_call 17; refine (IZ _).mono ?_; clear IZ; rintro e wn ⟨rfl, hBn⟩; replace hBc := hBc.trans (hBn.mono hBc.size); clear hBn)
            | (go_at_call 17; refine (h2 _).mono ?_; clear h2; rintro e wn ⟨rfl, hBn⟩; replace hBc := hBc.trans (hBn.mono hBc.size); clear hBn)
          exact HK.out _ _ _ _ _ _ _ _ _ _ _ _ _ _ _ _ _ _ _ _ _ _ _ _ _ _ _ _ _ _ _ _ _ _ _ _ _ _ _ _ _ _ _ _ _ _ _ _ _ _ _ _ _ _ _ _ _ _ _ _ _ _ _ _ _ _ _ _ _ _ _ _ _ _ _ _ _ _ _ _ _ _ _ _ _ _ _ _ _ _ _ _ _ _ _ _ _ _ _ _ _ _ _ _ _ _ _ _ _ _ _ _ _ _ _ _ _ _ _ _ _ _ _ _ _ _ _ _ _ _ _ _ _ _ _ _ _ _ _ _ _ _ _ _ _ _ _ _ _ _ _ _ hBc
        | true =>
          have he : A = B := bs_inj (inP_anti _ _ HX.out hv)
          subst he
          clear hv HX HY HZ IX IY
          go_wp2_with first
            | (go_at_call 17; refine (IZ _).mono ?_; clear IZ; rintro e wn ⟨rfl, hBn⟩; replace hBc := hBc.trans (hBn.mono hBc.size); clear hBn)
            | (go_at_call 17; refine (h2 _).mono ?_; clear h2; rintro e wn ⟨rfl, hBn⟩; replace hBc := hBc.trans (hBn.mono hBc.size); clear hBn)
          exact HK.out _ _ _ _ _ _ _ _ _ _ _ _ _ _ _ _ _ _ _ _ _ _ _ _ _ _ _ _ _ _ _ _ _ _ _ _ _ _ _ _ _ _ _ _ _ _ _ _ _ _ _ _ _ _ _ _ _ _ _ _ _ _ _ _ _ _ _ _ _ _ _ _ _ _ _ _ _ _ _ _ _ _ _ _ _ _ _ _ _ _ _ _ _ _ _ _ _ _ _ _ _ _ _ _ _ _ _ _ _ _ _ _ _ _ _ _ _ _ _ _ _ _ _ _ _ _ _ _ _ _ _ _ _ _ _ _ _ _ _ _ _ _ _ _ _ _ _ _ _ _ _ _ hBc
  clear hBc
  intro u3 u4 u5 u9 u10 u11 u12 u13 u14 u15 u16 u17 u18 u19 u20 u21 u22 u23 u24 u25 u26 u27 u28 u29 u30 u31 u32 u33 u34 u35 u36 u37 u38 u39 u40 u41 u42 u43 u44 u45 u46 u47 u48 u49 u50 u51 u52 u53 u54 u55 u56 u57 u58 u59 u60 u61 u62 u63 u64 u65 u66 u67 u68 u69 u70 u71 u72 u73 u74 u75 u76 u77 u78 u79 u80 u81 u82 u83 u84 u85 u86 u87 u88 u89 u90 u91 u92 u93 u94 u95 u96 u97 u98 u99 u100 u101 u102 u103 u104 u105 u106 u107 u108 u109 u110 u111 u112 u113 u114 u115 u116 u117 u118 u119 u120 u121 u122 u123 u124 u125 u126 u127 u128 u129 u130 u131 u132 u133 u134 u135 u136 u137 u138 u139 u140 u141 u142 u143 u144 u145 u146 u147 u148 u149 u150 u151 u152 u153 u154 u155 u156 w1 hBc
  refine hK _ _ ?_
  clear hK
  refine wp_seq_k fun K hK => ?_
  suffices hK' : ∀ (u3 u4 u5 u9 u10 u11 u12 u13 u14 u15 u16 u17 u18 u19 u20 u21 u22 u23 u24 u25 u26 u27 u28 u29 u30 u31 u32 u33 u34 u35 u36 u37 u38 u39 u40 u41 u42 u43 u44 u45 u46 u47 u48 u49 u50 u51 u52 u53 u54 u55 u56 u57 u58 u59 u60 u61 u62 u63 u64 u65 u66 u67 u68 u69 u70 u71 u72 u73 u74 u75 u76 u77 u78 u79 u80 u81 u82 u83 u84 u85 u86 u87 u88 u89 u90 u91 u92 u93 u94 u95 u96 u97 u98 u99 u100 u101 u102 u103 u104 u105 u106 u107 u108 u109 u110 u111 u112 u113 u114 u115 u116 u117 u118 u119 u120 u121 u122 u123 u124 u125 u126 u127 u128 u129 u130 u131 u132 u133 u134 u135 u136 u137 u138 u139 u140 u141 u142 u143 u144 u145 u146 u147 u148 u149 u150 u151 u152 u153 u154 u155 u156 : Value) (w1 : World), Below w.heap.size w w1 → K { tmps := #[.string A, .string B, .string C, u3, u4, u5, .bool false, .bool x, .bool y, u9, u10, u11, u12, u13, u14, u15, u16, u17, u18, u19, u20, u21, u22, u23, u24, u25, u26, u27, u28, u29, u30, u31, u32, u33, u34, u35, u36, u37, u38, u39, u40, u41, u42, u43, u44, u45, u46, u47, u48, u49, u50, u51, u52, u53, u54, u55, u56, u57, u58, u59, u60, u61, u62, u63, u64, u65, u66, u67, u68, u69, u70, u71, u72, u73, u74, u75, u76, u77, u78, u79, u80, u81, u82, u83, u84, u85, u86, u87, u88, u89, u90, u91, u92, u93, u94, u95, u96, u97, u98, u99, u100, u101, u102, u103, u104, u105, u106, u107, u108, u109, u110, u111, u112, u113, u114, u115, u116, u117, u118, u119, u120, u121, u122, u123, u124, u125, u126, u127, u128, u129, u130, u131, u132, u133, u134, u135, u136, u137, u138, u139, u140, u141, u142, u143, u144, u145, u146, u147, u148, u149, u150, u151, u152, u153, u154, u155, u156], defers := [] } w1 by
    have HK := Hid.mk' hK'
    clear hK hK'
    cases x with
    | false =>
      clear HX HY HZ IX IY IZ
      go_wp2
      exact HK.out _ _ _ _ _ _ _ _ _ _ _ _ _ _ _ _ _ _ _ _ _ _ _ _ _ _ _ _ _ _ _ _ _ _ _ _ _ _ _ _ _ _ _ _ _ _ _ _ _ _ _ _ _ _ _ _ _ _ _ _ _ _ _ _ _ _ _ _ _ _ _ _ _ _ _ _ _ _ _ _ _ _ _ _ _ _ _ _ _ _ _ _ _ _ _ _ _ _ _ _ _ _ _ _ _ _ _ _ _ _ _ _ _ _ _ _ _ _ _ _ _ _ _ _ _ _ _ _ _ _ _ _ _ _ _ _ _ _ _ _ _ _ _ _ _ _ _ _ _ _ _ _ hBc
    | true =>
      cases z with
      | false =>
        clear HX HY HZ IX IY
        go_wp2_with (go_at_call 17; refine (IZ _).mono ?_; clear IZ; rintro e wn ⟨rfl, hBn⟩; replace hBc := hBc.trans (hBn.mono hBc.size); clear hBn)
        exact HK.out _ _ _ _ _ _ _ _ _ _ _ _ _ _ _ _ _ _ _ _ _ _ _ _ _ _ _ _ _ _ _ _ _ _ _ _ _ _ _ _ _ _ _ _ _ _ _ _ _ _ _ _ _ _ _ _ _ _ _ _ _ _ _ _ _ _ _ _ _ _ _ _ _ _ _ _ _ _ _ _ _ _ _ _ _ _ _ _ _ _ _ _ _ _ _ _ _ _ _ _ _ _ _ _ _ _ _ _ _ _ _ _ _ _ _ _ _ _ _ _ _ _ _ _ _ _ _ _ _ _ _ _ _ _ _ _ _ _ _ _ _ _ _ _ _ _ _ _ _ _ _ _ hBc
      | true =>
        cases y with
        | true =>
          clear HX HY HZ IX
          go_wp2_with first
            | (go_at_call 17; refine (IZ _).mono ?_; clear IZ; rintro e wn ⟨rfl, hBn⟩; replace hBc := hBc.trans (hBn.mono hBc.size); clear hBn)
            | (go_at_call 17; refine (IY _).mono ?_; clear IY; rintro e wn ⟨rfl, hBn⟩; replace hBc := hBc.trans (hBn.mono hBc.size); clear hBn)
          exact HK.out _ _ _ _ _ _ _ _ _ _ _ _ _ _ _ _ _ _ _ _ _ _ _ _ _ _ _ _ _ _ _ _ _ _ _ _ _ _ _ _ _ _ _ _ _ _ _ _ _ _ _ _ _ _ _ _ _ _ _ _ _ _ _ _ _ _ _ _ _ _ _ _ _ _ _ _ _ _ _ _ _ _ _ _ _ _ _ _ _ _ _ _ _ _ _ _ _ _ _ _ _ _ _ _ _ _ _ _ _ _ _ _ _ _ _ _ _ _ _ _ _ _ _ _ _ _ _ _ _ _ _ _ _ _ _ _ _ _ _ _ _ _ _ _ _ _ _ _ _ _ _ _ hBc
        | false =>
          have hcb : inP (bs C) (bs B) = true := by
            rcases inP_chain _ _ _ HX.out HZ.out with h | h
            · rw [HY.out] at h; cases h
            · exact h
          have h3 := In_is C B (by omega) (by omega) true hcb
          clear HX HY HZ IX hcb
          go_wp2_with first
            | (go_at_call 17; refine (IZ _).mono ?_; clear IZ; rintro e wn ⟨rfl, hBn⟩; replace hBc := hBc.trans (hBn.mono hBc.size); clear hBn)
            | (go_at_call 17; refine (IY _).mono ?_; clear IY; rintro e wn ⟨rfl, hBn⟩; replace hBc := hBc.trans (hBn.mono hBc.size); clear hBn)
            | (go_at_call 17; refine (h3 _).mono ?_; clear h3; rintro e wn ⟨rfl, hBn⟩; replace hBc := hBc.trans (hBn.mono hBc.size); clear hBn)
          exact HK.out _ _ _ _ _ _ _ _ _ _ _ _ _ _ _ _ _ _ _ _ _ _ _ _ _ _ _ _ _ _ _ _ _ _ _ _ _ _ _ _ _ _ _ _ _ _ _ _ _ _ _ _ _ _ _ _ _ _ _ _ _ _ _ _ _ _ _ _ _ _ _ _ _ _ _ _ _ _ _ _ _ _ _ _ _ _ _ _ _ _ _ _ _ _ _ _ _ _ _ _ _ _ _ _ _ _ _ _ _ _ _ _ _ _ _ _ _ _ _ _ _ _ _ _ _ _ _ _ _ _ _ _ _ _ _ _ _ _ _ _ _ _ _ _ _ _ _ _ _ _ _ _ hBc
  clear hBc
  intro u3 u4 u5 u9 u10 u11 u12 u13 u14 u15 u16 u17 u18 u19 u20 u21 u22 u23 u24 u25 u26 u27 u28 u29 u30 u31 u32 u33 u34 u35 u36 u37 u38 u39 u40 u41 u42 u43 u44 u45 u46 u47 u48 u49 u50 u51 u52 u53 u54 u55 u56 u57 u58 u59 u60 u61 u62 u63 u64 u65 u66 u67 u68 u69 u70 u71 u72 u73 u74 u75 u76 u77 u78 u79 u80 u81 u82 u83 u84 u85 u86 u87 u88 u89 u90 u91 u92 u93 u94 u95 u96 u97 u98 u99 u100 u101 u102 u103 u104 u105 u106 u107 u108 u109 u110 u111 u112 u113 u114 u115 u116 u117 u118 u119 u120 u121 u122 u123 u124 u125 u126 u127 u128 u129 u130 u131 u132 u133 u134 u135 u136 u137 u138 u139 u140 u141 u142 u143 u144 u145 u146 u147 u148 u149 u150 u151 u152 u153 u154 u155 u156 w1 hBc
  refine hK _ _ ?_
  clear hK
  refine wp_seq_k fun K hK => ?_
  suffices hK' : ∀ (u3 u4 u5 u9 u10 u11 u12 u13 u14 u15 u16 u17 u18 u19 u20 u21 u22 u23 u24 u25 u26 u27 u28 u29 u30 u31 u32 u33 u34 u35 u36 u37 u38 u39 u40 u41 u42 u43 u44 u45 u46 u47 u48 u49 u50 u51 u52 u53 u54 u55 u56 u57 u58 u59 u60 u61 u62 u63 u64 u65 u66 u67 u68 u69 u70 u71 u72 u73 u74 u75 u76 u77 u78 u79 u80 u81 u82 u83 u84 u85 u86 u87 u88 u89 u90 u91 u92 u93 u94 u95 u96 u97 u98 u99 u100 u101 u102 u103 u104 u105 u106 u107 u108 u109 u110 u111 u112 u113 u114 u115 u116 u117 u118 u119 u120 u121 u122 u123 u124 u125 u126 u127 u128 u129 u130 u131 u132 u133 u134 u135 u136 u137 u138 u139 u140 u141 u142 u143 u144 u145 u146 u147 u148 u149 u150 u151 u152 u153 u154 u155 u156 : Value) (w1 : World), Below w.heap.size w w1 → K { tmps := #[.string A, .string B, .string C, u3, u4, u5, .bool false, .bool x, .bool y, u9, u10, u11, u12, u13, u14, u15, u16, u17, u18, u19, u20, u21, u22, u23, u24, u25, u26, u27, u28, u29, u30, u31, u32, u33, u34, u35, u36, u37, u38, u39, u40, u41, u42, u43, u44, u45, u46, u47, u48, u49, u50, u51, u52, u53, u54, u55, u56, u57, u58, u59, u60, u61, u62, u63, u64, u65, u66, u67, u68, u69, u70, u71, u72, u73, u74, u75, u76, u77, u78, u79, u80, u81, u82, u83, u84, u85, u86, u87, u88, u89, u90, u91, u92, u93, u94, u95, u96, u97, u98, u99, u100, u101, u102, u103, u104, u105, u106, u107, u108, u109, u110, u111, u112, u113, u114, u115, u116, u117, u118, u119, u120, u121, u122, u123, u124, u125, u126, u127, u128, u129, u130, u131, u132, u133, u134, u135, u136, u137, u138, u139, u140, u141, u142, u143, u144, u145, u146, u147, u148, u149, u150, u151, u152, u153, u154, u155, u156], defers := [] } w1 by
    have HK := Hid.mk' hK'
    clear hK hK'
    have hml := moveP_len (bs A) (bs B) (bs C)
    rw [bs_len, bs_len] at hml
    have hm := fun w => Move_any A B C w (by omega) (by omega) (by omega)
    obtain ⟨S, hS⟩ : ∃ S, mk (moveP (bs A) (bs B) (bs C)).1 = S := ⟨_, rfl⟩
    obtain ⟨m, he⟩ : ∃ m, (moveP (bs A) (bs B) (bs C)).2 = m := ⟨_, rfl⟩
    have hSz : S.size ≤ 4096 := by rw [← hS, ← bs_len, bs_mk]; omega
    have hSb : bs S = (moveP (bs A) (bs B) (bs C)).1 := by rw [← hS, bs_mk]
    rw [hS, he] at hm
    by_cases h0 : m = 0
    · subst h0
      obtain ⟨q1, q2, q3⟩ := moveP_back (bs A) (bs B) (bs C) (bs S) (by rw [hSb, ← he])
      obtain rfl : x = true := HX.out.symm.trans q2
      have hm2 := fun w => Move_any S C B w (by omega) (by omega) (by omega)
      rw [q1] at hm2
      simp only [mk_bs] at hm2
      have h3 := In_is S C (by omega) (by omega) true q3
      clear HX HY HZ IX IY IZ hS he hSb q1 q2 q3 hml
      go_wp2_with first
        | (go_at_call 19; refine (hm _).mono ?_; clear hm; rintro e wn ⟨rfl, hBn⟩; replace hBc := hBc.trans (hBn.mono hBc.size); clear hBn)
        | (go_at_call 19; refine (hm2 _).mono ?_; clear hm2; rintro e wn ⟨rfl, hBn⟩; replace hBc := hBc.trans (hBn.mono hBc.size); clear hBn)
        | (go_at_call 17; refine (h3 _).mono ?_; clear h3; rintro e wn ⟨rfl, hBn⟩; replace hBc := hBc.trans (hBn.mono hBc.size); clear hBn)
      exact HK.out _ _ _ _ _ _ _ _ _ _ _ _ _ _ _ _ _ _ _ _ _ _ _ _ _ _ _ _ _ _ _ _ _ _ _ _ _ _ _ _ _ _ _ _ _ _ _ _ _ _ _ _ _ _ _ _ _ _ _ _ _ _ _ _ _ _ _ _ _ _ _ _ _ _ _ _ _ _ _ _ _ _ _ _ _ _ _ _ _ _ _ _ _ _ _ _ _ _ _ _ _ _ _ _ _ _ _ _ _ _ _ _ _ _ _ _ _ _ _ _ _ _ _ _ _ _ _ _ _ _ _ _ _ _ _ _ _ _ _ _ _ _ _ _ _ _ _ _ _ _ _ _ hBc
    · have j0 : ¬ (m : Int) = 0 := by omega
      clear HX HY HZ IX IY IZ hS he hSb hml
      go_wp2_with (go_at_call 19; refine (hm _).mono ?_; clear hm; rintro e wn ⟨rfl, hBn⟩; replace hBc := hBc.trans (hBn.mono hBc.size); clear hBn)
      exact HK.out _ _ _ _ _ _ _ _ _ _ _ _ _ _ _ _ _ _ _ _ _ _ _ _ _ _ _ _ _ _ _ _ _ _ _ _ _ _ _ _ _ _ _ _ _ _ _ _ _ _ _ _ _ _ _ _ _ _ _ _ _ _ _ _ _ _ _ _ _ _ _ _ _ _ _ _ _ _ _ _ _ _ _ _ _ _ _ _ _ _ _ _ _ _ _ _ _ _ _ _ _ _ _ _ _ _ _ _ _ _ _ _ _ _ _ _ _ _ _ _ _ _ _ _ _ _ _ _ _ _ _ _ _ _ _ _ _ _ _ _ _ _ _ _ _ _ _ _ _ _ _ _ hBc
  clear hBc
  intro u3 u4 u5 u9 u10 u11 u12 u13 u14 u15 u16 u17 u18 u19 u20 u21 u22 u23 u24 u25 u26 u27 u28 u29 u30 u31 u32 u33 u34 u35 u36 u37 u38 u39 u40 u41 u42 u43 u44 u45 u46 u47 u48 u49 u50 u51 u52 u53 u54 u55 u56 u57 u58 u59 u60 u61 u62 u63 u64 u65 u66 u67 u68 u69 u70 u71 u72 u73 u74 u75 u76 u77 u78 u79 u80 u81 u82 u83 u84 u85 u86 u87 u88 u89 u90 u91 u92 u93 u94 u95 u96 u97 u98 u99 u100 u101 u102 u103 u104 u105 u106 u107 u108 u109 u110 u111 u112 u113 u114 u115 u116 u117 u118 u119 u120 u121 u122 u123 u124 u125 u126 u127 u128 u129 u130 u131 u132 u133 u134 u135 u136 u137 u138 u139 u140 u141 u142 u143 u144 u145 u146 u147 u148 u149 u150 u151 u152 u153 u154 u155 u156 w1 hBc
  refine hK _ _ ?_
  clear hK
  have hcm := fun w => Common_any A B w (by omega) (by omega)
  obtain ⟨M, hM⟩ : ∃ M, mk (comP (bs A) (bs B)) = M := ⟨_, rfl⟩
  have HM : Hid (bs M = comP (bs A) (bs B)) := by show _ = _; rw [← hM, bs_mk]
  have hMz : M.size ≤ 4096 := by
    rw [← bs_len, HM.out]
    unfold comP
    split
    · rename_i h
      have := glue_pre_len _ _ (lcp_left (parts (bs A)) (parts (bs B)))
      rw [glue_parts, bs_len] at this; omega
    · simp
  simp only [hM] at hcm
  clear hM
  refine wp_seq_k fun K hK => ?_
  suffices hK' : ∀ (u3 u4 u5 u9 u10 u11 u12 u14 u15 u16 u17 u18 u19 u20 u21 u22 u23 u24 u25 u26 u27 u28 u29 u30 u31 u32 u33 u34 u35 u36 u37 u38 u39 u40 u41 u42 u43 u44 u45 u46 u47 u48 u49 u50 u51 u52 u53 u54 u55 u56 u57 u58 u59 u60 u61 u62 u63 u64 u65 u66 u67 u68 u69 u70 u71 u72 u73 u74 u75 u76 u77 u78 u79 u80 u81 u82 u83 u84 u85 u86 u87 u88 u89 u90 u91 u92 u93 u94 u95 u96 u97 u98 u99 u100 u101 u102 u103 u104 u105 u106 u107 u108 u109 u110 u111 u112 u113 u114 u115 u116 u117 u118 u119 u120 u121 u122 u123 u124 u125 u126 u127 u128 u129 u130 u131 u132 u133 u134 u135 u136 u137 u138 u139 u140 u141 u142 u143 u144 u145 u146 u147 u148 u149 u150 u151 u152 u153 u154 u155 u156 : Value) (w1 : World), Below w.heap.size w w1 → K { tmps := #[.string A, .string B, .string C, u3, u4, u5, .bool false, .bool x, .bool y, u9, u10, u11, u12, .string M, u14, u15, u16, u17, u18, u19, u20, u21, u22, u23, u24, u25, u26, u27, u28, u29, u30, u31, u32, u33, u34, u35, u36, u37, u38, u39, u40, u41, u42, u43, u44, u45, u46, u47, u48, u49, u50, u51, u52, u53, u54, u55, u56, u57, u58, u59, u60, u61, u62, u63, u64, u65, u66, u67, u68, u69, u70, u71, u72, u73, u74, u75, u76, u77, u78, u79, u80, u81, u82, u83, u84, u85, u86, u87, u88, u89, u90, u91, u92, u93, u94, u95, u96, u97, u98, u99, u100, u101, u102, u103, u104, u105, u106, u107, u108, u109, u110, u111, u112, u113, u114, u115, u116, u117, u118, u119, u120, u121, u122, u123, u124, u125, u126, u127, u128, u129, u130, u131, u132, u133, u134, u135, u136, u137, u138, u139, u140, u141, u142, u143, u144, u145, u146, u147, u148, u149, u150, u151, u152, u153, u154, u155, u156], defers := [] } w1 by
    have HK := Hid.mk' hK'
    clear hK hK'
    clear HX HY HZ IX IY IZ HM
    go_wp2_with (go_at_call 20; refine (hcm _).mono ?_; clear hcm; rintro e wn ⟨rfl, hBn⟩; replace hBc := hBc.trans (hBn.mono hBc.size); clear hBn)
    exact HK.out _ _ _ _ _ _ _ _ _ _ _ _ _ _ _ _ _ _ _ _ _ _ _ _ _ _ _ _ _ _ _ _ _ _ _ _ _ _ _ _ _ _ _ _ _ _ _ _ _ _ _ _ _ _ _ _ _ _ _ _ _ _ _ _ _ _ _ _ _ _ _ _ _ _ _ _ _ _ _ _ _ _ _ _ _ _ _ _ _ _ _ _ _ _ _ _ _ _ _ _ _ _ _ _ _ _ _ _ _ _ _ _ _ _ _ _ _ _ _ _ _ _ _ _ _ _ _ _ _ _ _ _ _ _ _ _ _ _ _ _ _ _ _ _ _ _ _ _ _ _ _ hBc
  clear hBc
  intro u3 u4 u5 u9 u10 u11 u12 u14 u15 u16 u17 u18 u19 u20 u21 u22 u23 u24 u25 u26 u27 u28 u29 u30 u31 u32 u33 u34 u35 u36 u37 u38 u39 u40 u41 u42 u43 u44 u45 u46 u47 u48 u49 u50 u51 u52 u53 u54 u55 u56 u57 u58 u59 u60 u61 u62 u63 u64 u65 u66 u67 u68 u69 u70 u71 u72 u73 u74 u75 u76 u77 u78 u79 u80 u81 u82 u83 u84 u85 u86 u87 u88 u89 u90 u91 u92 u93 u94 u95 u96 u97 u98 u99 u100 u101 u102 u103 u104 u105 u106 u107 u108 u109 u110 u111 u112 u113 u114 u115 u116 u117 u118 u119 u120 u121 u122 u123 u124 u125 u126 u127 u128 u129 u130 u131 u132 u133 u134 u135 u136 u137 u138 u139 u140 u141 u142 u143 u144 u145 u146 u147 u148 u149 u150 u151 u152 u153 u154 u155 u156 w1 hBc
  refine hK _ _ ?_
  clear hK
  refine wp_seq_k fun K hK => ?_
  suffices hK' : ∀ (u3 u4 u5 u9 u10 u11 u12 u14 u15 u16 u17 u18 u19 u20 u21 u22 u23 u24 u25 u26 u27 u28 u29 u30 u31 u32 u33 u34 u35 u36 u37 u38 u39 u40 u41 u42 u43 u44 u45 u46 u47 u48 u49 u50 u51 u52 u53 u54 u55 u56 u57 u58 u59 u60 u61 u62 u63 u64 u65 u66 u67 u68 u69 u70 u71 u72 u73 u74 u75 u76 u77 u78 u79 u80 u81 u82 u83 u84 u85 u86 u87 u88 u89 u90 u91 u92 u93 u94 u95 u96 u97 u98 u99 u100 u101 u102 u103 u104 u105 u106 u107 u108 u109 u110 u111 u112 u113 u114 u115 u116 u117 u118 u119 u120 u121 u122 u123 u124 u125 u126 u127 u128 u129 u130 u131 u132 u133 u134 u135 u136 u137 u138 u139 u140 u141 u142 u143 u144 u145 u146 u147 u148 u149 u150 u151 u152 u153 u154 u155 u156 : Value) (w1 : World), Below w.heap.size w w1 → K { tmps := #[.string A, .string B, .string C, u3, u4, u5, .bool false, .bool x, .bool y, u9, u10, u11, u12, .string M, u14, u15, u16, u17, u18, u19, u20, u21, u22, u23, u24, u25, u26, u27, u28, u29, u30, u31, u32, u33, u34, u35, u36, u37, u38, u39, u40, u41, u42, u43, u44, u45, u46, u47, u48, u49, u50, u51, u52, u53, u54, u55, u56, u57, u58, u59, u60, u61, u62, u63, u64, u65, u66, u67, u68, u69, u70, u71, u72, u73, u74, u75, u76, u77, u78, u79, u80, u81, u82, u83, u84, u85, u86, u87, u88, u89, u90, u91, u92, u93, u94, u95, u96, u97, u98, u99, u100, u101, u102, u103, u104, u105, u106, u107, u108, u109, u110, u111, u112, u113, u114, u115, u116, u117, u118, u119, u120, u121, u122, u123, u124, u125, u126, u127, u128, u129, u130, u131, u132, u133, u134, u135, u136, u137, u138, u139, u140, u141, u142, u143, u144, u145, u146, u147, u148, u149, u150, u151, u152, u153, u154, u155, u156], defers := [] } w1 by
    have HK := Hid.mk' hK'
    clear hK hK'
    cases hpa : isP (bs A) with
    | false =>
      obtain ⟨e1, he⟩ : ∃ e1, e1 = (pathSpot (bs A)).1 := ⟨_, rfl⟩
      have h0 := Path_no A (by omega) e1 he
      have j1 : ¬ (e1 : Int) = 0 := by have := isP_err _ hpa; rw [← he] at this; omega
      clear hpa HX HY HZ IX IY IZ HM he
      go_wp2_with (go_at_call 10; refine (h0 _).mono ?_; clear h0; rintro e wn ⟨rfl, hBn⟩; replace hBc := hBc.trans (hBn.mono hBc.size); clear hBn)
      exact HK.out _ _ _ _ _ _ _ _ _ _ _ _ _ _ _ _ _ _ _ _ _ _ _ _ _ _ _ _ _ _ _ _ _ _ _ _ _ _ _ _ _ _ _ _ _ _ _ _ _ _ _ _ _ _ _ _ _ _ _ _ _ _ _ _ _ _ _ _ _ _ _ _ _ _ _ _ _ _ _ _ _ _ _ _ _ _ _ _ _ _ _ _ _ _ _ _ _ _ _ _ _ _ _ _ _ _ _ _ _ _ _ _ _ _ _ _ _ _ _ _ _ _ _ _ _ _ _ _ _ _ _ _ _ _ _ _ _ _ _ _ _ _ _ _ _ _ _ _ _ _ _ hBc
    | true =>
      have h0 := Path_ok A (by omega) hpa
      cases hpb : isP (bs B) with
      | false =>
        obtain ⟨e1, he⟩ : ∃ e1, e1 = (pathSpot (bs B)).1 := ⟨_, rfl⟩
        have h1 := Path_no B (by omega) e1 he
        have j1 : ¬ (e1 : Int) = 0 := by have := isP_err _ hpb; rw [← he] at this; omega
        clear hpa hpb HX HY HZ IX IY IZ HM he
        go_wp2_with first
          | (go_at_call 10; refine (h0 _).mono ?_; clear h0; rintro e wn ⟨rfl, hBn⟩; replace hBc := hBc.trans (hBn.mono hBc.size); clear hBn)
          | (go_at_call 10; refine (h1 _).mono ?_; clear h1; rintro e wn ⟨rfl, hBn⟩; replace hBc := hBc.trans (hBn.mono hBc.size); clear hBn)
        exact HK.out _ _ _ _ _ _ _ _ _ _ _ _ _ _ _ _ _ _ _ _ _ _ _ _ _ _ _ _ _ _ _ _ _ _ _ _ _ _ _ _ _ _ _ _ _ _ _ _ _ _ _ _ _ _ _ _ _ _ _ _ _ _ _ _ _ _ _ _ _ _ _ _ _ _ _ _ _ _ _ _ _ _ _ _ _ _ _ _ _ _ _ _ _ _ _ _ _ _ _ _ _ _ _ _ _ _ _ _ _ _ _ _ _ _ _ _ _ _ _ _ _ _ _ _ _ _ _ _ _ _ _ _ _ _ _ _ _ _ _ _ _ _ _ _ _ _ _ _ _ _ _ hBc
      | true =>
        have h1 := Path_ok B (by omega) hpb
        obtain ⟨q1, q2, q3⟩ := inP_common (bs A) (bs B) (bs C) hpa hpb
        rw [← HM.out] at q1 q2 q3
        have h2 := In_is A M (by omega) (by omega) true q1
        have h3 := In_is B M (by omega) (by omega) true q2
        cases z with
        | false =>
          clear hpa hpb HX HY HZ IX IY HM q1 q2 q3
          go_wp2_with first
            | (go_at_call 10; refine (h0 _).mono ?_; clear h0; rintro e wn ⟨rfl, hBn⟩; replace hBc := hBc.trans (hBn.mono hBc.size); clear hBn)
            | (go_at_call 10; refine (h1 _).mono ?_; clear h1; rintro e wn ⟨rfl, hBn⟩; replace hBc := hBc.trans (hBn.mono hBc.size); clear hBn)
            | (go_at_call 17; refine (h2 _).mono ?_; clear h2; rintro e wn ⟨rfl, hBn⟩; replace hBc := hBc.trans (hBn.mono hBc.size); clear hBn)
            | (go_at_call 17; refine (h3 _).mono ?_; clear h3; rintro e wn ⟨rfl, hBn⟩; replace hBc := hBc.trans (hBn.mono hBc.size); clear hBn)
            | (go_at_call 17; refine (IZ _).mono ?_; clear IZ; rintro e wn ⟨rfl, hBn⟩; replace hBc := hBc.trans (hBn.mono hBc.size); clear hBn)
          exact HK.out _ _ _ _ _ _ _ _ _ _ _ _ _ _ _ _ _ _ _ _ _ _ _ _ _ _ _ _ _ _ _ _ _ _ _ _ _ _ _ _ _ _ _ _ _ _ _ _ _ _ _ _ _ _ _ _ _ _ _ _ _ _ _ _ _ _ _ _ _ _ _ _ _ _ _ _ _ _ _ _ _ _ _ _ _ _ _ _ _ _ _ _ _ _ _ _ _ _ _ _ _ _ _ _ _ _ _ _ _ _ _ _ _ _ _ _ _ _ _ _ _ _ _ _ _ _ _ _ _ _ _ _ _ _ _ _ _ _ _ _ _ _ _ _ _ _ _ _ _ _ _ hBc
        | true =>
          cases y with
          | false =>
            clear hpa hpb HX HY HZ IX HM q1 q2 q3
            go_wp2_with first
              | (go_at_call 10; refine (h0 _).mono ?_; clear h0; rintro e wn ⟨rfl, hBn⟩; replace hBc := hBc.trans (hBn.mono hBc.size); clear hBn)
              | (go_at_call 10; refine (h1 _).mono ?_; clear h1; rintro e wn ⟨rfl, hBn⟩; replace hBc := hBc.trans (hBn.mono hBc.size); clear hBn)
              | (go_at_call 17; refine (h2 _).mono ?_; clear h2; rintro e wn ⟨rfl, hBn⟩; replace hBc := hBc.trans (hBn.mono hBc.size); clear hBn)
              | (go_at_call 17; refine (h3 _).mono ?_; clear h3; rintro e wn ⟨rfl, hBn⟩; replace hBc := hBc.trans (hBn.mono hBc.size); clear hBn)
              | (go_at_call 17; refine (IZ _).mono ?_; clear IZ; rintro e wn ⟨rfl, hBn⟩; replace hBc := hBc.trans (hBn.mono hBc.size); clear hBn)
              | (go_at_call 17; refine (IY _).mono ?_; clear IY; rintro e wn ⟨rfl, hBn⟩; replace hBc := hBc.trans (hBn.mono hBc.size); clear hBn)
            exact HK.out _ _ _ _ _ _ _ _ _ _ _ _ _ _ _ _ _ _ _ _ _ _ _ _ _ _ _ _ _ _ _ _ _ _ _ _ _ _ _ _ _ _ _ _ _ _ _ _ _ _ _ _ _ _ _ _ _ _ _ _ _ _ _ _ _ _ _ _ _ _ _ _ _ _ _ _ _ _ _ _ _ _ _ _ _ _ _ _ _ _ _ _ _ _ _ _ _ _ _ _ _ _ _ _ _ _ _ _ _ _ _ _ _ _ _ _ _ _ _ _ _ _ _ _ _ _ _ _ _ _ _ _ _ _ _ _ _ _ _ _ _ _ _ _ _ _ _ _ _ _ _ hBc
          | true =>
            have h4 := In_is M C (by omega) (by omega) true (q3 HZ.out HY.out)
            clear hpa hpb HX HY HZ IX HM q1 q2 q3
            go_wp2_with first
              | (go_at_call 10; refine (h0 _).mono ?_; clear h0; rintro e wn ⟨rfl, hBn⟩; replace hBc := hBc.trans (hBn.mono hBc.size); clear hBn)
              | (go_at_call 10; refine (h1 _).mono ?_; clear h1; rintro e wn ⟨rfl, hBn⟩; replace hBc := hBc.trans (hBn.mono hBc.size); clear hBn)
              | (go_at_call 17; refine (h2 _).mono ?_; clear h2; rintro e wn ⟨rfl, hBn⟩; replace hBc := hBc.trans (hBn.mono hBc.size); clear hBn)
              | (go_at_call 17; refine (h3 _).mono ?_; clear h3; rintro e wn ⟨rfl, hBn⟩; replace hBc := hBc.trans (hBn.mono hBc.size); clear hBn)
              | (go_at_call 17; refine (IZ _).mono ?_; clear IZ; rintro e wn ⟨rfl, hBn⟩; replace hBc := hBc.trans (hBn.mono hBc.size); clear hBn)
              | (go_at_call 17; refine (IY _).mono ?_; clear IY; rintro e wn ⟨rfl, hBn⟩; replace hBc := hBc.trans (hBn.mono hBc.size); clear hBn)
              | (go_at_call 17; refine (h4 _).mono ?_; clear h4; rintro e wn ⟨rfl, hBn⟩; replace hBc := hBc.trans (hBn.mono hBc.size); clear hBn)
            exact HK.out _ _ _ _ _ _ _ _ _ _ _ _ _ _ _ _ _ _ _ _ _ _ _ _ _ _ _ _ _ _ _ _ _ _ _ _ _ _ _ _ _ _ _ _ _ _ _ _ _ _ _ _ _ _ _ _ _ _ _ _ _ _ _ _ _ _ _ _ _ _ _ _ _ _ _ _ _ _ _ _ _ _ _ _ _ _ _ _ _ _ _ _ _ _ _ _ _ _ _ _ _ _ _ _ _ _ _ _ _ _ _ _ _ _ _ _ _ _ _ _ _ _ _ _ _ _ _ _ _ _ _ _ _ _ _ _ _ _ _ _ _ _ _ _ _ _ _ _ _ _ _ hBc
  clear hBc
  intro u3 u4 u5 u9 u10 u11 u12 u14 u15 u16 u17 u18 u19 u20 u21 u22 u23 u24 u25 u26 u27 u28 u29 u30 u31 u32 u33 u34 u35 u36 u37 u38 u39 u40 u41 u42 u43 u44 u45 u46 u47 u48 u49 u50 u51 u52 u53 u54 u55 u56 u57 u58 u59 u60 u61 u62 u63 u64 u65 u66 u67 u68 u69 u70 u71 u72 u73 u74 u75 u76 u77 u78 u79 u80 u81 u82 u83 u84 u85 u86 u87 u88 u89 u90 u91 u92 u93 u94 u95 u96 u97 u98 u99 u100 u101 u102 u103 u104 u105 u106 u107 u108 u109 u110 u111 u112 u113 u114 u115 u116 u117 u118 u119 u120 u121 u122 u123 u124 u125 u126 u127 u128 u129 u130 u131 u132 u133 u134 u135 u136 u137 u138 u139 u140 u141 u142 u143 u144 u145 u146 u147 u148 u149 u150 u151 u152 u153 u154 u155 u156 w1 hBc
  refine hK _ _ ?_
  clear hK
  clear HX HY HZ IX IY IZ HM
  go_wp2_with (go_at_call 7; refine (hwk _).mono ?_; clear hwk; rintro e wn ⟨rfl, hBn⟩; replace hBc := hBc.trans (hBn.mono hBc.size); clear hBn)
  go_ret
  exact ⟨rfl, hBc⟩
end Go.Proofs.Ytadmpobnpnbgoab
