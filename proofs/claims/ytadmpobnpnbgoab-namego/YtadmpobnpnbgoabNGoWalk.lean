/- The walk of NameGo. -/
import Derived.Test.YtadmpobnpnbgoabNGoPlain
import Derived.Test.YtadmpobnpnbgoabNLiesWalk
namespace Go.Proofs.Ytadmpobnpnbgoab
open Go.RowKit Go.Shelf

theorem runes_row (w : World) (s : ByteArray) (hs : s.size ≤ 100000) : ∃ (n c : Nat) (w2 : World), (convert 9 28 (.string s)).run Try.prog w = .ok (.slice (some ⟨w.heap.size, 0, none⟩) n c) w2 ∧ (convert 28 9 (.slice (some ⟨w.heap.size, 0, none⟩) n c)).run Try.prog w2 = .ok (.string (runesBytes (runesL (bs s)))) w2 ∧ Below w.heap.size w w2 := by
  have hrl := runesL_len _ (bs s) (Nat.le_refl _)
  rw [bs_len] at hrl
  have hrf : Conv.runesFrom s s.size 0 #[] = ((runesL (bs s)).map (Value.int .i32)).toArray := by
    rw [runesFrom_list s s.size 0 #[] (by omega), List.drop_zero]
    simp [bs]
  have hsz : (Conv.runesFrom s s.size 0 #[]).size = (runesL (bs s)).length := by rw [hrf]; simp
  have h1 := run_runes_of_string w 9 28 21 s Try.underlying9 Try.underlying28 Try.underlying21 (by rw [hsz]; omega)
  rw [hsz, hrf] at h1
  refine ⟨_, _, _, h1, ?_, ?_⟩
  · have := run_convert_runes (P := Try.prog) (w.drew.alloc (.cells (((runesL (bs s)).map (Value.int .i32)).toArray ++ Array.replicate (grownCap w (runesL (bs s)).length 0 21 - (runesL (bs s)).length) (.int .i32 0)) 21)) 28 9 21 ⟨w.heap.size, 0, none⟩ (runesL (bs s)).length (grownCap w (runesL (bs s)).length 0 21) (runesL (bs s)) (Nat.le_refl _) Try.underlying28 Try.underlying21 Try.underlying9 (fun j hj => by
      rw [Addr.add_lit]
      have := World.cell?_alloc_mark w.drew (((runesL (bs s)).map (Value.int .i32)).toArray ++ Array.replicate (grownCap w (runesL (bs s)).length 0 21 - (runesL (bs s)).length) (.int .i32 0)) 21 (0, 0) (0 + j)
      rw [show w.drew.heap.size = w.heap.size from rfl] at this
      rw [this, Nat.zero_add, Array.getElem?_append_left (by simpa using hj)]
      simp [List.getElem?_eq_getElem hj])
    rw [List.take_length] at this
    exact this
  · have hd : Below w.heap.size w w.drew := ⟨rfl, rfl, rfl, Nat.le_refl _, fun _ _ => rfl⟩
    exact hd.alloc (Nat.le_refl _) _

theorem fffd_at (s : ByteArray) (p : Nat) (hp : p ≤ s.size) : fffd.isPrefixOf ((bs s).drop p) = (decide (3 ≤ s.size - p) && decide ((s.extract p (p + 3)).toList = [239, 191, 189])) := by
  rw [toList_bs, bs_extract, Bool.eq_iff_iff, Bool.and_eq_true, decide_eq_true_eq, decide_eq_true_eq, List.isPrefixOf_iff_prefix, List.prefix_iff_eq_take, List.drop_take, show p + 3 - p = 3 by omega]
  constructor
  · intro h
    refine ⟨?_, h.symm⟩
    have := congrArg List.length h
    rw [List.length_take, List.length_drop, bs_len] at this
    have h3 : fffd.length = 3 := rfl
    omega
  · intro h; exact h.2.symm

set_option maxRecDepth 100000 in
set_option maxHeartbeats 20000000 in
theorem go_any (a : ByteArray) (w : World) (ha : a.size ≤ maxLen) :
    Calls Try.prog 3 #[.string a] w fun e w' => e = .returned (.bool true) ∧ Below w.heap.size w w' := by
  have hwk := fun w => wakes_any w
  have hca := fun w => cut_any a w ha
  have hA := cutT_size a
  generalize cutT a = A at hca hA
  have hfd := field0
  have hBc : Below w.heap.size w w := Below.refl _ _
  obtain ⟨m, hm⟩ : ∃ m, shp (bs A) = m := ⟨_, rfl⟩
  obtain ⟨k, hk⟩ : ∃ k, okName (bs A) = k := ⟨_, rfl⟩
  have HM : Hid (shp (bs A) = m) := hm
  have HK0 : Hid (okName (bs A) = k) := hk
  clear hm hk ha
  go_enter Try.func3, Try.ntmps3
  refine wp_seq_k fun K hK => ?_
  suffices hK' : ∀ (u1 u3 u4 u5 u6 u7 u8 u9 u10 u11 u12 u13 u14 u15 u16 u17 u18 u19 u20 u21 u22 u23 u24 u25 u26 u27 u28 u29 u30 u31 u32 u33 u34 u35 u36 u37 u38 u39 u40 u41 u42 u43 u44 u45 u46 u47 u48 u49 u50 u51 u52 u53 u54 u55 u56 u57 u58 u59 u60 u61 u62 u63 u64 u65 u66 u67 u68 u69 u70 u71 u72 u73 u74 u75 u76 u77 u78 u79 u80 u81 u82 u83 u84 u85 u86 u87 u88 u89 u90 u91 u92 u93 u94 : Value) (w1 : World), Below w.heap.size w w1 → K { tmps := #[.string a, u1, .bool false, u3, u4, u5, u6, u7, u8, u9, u10, u11, u12, u13, u14, u15, u16, u17, u18, u19, u20, u21, u22, u23, u24, u25, u26, u27, u28, u29, u30, u31, u32, u33, u34, u35, u36, u37, u38, u39, u40, u41, u42, u43, u44, u45, u46, u47, u48, u49, u50, u51, u52, u53, u54, u55, u56, u57, u58, u59, u60, u61, u62, u63, u64, u65, u66, u67, u68, u69, u70, u71, u72, u73, u74, u75, u76, u77, u78, u79, u80, u81, u82, u83, u84, u85, u86, u87, u88, u89, u90, u91, u92, u93, u94], defers := [] } w1 by
    have HK := Hid.mk' hK'
    clear hK hK'
    go_wp2
    exact HK.out _ _ _ _ _ _ _ _ _ _ _ _ _ _ _ _ _ _ _ _ _ _ _ _ _ _ _ _ _ _ _ _ _ _ _ _ _ _ _ _ _ _ _ _ _ _ _ _ _ _ _ _ _ _ _ _ _ _ _ _ _ _ _ _ _ _ _ _ _ _ _ _ _ _ _ _ _ _ _ _ _ _ _ _ _ _ _ _ _ _ _ _ _ _ hBc
  clear hBc
  intro u1 u3 u4 u5 u6 u7 u8 u9 u10 u11 u12 u13 u14 u15 u16 u17 u18 u19 u20 u21 u22 u23 u24 u25 u26 u27 u28 u29 u30 u31 u32 u33 u34 u35 u36 u37 u38 u39 u40 u41 u42 u43 u44 u45 u46 u47 u48 u49 u50 u51 u52 u53 u54 u55 u56 u57 u58 u59 u60 u61 u62 u63 u64 u65 u66 u67 u68 u69 u70 u71 u72 u73 u74 u75 u76 u77 u78 u79 u80 u81 u82 u83 u84 u85 u86 u87 u88 u89 u90 u91 u92 u93 u94 w1 hBc
  refine hK _ _ ?_
  clear hK
  refine wp_seq_k fun K hK => ?_
  suffices hK' : ∀ (u1 u3 u4 u5 u6 u7 u8 u9 u10 u11 u12 u13 u14 u15 u16 u17 u18 u19 u20 u21 u22 u23 u24 u25 u26 u27 u28 u29 u30 u31 u32 u33 u34 u35 u36 u37 u38 u39 u40 u41 u42 u43 u44 u45 u46 u47 u48 u49 u50 u51 u52 u53 u54 u55 u56 u57 u58 u59 u60 u61 u62 u63 u64 u65 u66 u67 u68 u69 u70 u71 u72 u73 u74 u75 u76 u77 u78 u79 u80 u81 u82 u83 u84 u85 u86 u87 u88 u89 u90 u91 u92 u93 u94 : Value) (w1 : World), Below w.heap.size w w1 → K { tmps := #[.string a, u1, .bool false, u3, u4, u5, u6, u7, u8, u9, u10, u11, u12, u13, u14, u15, u16, u17, u18, u19, u20, u21, u22, u23, u24, u25, u26, u27, u28, u29, u30, u31, u32, u33, u34, u35, u36, u37, u38, u39, u40, u41, u42, u43, u44, u45, u46, u47, u48, u49, u50, u51, u52, u53, u54, u55, u56, u57, u58, u59, u60, u61, u62, u63, u64, u65, u66, u67, u68, u69, u70, u71, u72, u73, u74, u75, u76, u77, u78, u79, u80, u81, u82, u83, u84, u85, u86, u87, u88, u89, u90, u91, u92, u93, u94], defers := [] } w1 by
    have HK := Hid.mk' hK'
    clear hK hK'
    go_wp2_with (go_at_call 7; refine (hwk _).mono ?_; rintro e wn ⟨rfl, hBn⟩; replace hBc := hBc.trans (hBn.mono hBc.size); clear hBn)
    exact HK.out _ _ _ _ _ _ _ _ _ _ _ _ _ _ _ _ _ _ _ _ _ _ _ _ _ _ _ _ _ _ _ _ _ _ _ _ _ _ _ _ _ _ _ _ _ _ _ _ _ _ _ _ _ _ _ _ _ _ _ _ _ _ _ _ _ _ _ _ _ _ _ _ _ _ _ _ _ _ _ _ _ _ _ _ _ _ _ _ _ _ _ _ _ _ hBc
  clear hBc
  intro u1 u3 u4 u5 u6 u7 u8 u9 u10 u11 u12 u13 u14 u15 u16 u17 u18 u19 u20 u21 u22 u23 u24 u25 u26 u27 u28 u29 u30 u31 u32 u33 u34 u35 u36 u37 u38 u39 u40 u41 u42 u43 u44 u45 u46 u47 u48 u49 u50 u51 u52 u53 u54 u55 u56 u57 u58 u59 u60 u61 u62 u63 u64 u65 u66 u67 u68 u69 u70 u71 u72 u73 u74 u75 u76 u77 u78 u79 u80 u81 u82 u83 u84 u85 u86 u87 u88 u89 u90 u91 u92 u93 u94 w1 hBc
  refine hK _ _ ?_
  clear hK
  refine wp_seq_k fun K hK => ?_
  suffices hK' : ∀ (u1 u3 u4 u5 u6 u7 u8 u9 u10 u11 u12 u13 u14 u15 u16 u17 u18 u19 u20 u21 u22 u23 u24 u25 u26 u27 u28 u29 u30 u31 u32 u33 u34 u35 u36 u37 u38 u39 u40 u41 u42 u43 u44 u45 u46 u47 u48 u49 u50 u51 u52 u53 u54 u55 u56 u57 u58 u59 u60 u61 u62 u63 u64 u65 u66 u67 u68 u69 u70 u71 u72 u73 u74 u75 u76 u77 u78 u79 u80 u81 u82 u83 u84 u85 u86 u87 u88 u89 u90 u91 u92 u93 u94 : Value) (w1 : World), Below w.heap.size w w1 → K { tmps := #[.string A, u1, .bool false, u3, u4, u5, u6, u7, u8, u9, u10, u11, u12, u13, u14, u15, u16, u17, u18, u19, u20, u21, u22, u23, u24, u25, u26, u27, u28, u29, u30, u31, u32, u33, u34, u35, u36, u37, u38, u39, u40, u41, u42, u43, u44, u45, u46, u47, u48, u49, u50, u51, u52, u53, u54, u55, u56, u57, u58, u59, u60, u61, u62, u63, u64, u65, u66, u67, u68, u69, u70, u71, u72, u73, u74, u75, u76, u77, u78, u79, u80, u81, u82, u83, u84, u85, u86, u87, u88, u89, u90, u91, u92, u93, u94], defers := [] } w1 by
    have HK := Hid.mk' hK'
    clear hK hK'
    go_wp2_with (go_at_call 8; refine (hca _).mono ?_; clear hca; rintro e wn ⟨rfl, rfl⟩)
    exact HK.out _ _ _ _ _ _ _ _ _ _ _ _ _ _ _ _ _ _ _ _ _ _ _ _ _ _ _ _ _ _ _ _ _ _ _ _ _ _ _ _ _ _ _ _ _ _ _ _ _ _ _ _ _ _ _ _ _ _ _ _ _ _ _ _ _ _ _ _ _ _ _ _ _ _ _ _ _ _ _ _ _ _ _ _ _ _ _ _ _ _ _ _ _ _ hBc
  clear hBc
  intro u1 u3 u4 u5 u6 u7 u8 u9 u10 u11 u12 u13 u14 u15 u16 u17 u18 u19 u20 u21 u22 u23 u24 u25 u26 u27 u28 u29 u30 u31 u32 u33 u34 u35 u36 u37 u38 u39 u40 u41 u42 u43 u44 u45 u46 u47 u48 u49 u50 u51 u52 u53 u54 u55 u56 u57 u58 u59 u60 u61 u62 u63 u64 u65 u66 u67 u68 u69 u70 u71 u72 u73 u74 u75 u76 u77 u78 u79 u80 u81 u82 u83 u84 u85 u86 u87 u88 u89 u90 u91 u92 u93 u94 w1 hBc
  refine hK _ _ ?_
  clear hK
  clear hca
  refine wp_seq_k fun K hK => ?_
  suffices hK' : ∀ (u1 u4 u5 u6 u7 u8 u9 u10 u11 u12 u13 u14 u15 u16 u17 u18 u19 u20 u21 u22 u23 u24 u25 u26 u27 u28 u29 u30 u31 u32 u33 u34 u35 u36 u37 u38 u39 u40 u41 u42 u43 u44 u45 u46 u47 u48 u49 u50 u51 u52 u53 u54 u55 u56 u57 u58 u59 u60 u61 u62 u63 u64 u65 u66 u67 u68 u69 u70 u71 u72 u73 u74 u75 u76 u77 u78 u79 u80 u81 u82 u83 u84 u85 u86 u87 u88 u89 u90 u91 u92 u93 u94 : Value) (w1 : World), Below w.heap.size w w1 → K { tmps := #[.string A, u1, .bool false, .bool m, u4, u5, u6, u7, u8, u9, u10, u11, u12, u13, u14, u15, u16, u17, u18, u19, u20, u21, u22, u23, u24, u25, u26, u27, u28, u29, u30, u31, u32, u33, u34, u35, u36, u37, u38, u39, u40, u41, u42, u43, u44, u45, u46, u47, u48, u49, u50, u51, u52, u53, u54, u55, u56, u57, u58, u59, u60, u61, u62, u63, u64, u65, u66, u67, u68, u69, u70, u71, u72, u73, u74, u75, u76, u77, u78, u79, u80, u81, u82, u83, u84, u85, u86, u87, u88, u89, u90, u91, u92, u93, u94], defers := [] } w1 by
    have HK := Hid.mk' hK'
    clear hK hK'
    by_cases h0 : 0 < A.size
    · have i0 : (0 : Int) < A.size := by omega
      by_cases h1 : A.size ≤ 32
      · have i1 : (A.size : Int) ≤ 32 := by omega
        by_cases h2 : A.toList = [46]
        · have b2 : (A.toList == [46]) = true := by rw [h2]; rfl
          obtain rfl : m = false := by rw [← HM.out]; unfold shp; rw [← toList_bs, h2]; rfl
          clear HM HK0
          go_wp2
          exact HK.out _ _ _ _ _ _ _ _ _ _ _ _ _ _ _ _ _ _ _ _ _ _ _ _ _ _ _ _ _ _ _ _ _ _ _ _ _ _ _ _ _ _ _ _ _ _ _ _ _ _ _ _ _ _ _ _ _ _ _ _ _ _ _ _ _ _ _ _ _ _ _ _ _ _ _ _ _ _ _ _ _ _ _ _ _ _ _ _ _ _ _ _ _ hBc
        · have b2 : (A.toList == [46]) = false := by simpa using h2
          by_cases h3 : A.toList = [46, 46]
          · have b3 : (A.toList == [46, 46]) = true := by rw [h3]; rfl
            obtain rfl : m = false := by rw [← HM.out]; unfold shp; rw [← toList_bs, h3]; rfl
            clear HM HK0
            go_wp2
            exact HK.out _ _ _ _ _ _ _ _ _ _ _ _ _ _ _ _ _ _ _ _ _ _ _ _ _ _ _ _ _ _ _ _ _ _ _ _ _ _ _ _ _ _ _ _ _ _ _ _ _ _ _ _ _ _ _ _ _ _ _ _ _ _ _ _ _ _ _ _ _ _ _ _ _ _ _ _ _ _ _ _ _ _ _ _ _ _ _ _ _ _ _ _ _ hBc
          · have b3 : (A.toList == [46, 46]) = false := by simpa using h3
            obtain rfl : m = true := by
              rw [← HM.out]; unfold shp
              rw [bs_len, ← toList_bs]
              simp [h0, h1, h2, h3]
            clear HM HK0
            go_wp2
            exact HK.out _ _ _ _ _ _ _ _ _ _ _ _ _ _ _ _ _ _ _ _ _ _ _ _ _ _ _ _ _ _ _ _ _ _ _ _ _ _ _ _ _ _ _ _ _ _ _ _ _ _ _ _ _ _ _ _ _ _ _ _ _ _ _ _ _ _ _ _ _ _ _ _ _ _ _ _ _ _ _ _ _ _ _ _ _ _ _ _ _ _ _ _ _ hBc
      · have i1 : ¬ (A.size : Int) ≤ 32 := by omega
        obtain rfl : m = false := by rw [← HM.out]; unfold shp; rw [bs_len]; simp [h1]
        clear HM HK0
        go_wp2
        exact HK.out _ _ _ _ _ _ _ _ _ _ _ _ _ _ _ _ _ _ _ _ _ _ _ _ _ _ _ _ _ _ _ _ _ _ _ _ _ _ _ _ _ _ _ _ _ _ _ _ _ _ _ _ _ _ _ _ _ _ _ _ _ _ _ _ _ _ _ _ _ _ _ _ _ _ _ _ _ _ _ _ _ _ _ _ _ _ _ _ _ _ _ _ _ hBc
    · have i0 : ¬ (0 : Int) < A.size := by omega
      obtain rfl : m = false := by rw [← HM.out]; unfold shp; rw [bs_len]; simp [h0]
      clear HM HK0
      go_wp2
      exact HK.out _ _ _ _ _ _ _ _ _ _ _ _ _ _ _ _ _ _ _ _ _ _ _ _ _ _ _ _ _ _ _ _ _ _ _ _ _ _ _ _ _ _ _ _ _ _ _ _ _ _ _ _ _ _ _ _ _ _ _ _ _ _ _ _ _ _ _ _ _ _ _ _ _ _ _ _ _ _ _ _ _ _ _ _ _ _ _ _ _ _ _ _ _ hBc
  clear hBc
  intro u1 u4 u5 u6 u7 u8 u9 u10 u11 u12 u13 u14 u15 u16 u17 u18 u19 u20 u21 u22 u23 u24 u25 u26 u27 u28 u29 u30 u31 u32 u33 u34 u35 u36 u37 u38 u39 u40 u41 u42 u43 u44 u45 u46 u47 u48 u49 u50 u51 u52 u53 u54 u55 u56 u57 u58 u59 u60 u61 u62 u63 u64 u65 u66 u67 u68 u69 u70 u71 u72 u73 u74 u75 u76 u77 u78 u79 u80 u81 u82 u83 u84 u85 u86 u87 u88 u89 u90 u91 u92 u93 u94 w1 hBc
  refine hK _ _ ?_
  clear hK
  refine wp_seq_k fun K hK => ?_
  suffices hK' : ∀ (u1 u4 u5 u6 u7 u8 u9 u10 u11 u12 u13 u14 u15 u16 u17 u18 u19 u20 u21 u22 u23 u24 u25 u26 u27 u28 u29 u30 u31 u32 u33 u34 u35 u36 u37 u38 u39 u40 u41 u42 u43 u44 u45 u46 u47 u48 u49 u50 u51 u52 u53 u54 u55 u56 u57 u58 u59 u60 u61 u62 u63 u64 u65 u66 u67 u68 u69 u70 u71 u72 u73 u74 u75 u76 u77 u78 u79 u80 u81 u82 u83 u84 u85 u86 u87 u88 u89 u90 u91 u92 u93 u94 : Value) (w1 : World), Below w.heap.size w w1 → K { tmps := #[.string A, u1, .bool false, .bool k, u4, u5, u6, u7, u8, u9, u10, u11, u12, u13, u14, u15, u16, u17, u18, u19, u20, u21, u22, u23, u24, u25, u26, u27, u28, u29, u30, u31, u32, u33, u34, u35, u36, u37, u38, u39, u40, u41, u42, u43, u44, u45, u46, u47, u48, u49, u50, u51, u52, u53, u54, u55, u56, u57, u58, u59, u60, u61, u62, u63, u64, u65, u66, u67, u68, u69, u70, u71, u72, u73, u74, u75, u76, u77, u78, u79, u80, u81, u82, u83, u84, u85, u86, u87, u88, u89, u90, u91, u92, u93, u94], defers := [] } w1 by
    have HK := Hid.mk' hK'
    clear hK hK'
    have HS : Hid ((m && nb (bs A)) = k) := by show _ = _; rw [← HM.out, okName_shape]; exact HK0.out
    have HB1 : Hid (Below w.heap.size w w1) := hBc
    clear HM HK0 hBc
    go_wp2
    go_loopw [3] (fun v wr => ∃ (p : Nat) (q : Bool), p ≤ A.size ∧ v = .bool q ∧ wr = w1.iter A p ∧ Hid ((m && nb (bs A)) = (q && nb ((bs A).drop p)))) (fun _ wr => A.size - wr.iterPos w1.heap.size)
    case atStart => exact ⟨0, m, Nat.zero_le _, rfl, rfl, rfl⟩
    case round =>
      obtain ⟨p, q, hp, rfl, rfl, H⟩ := hrel
      by_cases hlt : p < A.size
      · obtain ⟨r, hr⟩ : ∃ r, r = (dec ((bs A).drop p)).1 := ⟨_, rfl⟩
        obtain ⟨d, hd⟩ : ∃ d, d = (dec ((bs A).drop p)).2 := ⟨_, rfl⟩
        have hne : (bs A).drop p ≠ [] := fun e => by
          have := congrArg List.length e
          rw [List.length_drop, bs_len] at this; simp at this; omega
        have hd1 : 1 ≤ d := by rw [hd]; exact dec_pos _
        have hd2 : p + d ≤ A.size := by
          have := dec_le _ hne
          rw [← hd, List.length_drop, bs_len] at this; omega
        have hdec : Utf8.decode A p = (r, d) := by rw [decode_dec, hr, hd]; rfl
        have hrle : r ≤ 2147483647 := by have := decode_le A p; rw [hdec] at this; exact this
        have hnx := run_next_any (P := Try.prog) w1 A p (h := hlt)
        rw [hdec] at hnx
        obtain ⟨W1, hW1⟩ : ∃ W1, W1 = w1.iter A p := ⟨_, rfl⟩
        obtain ⟨W2, hW2⟩ : ∃ W2, W2 = w1.iter A (p + d) := ⟨_, rfl⟩
        have HW2 : Hid (W2 = w1.iter A (p + d)) := hW2
        have hm1 : Hid (A.size - W2.iterPos w1.heap.size < A.size - W1.iterPos w1.heap.size) := by
          show _ < _
          rw [hW1, hW2, World.iterPos_iter, World.iterPos_iter]; omega
        rw [← hW1, ← hW2] at hnx
        rw [← hW1]
        have Hgo : Hid ((m && nb (bs A)) = (q && (!bad ((bs A).drop p) && nb ((bs A).drop (p + d))))) := by
          show _ = _
          rw [H.out, nb_go _ hne, ← hd, List.drop_drop]
        have HBd : Hid (bad ((bs A).drop p) = (decide (r < 32) || decide (r = 127) || decide (r = 47) || (decide (r = 65533) && !((decide (3 ≤ A.size - p) && decide ((A.extract p (p + 3)).toList = [239, 191, 189])))))) := by
          show _ = _
          rw [← fffd_at A p (by omega), bad, ← hr]
        clear hne hd hr hdec hW1 hW2 H HS HK HB1
        have i3 : (p : Int) ≤ A.size := by omega
        by_cases h65 : r = 65533
        · subst h65
          simp only [show ((65533 : Nat) : Int) = 65533 from rfl] at hnx
          by_cases h3 : 3 ≤ A.size - p
          · have i4 : ¬ (A.size : Int) - p < 3 := by omega
            have i5 : (p : Int) + 3 ≤ A.size := by omega
            by_cases hf : (A.extract p (p + 3)).toList = [239, 191, 189]
            · have bf : ((A.extract p (p + 3)).toList == [239, 191, 189]) = true := by rw [hf]; rfl
              have HG : Hid ((m && nb (bs A)) = (q && nb ((bs A).drop (p + d)))) := by
                show _ = _
                rw [Hgo.out, HBd.out]; simp [h3, hf]
              clear HBd Hgo
              go_wp2
              go_roundw
              case rel => exact ⟨p + d, q, hd2, rfl, HW2.out, HG.out⟩
              case measure => exact hm1.out
            · have bf : ((A.extract p (p + 3)).toList == [239, 191, 189]) = false := by simpa using hf
              have HG : Hid ((m && nb (bs A)) = (false && nb ((bs A).drop (p + d)))) := by
                show _ = _
                rw [Hgo.out, HBd.out]; simp [hf]
              clear HBd Hgo
              go_wp2
              go_roundw
              case rel => exact ⟨p + d, false, hd2, rfl, HW2.out, HG.out⟩
              case measure => exact hm1.out
          · have i4 : (A.size : Int) - p < 3 := by omega
            have HG : Hid ((m && nb (bs A)) = (false && nb ((bs A).drop (p + d)))) := by
              show _ = _
              rw [Hgo.out, HBd.out]; simp [h3]
            clear HBd Hgo
            go_wp2
            go_roundw
            case rel => exact ⟨p + d, false, hd2, rfl, HW2.out, HG.out⟩
            case measure => exact hm1.out
        · have i65 : ¬ (r : Int) = 65533 := by omega
          by_cases h32 : r < 32
          · have i32 : (r : Int) < 32 := by omega
            have HG : Hid ((m && nb (bs A)) = (false && nb ((bs A).drop (p + d)))) := by
              show _ = _
              rw [Hgo.out, HBd.out]; simp [h32]
            clear HBd Hgo
            go_wp2
            go_roundw
            case rel => exact ⟨p + d, false, hd2, rfl, HW2.out, HG.out⟩
            case measure => exact hm1.out
          · have i32 : ¬ (r : Int) < 32 := by omega
            by_cases h127 : r = 127
            · subst h127
              simp only [show ((127 : Nat) : Int) = 127 from rfl] at hnx
              have HG : Hid ((m && nb (bs A)) = (false && nb ((bs A).drop (p + d)))) := by
                show _ = _
                rw [Hgo.out, HBd.out]; simp
              clear HBd Hgo
              go_wp2
              go_roundw
              case rel => exact ⟨p + d, false, hd2, rfl, HW2.out, HG.out⟩
              case measure => exact hm1.out
            · have i127 : ¬ (r : Int) = 127 := by omega
              by_cases h47 : r = 47
              · subst h47
                simp only [show ((47 : Nat) : Int) = 47 from rfl] at hnx
                have HG : Hid ((m && nb (bs A)) = (false && nb ((bs A).drop (p + d)))) := by
                  show _ = _
                  rw [Hgo.out, HBd.out]; simp
                clear HBd Hgo
                go_wp2
                go_roundw
                case rel => exact ⟨p + d, false, hd2, rfl, HW2.out, HG.out⟩
                case measure => exact hm1.out
              · have i47 : ¬ (r : Int) = 47 := by omega
                have c127 : ((r : Int) == 127) = false := beq_eq_false_iff_ne.2 i127
                have c47 : ((r : Int) == 47) = false := beq_eq_false_iff_ne.2 i47
                have HG : Hid ((m && nb (bs A)) = (q && nb ((bs A).drop (p + d)))) := by
                  show _ = _
                  rw [Hgo.out, HBd.out]; simp [h65, h32, h127, h47]
                clear HBd Hgo
                go_wp2
                go_roundw
                case rel => exact ⟨p + d, q, hd2, rfl, HW2.out, HG.out⟩
                case measure => exact hm1.out
      · obtain rfl : p = A.size := by omega
        have hnx := run_next_end (P := Try.prog) w1 A A.size (h := Nat.lt_irrefl _)
        obtain rfl : q = k := by
          rw [← HS.out, H.out, List.drop_eq_nil_of_le (by rw [bs_len]; exact Nat.le_refl _), nb_nil, Bool.and_true]
        have hBc : Below w.heap.size w (w1.iter A A.size) := HB1.out.alloc HB1.out.size _
        obtain ⟨W1, hW1⟩ : ∃ W1, W1 = w1.iter A A.size := ⟨_, rfl⟩
        rw [← hW1] at hnx hBc ⊢
        clear hW1 HS H HB1
        go_wp2
        exact HK.out _ _ _ _ _ _ _ _ _ _ _ _ _ _ _ _ _ _ _ _ _ _ _ _ _ _ _ _ _ _ _ _ _ _ _ _ _ _ _ _ _ _ _ _ _ _ _ _ _ _ _ _ _ _ _ _ _ _ _ _ _ _ _ _ _ _ _ _ _ _ _ _ _ _ _ _ _ _ _ _ _ _ _ _ _ _ _ _ _ _ _ _ _ hBc
  clear hBc
  intro u1 u4 u5 u6 u7 u8 u9 u10 u11 u12 u13 u14 u15 u16 u17 u18 u19 u20 u21 u22 u23 u24 u25 u26 u27 u28 u29 u30 u31 u32 u33 u34 u35 u36 u37 u38 u39 u40 u41 u42 u43 u44 u45 u46 u47 u48 u49 u50 u51 u52 u53 u54 u55 u56 u57 u58 u59 u60 u61 u62 u63 u64 u65 u66 u67 u68 u69 u70 u71 u72 u73 u74 u75 u76 u77 u78 u79 u80 u81 u82 u83 u84 u85 u86 u87 u88 u89 u90 u91 u92 u93 u94 w1 hBc
  refine hK _ _ ?_
  clear hK
  obtain ⟨e1, he1⟩ : ∃ e1, (spot (bs A)).1 = e1 := ⟨_, rfl⟩
  obtain ⟨e2, he2⟩ : ∃ e2, (spot (bs A)).2 = e2 := ⟨_, rfl⟩
  have hch := fun w => check_any A w (by unfold maxLen; omega)
  simp only [spotV, he1, he2] at hch
  have hsl := (spot_le (bs A)).1
  rw [he2, bs_len] at hsl
  have HKe : Hid (k = decide (e1 = 0)) := by
    show _ = _
    rw [← HK0.out, okName, he1]; rfl
  clear he1 he2 HM HK0
  refine wp_seq_k fun K hK => ?_
  suffices hK' : ∀ (u1 u4 u5 u7 u8 u9 u10 u11 u12 u13 u14 u15 u16 u17 u18 u19 u20 u21 u22 u23 u24 u25 u26 u27 u28 u29 u30 u31 u32 u33 u34 u35 u36 u37 u38 u39 u40 u41 u42 u43 u44 u45 u46 u47 u48 u49 u50 u51 u52 u53 u54 u55 u56 u57 u58 u59 u60 u61 u62 u63 u64 u65 u66 u67 u68 u69 u70 u71 u72 u73 u74 u75 u76 u77 u78 u79 u80 u81 u82 u83 u84 u85 u86 u87 u88 u89 u90 u91 u92 u93 u94 : Value) (w1 : World), Below w.heap.size w w1 → ∀ g : Nat, Box2 w1 g (.int .i64 (e1 : Int)) (.int .i64 (e2 : Int)) → K { tmps := #[.string A, u1, .bool false, .bool k, u4, u5, .pointer (some ⟨g, 0, none⟩), u7, u8, u9, u10, u11, u12, u13, u14, u15, u16, u17, u18, u19, u20, u21, u22, u23, u24, u25, u26, u27, u28, u29, u30, u31, u32, u33, u34, u35, u36, u37, u38, u39, u40, u41, u42, u43, u44, u45, u46, u47, u48, u49, u50, u51, u52, u53, u54, u55, u56, u57, u58, u59, u60, u61, u62, u63, u64, u65, u66, u67, u68, u69, u70, u71, u72, u73, u74, u75, u76, u77, u78, u79, u80, u81, u82, u83, u84, u85, u86, u87, u88, u89, u90, u91, u92, u93, u94], defers := [] } w1 by
    have HK := Hid.mk' hK'
    clear hK hK'
    go_wp2_with (go_at_call 9; refine (hch _).mono ?_; clear hch; rintro e wn ⟨rfl, hBn⟩; replace hBc := hBc.trans (hBn.mono hBc.size); clear hBn)
    have hBc' := hBc
    replace hBc := hBc'.alloc hBc'.size (.cells #[.int .i64 (e1 : Int), .int .i64 (e2 : Int)] 26)
    exact HK.out _ _ _ _ _ _ _ _ _ _ _ _ _ _ _ _ _ _ _ _ _ _ _ _ _ _ _ _ _ _ _ _ _ _ _ _ _ _ _ _ _ _ _ _ _ _ _ _ _ _ _ _ _ _ _ _ _ _ _ _ _ _ _ _ _ _ _ _ _ _ _ _ _ _ _ _ _ _ _ _ _ _ _ _ _ _ _ _ _ _ _ _ hBc _ (Box2.new _ _ _)
  clear hBc
  intro u1 u4 u5 u7 u8 u9 u10 u11 u12 u13 u14 u15 u16 u17 u18 u19 u20 u21 u22 u23 u24 u25 u26 u27 u28 u29 u30 u31 u32 u33 u34 u35 u36 u37 u38 u39 u40 u41 u42 u43 u44 u45 u46 u47 u48 u49 u50 u51 u52 u53 u54 u55 u56 u57 u58 u59 u60 u61 u62 u63 u64 u65 u66 u67 u68 u69 u70 u71 u72 u73 u74 u75 u76 u77 u78 u79 u80 u81 u82 u83 u84 u85 u86 u87 u88 u89 u90 u91 u92 u93 u94 w1 hBc g hbox
  refine hK _ _ ?_
  clear hK
  obtain ⟨q0, q1⟩ := hbox.cell
  clear hbox
  refine wp_seq_k fun K hK => ?_
  suffices hK' : ∀ (u1 u3 u4 u5 u6 u7 u8 u9 u10 u11 u12 u13 u14 u15 u16 u17 u18 u19 u20 u21 u22 u23 u24 u25 u26 u27 u28 u29 u30 u31 u32 u33 u34 u35 u36 u37 u38 u39 u40 u41 u42 u43 u44 u45 u46 u47 u48 u49 u50 u51 u52 u53 u54 u55 u56 u57 u58 u59 u60 u61 u62 u63 u64 u65 u66 u67 u68 u69 u70 u71 u72 u73 u74 u75 u76 u77 u78 u79 u80 u81 u82 u83 u84 u85 u86 u87 u88 u89 u90 u91 u92 u93 u94 : Value) (w1 : World), Below w.heap.size w w1 → K { tmps := #[.string A, u1, .bool false, u3, u4, u5, u6, u7, u8, u9, u10, u11, u12, u13, u14, u15, u16, u17, u18, u19, u20, u21, u22, u23, u24, u25, u26, u27, u28, u29, u30, u31, u32, u33, u34, u35, u36, u37, u38, u39, u40, u41, u42, u43, u44, u45, u46, u47, u48, u49, u50, u51, u52, u53, u54, u55, u56, u57, u58, u59, u60, u61, u62, u63, u64, u65, u66, u67, u68, u69, u70, u71, u72, u73, u74, u75, u76, u77, u78, u79, u80, u81, u82, u83, u84, u85, u86, u87, u88, u89, u90, u91, u92, u93, u94], defers := [] } w1 by
    have HK := Hid.mk' hK'
    clear hK hK'
    have i2 : ¬ (e2 : Int) < 0 := by omega
    have i3 : ¬ (A.size : Int) < e2 := by omega
    by_cases h0 : e1 = 0
    · subst h0
      obtain rfl : k = true := HKe.out
      clear HKe
      go_wp2
      exact HK.out _ _ _ _ _ _ _ _ _ _ _ _ _ _ _ _ _ _ _ _ _ _ _ _ _ _ _ _ _ _ _ _ _ _ _ _ _ _ _ _ _ _ _ _ _ _ _ _ _ _ _ _ _ _ _ _ _ _ _ _ _ _ _ _ _ _ _ _ _ _ _ _ _ _ _ _ _ _ _ _ _ _ _ _ _ _ _ _ _ _ _ _ _ _ hBc
    · obtain rfl : k = false := by rw [HKe.out]; simpa using h0
      have j0 : ¬ (e1 : Int) = 0 := by omega
      have j1 : ((e1 : Int) == 0) = false := by simpa using h0
      clear HKe
      go_wp2
      exact HK.out _ _ _ _ _ _ _ _ _ _ _ _ _ _ _ _ _ _ _ _ _ _ _ _ _ _ _ _ _ _ _ _ _ _ _ _ _ _ _ _ _ _ _ _ _ _ _ _ _ _ _ _ _ _ _ _ _ _ _ _ _ _ _ _ _ _ _ _ _ _ _ _ _ _ _ _ _ _ _ _ _ _ _ _ _ _ _ _ _ _ _ _ _ _ hBc
  clear hBc
  intro u1 u3 u4 u5 u6 u7 u8 u9 u10 u11 u12 u13 u14 u15 u16 u17 u18 u19 u20 u21 u22 u23 u24 u25 u26 u27 u28 u29 u30 u31 u32 u33 u34 u35 u36 u37 u38 u39 u40 u41 u42 u43 u44 u45 u46 u47 u48 u49 u50 u51 u52 u53 u54 u55 u56 u57 u58 u59 u60 u61 u62 u63 u64 u65 u66 u67 u68 u69 u70 u71 u72 u73 u74 u75 u76 u77 u78 u79 u80 u81 u82 u83 u84 u85 u86 u87 u88 u89 u90 u91 u92 u93 u94 w1 hBc
  refine hK _ _ ?_
  clear hK
  clear q0 q1 HKe
  obtain ⟨nr, cr, w2, hc1, hc2, hB2⟩ := runes_row w1 A (by omega)
  obtain ⟨R, hR⟩ : ∃ R, runesBytes (runesL (bs A)) = R := ⟨_, rfl⟩
  have HR : Hid (runesBytes (runesL (bs A)) = R) := hR
  rw [hR] at hc2
  have hB2' : Below w.heap.size w w2 := hBc.trans (hB2.mono hBc.size)
  clear hR hB2
  refine wp_seq_k fun K hK => ?_
  suffices hK' : ∀ (u1 u3 u4 u5 u6 u8 u9 u10 u11 u12 u13 u14 u15 u16 u17 u18 u19 u20 u21 u22 u23 u24 u25 u26 u27 u28 u29 u30 u31 u32 u33 u34 u35 u36 u37 u38 u39 u40 u41 u42 u43 u44 u45 u46 u47 u48 u49 u50 u51 u52 u53 u54 u55 u56 u57 u58 u59 u60 u61 u62 u63 u64 u65 u66 u67 u68 u69 u70 u71 u72 u73 u74 u75 u76 u77 u78 u79 u80 u81 u82 u83 u84 u85 u86 u87 u88 u89 u90 u91 u92 u93 u94 : Value) (w1 : World), Below w.heap.size w w1 → K { tmps := #[.string A, u1, .bool false, u3, u4, u5, u6, .string R, u8, u9, u10, u11, u12, u13, u14, u15, u16, u17, u18, u19, u20, u21, u22, u23, u24, u25, u26, u27, u28, u29, u30, u31, u32, u33, u34, u35, u36, u37, u38, u39, u40, u41, u42, u43, u44, u45, u46, u47, u48, u49, u50, u51, u52, u53, u54, u55, u56, u57, u58, u59, u60, u61, u62, u63, u64, u65, u66, u67, u68, u69, u70, u71, u72, u73, u74, u75, u76, u77, u78, u79, u80, u81, u82, u83, u84, u85, u86, u87, u88, u89, u90, u91, u92, u93, u94], defers := [] } w1 by
    have HK := Hid.mk' hK'
    clear hK hK'
    clear HR
    go_wp2
    exact HK.out _ _ _ _ _ _ _ _ _ _ _ _ _ _ _ _ _ _ _ _ _ _ _ _ _ _ _ _ _ _ _ _ _ _ _ _ _ _ _ _ _ _ _ _ _ _ _ _ _ _ _ _ _ _ _ _ _ _ _ _ _ _ _ _ _ _ _ _ _ _ _ _ _ _ _ _ _ _ _ _ _ _ _ _ _ _ _ _ _ _ _ _ _ hB2'
  clear hBc
  intro u1 u3 u4 u5 u6 u8 u9 u10 u11 u12 u13 u14 u15 u16 u17 u18 u19 u20 u21 u22 u23 u24 u25 u26 u27 u28 u29 u30 u31 u32 u33 u34 u35 u36 u37 u38 u39 u40 u41 u42 u43 u44 u45 u46 u47 u48 u49 u50 u51 u52 u53 u54 u55 u56 u57 u58 u59 u60 u61 u62 u63 u64 u65 u66 u67 u68 u69 u70 u71 u72 u73 u74 u75 u76 u77 u78 u79 u80 u81 u82 u83 u84 u85 u86 u87 u88 u89 u90 u91 u92 u93 u94 w1 hBc
  refine hK _ _ ?_
  clear hK
  clear hc1 hc2 hB2'
  refine wp_seq_k fun K hK => ?_
  suffices hK' : ∀ (u1 u3 u4 u5 u6 u8 u9 u10 u11 u12 u13 u14 u15 u16 u17 u18 u19 u20 u21 u22 u23 u24 u25 u26 u27 u28 u29 u30 u31 u32 u33 u34 u35 u36 u37 u38 u39 u40 u41 u42 u43 u44 u45 u46 u47 u48 u49 u50 u51 u52 u53 u54 u55 u56 u57 u58 u59 u60 u61 u62 u63 u64 u65 u66 u67 u68 u69 u70 u71 u72 u73 u74 u75 u76 u77 u78 u79 u80 u81 u82 u83 u84 u85 u86 u87 u88 u89 u90 u91 u92 u93 u94 : Value) (w1 : World), Below w.heap.size w w1 → K { tmps := #[.string A, u1, .bool false, u3, u4, u5, u6, .string R, u8, u9, u10, u11, u12, u13, u14, u15, u16, u17, u18, u19, u20, u21, u22, u23, u24, u25, u26, u27, u28, u29, u30, u31, u32, u33, u34, u35, u36, u37, u38, u39, u40, u41, u42, u43, u44, u45, u46, u47, u48, u49, u50, u51, u52, u53, u54, u55, u56, u57, u58, u59, u60, u61, u62, u63, u64, u65, u66, u67, u68, u69, u70, u71, u72, u73, u74, u75, u76, u77, u78, u79, u80, u81, u82, u83, u84, u85, u86, u87, u88, u89, u90, u91, u92, u93, u94], defers := [] } w1 by
    have HK := Hid.mk' hK'
    clear hK hK'
    cases hpa : isP (bs A) with
    | true =>
      obtain rfl : R = A := by
        rw [← HR.out]
        exact bs_inj (runes_back _ (right_path _ hpa))
      have h0 := Path_ok R (by omega) hpa
      clear hpa HR
      go_wp2_with (go_at_call 10; refine (h0 _).mono ?_; clear h0; rintro e wn ⟨rfl, hBn⟩; replace hBc := hBc.trans (hBn.mono hBc.size); clear hBn)
      exact HK.out _ _ _ _ _ _ _ _ _ _ _ _ _ _ _ _ _ _ _ _ _ _ _ _ _ _ _ _ _ _ _ _ _ _ _ _ _ _ _ _ _ _ _ _ _ _ _ _ _ _ _ _ _ _ _ _ _ _ _ _ _ _ _ _ _ _ _ _ _ _ _ _ _ _ _ _ _ _ _ _ _ _ _ _ _ _ _ _ _ _ _ _ _ hBc
    | false =>
      obtain ⟨e1, he⟩ : ∃ e1, e1 = (pathSpot (bs A)).1 := ⟨_, rfl⟩
      have h0 := Path_no A (by omega) e1 he
      have j1 : ¬ (e1 : Int) = 0 := by have := isP_err _ hpa; rw [← he] at this; omega
      clear hpa he HR
      go_wp2_with (go_at_call 10; refine (h0 _).mono ?_; clear h0; rintro e wn ⟨rfl, hBn⟩; replace hBc := hBc.trans (hBn.mono hBc.size); clear hBn)
      exact HK.out _ _ _ _ _ _ _ _ _ _ _ _ _ _ _ _ _ _ _ _ _ _ _ _ _ _ _ _ _ _ _ _ _ _ _ _ _ _ _ _ _ _ _ _ _ _ _ _ _ _ _ _ _ _ _ _ _ _ _ _ _ _ _ _ _ _ _ _ _ _ _ _ _ _ _ _ _ _ _ _ _ _ _ _ _ _ _ _ _ _ _ _ _ hBc
  clear hBc
  intro u1 u3 u4 u5 u6 u8 u9 u10 u11 u12 u13 u14 u15 u16 u17 u18 u19 u20 u21 u22 u23 u24 u25 u26 u27 u28 u29 u30 u31 u32 u33 u34 u35 u36 u37 u38 u39 u40 u41 u42 u43 u44 u45 u46 u47 u48 u49 u50 u51 u52 u53 u54 u55 u56 u57 u58 u59 u60 u61 u62 u63 u64 u65 u66 u67 u68 u69 u70 u71 u72 u73 u74 u75 u76 u77 u78 u79 u80 u81 u82 u83 u84 u85 u86 u87 u88 u89 u90 u91 u92 u93 u94 w1 hBc
  refine hK _ _ ?_
  clear hK
  clear HR
  go_wp2_with (go_at_call 7; refine (hwk _).mono ?_; rintro e wn ⟨rfl, hBn⟩; replace hBc := hBc.trans (hBn.mono hBc.size); clear hBn)
  go_ret
  exact ⟨rfl, hBc⟩
end Go.Proofs.Ytadmpobnpnbgoab
