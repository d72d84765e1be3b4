/- Proved here: for every byte the law JournalLong returns true. No condition. -/
import Derived.Test.YtjbifbfhlmdlbaaJWakes
import Derived.Test.YtjbifbfhlmdlbaaJHolds
import Derived.RangeFuncBox
import Derived.Test.YtjbifbfhlmdlbaaRows
import Derived.ProofKit
import Derived.OpenShut
import Derived.ShutString
import Derived.ChangeOld
import Derived.SizedLaws
import Derived.ArgAppend
namespace Go.Proofs.Ytjbifbfhlmdlbaa
open Go.RowKit

theorem made_row {w3 w4 : World} (N : Nat) (hN : N ≤ maxLen) (h : w4.heap[w3.heap.size]? = some (.cells (madeCells (Value.int .u8 0).cells N) 5 (0, 0))) :
    ∃ l, w4.ownsRow w3.heap.size 5 1 (.slice (some ⟨w3.heap.size, 0, none⟩) N N) N (cellsOf l) := by
  refine ⟨List.replicate N 0, by rw [cellsOf_length]; simp, .inr ⟨w3.heap.size, N, _, rfl, Nat.le_refl _, h, Nat.le_refl _, hN, by rw [size_madeCells]; omega, ?_⟩⟩
  rw [made_bytes, List.take_of_length_le (by rw [cellsOf_length]; simp)]

/-- one slice of bytes as a list of slices -/
theorem Slices.one (w : World) (v : Option Addr) (m c : Nat) (l : List UInt8) (t : TypeId) (hb : Bytes (w.alloc (.cells #[.slice v m c] t)) v m l) : Slices (w.alloc (.cells #[.slice v m c] t)) (some ⟨w.heap.size, 0, none⟩) 1 [l] := by
  refine ⟨rfl, fun k hk => ?_⟩
  obtain rfl : k = 0 := by omega
  exact ⟨w.heap.size, 0, v, m, c, rfl, by simp, hb⟩

set_option maxRecDepth 100000 in
set_option maxHeartbeats 4000000 in
theorem journalLong_walk (x : UInt8) (w : World) : Calls Try.prog 6 #[.int .u8 (x.toNat : Int)] w fun e w' => e = .returned (.bool true) ∧ Below w.heap.size w w' := by
  obtain ⟨i0, hi, hz0, hz1, hz2⟩ := info_parts Try.info5
  have hu := Try.underlying22
  go_enter Try.func6, Try.ntmps6
  go_wp2_with fail
  refine (jwakes_any _).mono ?_
  rintro e w1 ⟨rfl, B1⟩
  go_wp2_with fail
  refine (new_any w1).mono ?_
  rintro e w2 ⟨rfl, hd2, B2⟩
  have hx := jl_open w2 _ _ _ fNm [] hd2 (by decide) (Good.new _) (by simp [fileB])
  clear hd2
  go_wp2_with fail
  refine hx.mono ?_
  clear hx
  rintro e w3 ⟨j, rfl, hL3, hT3⟩
  have B3 : Below w.heap.size w w3 := B1.trans ((B2.trans (hT3.below B2.size (by rintro k (rfl | rfl) <;> omega))).mono B1.size)
  have Q3 : Hid (∀ k, grow (fun k => k = w1.heap.size ∨ k = w1.heap.size + 1) w2 w3 k → w.heap.size ≤ k) := fun k hk => hk.elim (fun h => by have := B1.size; omega) (fun h => by have := B1.size; have := B2.size; omega)
  obtain ⟨Q, hQ⟩ : ∃ Q, Q = grow (fun k => k = w1.heap.size ∨ k = w1.heap.size + 1) w2 w3 := ⟨_, rfl⟩
  rw [← hQ] at hL3 Q3
  clear hQ hT3 B2 B1
  go_wp2_with (at_make; refine wpList_make_part _ rfl _ _ 22 rfl 5 i0 (.int .u8 0) hu hi hz0 hz1 hz2 _ _ 262144 262144 _ _ rfl rfl rfl rfl (Nat.le_refl _) (by omega) ?_; intro w4 hg4 hb4)
  have HL3 : Hid (JL Q w3 j (w1.heap.size + 1) fNm [] ⟨fun _ => none, 0, 0, false, 0⟩) := hL3
  have Hrow : Hid (∃ l, w4.ownsRow w3.heap.size 5 1 (.slice (some ⟨w3.heap.size, 0, none⟩) 262144 262144) 262144 (cellsOf l)) := made_row 262144 (by unfold maxLen; omega) hg4.out
  clear hg4 hL3
  go_loopw [30] (fun i wr => ∃ k : Nat, k ≤ 262144 ∧ i = .int .i64 k ∧ Hid (∃ l, wr.ownsRow w3.heap.size 5 1 (.slice (some ⟨w3.heap.size, 0, none⟩) 262144 262144) 262144 (cellsOf l)) ∧ Hid (Below w3.heap.size w3 wr)) (fun i _ => 262144 - (intOf i).toNat)
  case atStart => exact ⟨0, Nat.zero_le _, rfl, Hrow, hb4⟩
  case round =>
    clear Hrow hb4
    obtain ⟨k, hk, rfl, HR, HB⟩ := hrel
    by_cases hlt : k < 262144
    · have i1 : (k : Int) < 262144 := by omega
      obtain ⟨l, hrow⟩ := HR.out
      have hlen : l.length = 262144 := by have := hrow.1; rw [cellsOf_length] at this; omega
      have hck : wr.cell? ⟨w3.heap.size, k, none⟩ = some (.int .u8 (bt l k)) := by rw [hrow.cellAt k (by omega)]; exact cellsOf_get l k (by omega)
      have hfk := hrow.frozenAt k
      have HS : Hid (∃ l', (wr.setCell ⟨w3.heap.size, k, none⟩ (.int .u8 (x.toNat : Int))).ownsRow w3.heap.size 5 1 (.slice (some ⟨w3.heap.size, 0, none⟩) 262144 262144) 262144 (cellsOf l')) := by
        refine ⟨l.set k x, ?_⟩
        have := (hrow.stored k (.int .u8 (x.toNat : Int))).1
        have e : (cellsOf l).set k (.int .u8 (x.toNat : Int)) = cellsOf (l.set k x) := by unfold cellsOf; rw [List.map_set]
        rw [e] at this
        exact this
      have HB2 : Hid (Below w3.heap.size w3 (wr.setCell ⟨w3.heap.size, k, none⟩ (.int .u8 (x.toNat : Int)))) := HB.out.setCell (p := ⟨w3.heap.size, k, none⟩) (Nat.le_refl _) _
      clear hrow hlen HR
      go_wp2
      go_roundw
      case rel => exact ⟨k + 1, by omega, by go_num, HS, HB2⟩
      case measure => simp [intOf]; omega
    · obtain rfl : k = 262144 := by omega
      obtain ⟨l, hrow⟩ := HR.out
      clear HR
      have hby := (ownsRow_bytes hrow).1
      have hlen : Hid (l.length = 262144) := hby.1
      have hcl : ∀ j u, (cellsOf l)[j]? = some u → wr.cell? ((⟨w3.heap.size, 0, none⟩ : Addr).add j) = some u := hrow.cells (g := w3.heap.size) rfl
      have HY : Hid (Bytes wr (some ⟨w3.heap.size, 0, none⟩) 262144 l) := hby
      have hxl : (cellsOf l).length = 262144 * 1 := hrow.1
      have hs3 : w3.heap.size < wr.heap.size := (hrow.lt w3.heap.size rfl).2
      clear hrow hby
      go_wp2_with (at_builtin; refine wpList_append_grows _ rfl _ _ 22 rfl 5 i0 (.int .u8 0) 1 1 hu hi hz0 hz1 hz2 rfl (by omega) (some ⟨w3.heap.size, 0, none⟩) 262144 262144 (cellsOf l) rfl (by simp) hxl ?_ ⟨wr.heap.size, 0, none⟩ 1 1 [.int .u8 1] rfl rfl ?_ (by simp [Value.oneCell']) (by omega) (by unfold maxLen; omega) (by omega) ?_)
      · intro b hb j u hj
        cases hb
        exact (World.grownBy_alloc wr _ none).cell (hcl j u hj) (by simp)
      · intro j u hj
        cases j with
        | zero => simp at hj; subst hj; rw [Addr.add_lit]; simp
        | succ j => simp at hj
      intro v5 w5 hown5 hgr5
      obtain ⟨g5, cap5, rfl⟩ := ownsRow_succ hown5
      have hB5 : Below wr.heap.size wr w5 := ((Below.refl _ wr).alloc (Nat.le_refl _) _).grown hgr5 (by simp) (by simp)
      have hB35 : Below w3.heap.size w3 w5 := HB.out.trans (hB5.mono HB.out.size)
      have hL5 := HL3.out.below hB35
      have hQ3 : ∀ k, Q k → k < w3.heap.size := by obtain ⟨_, _, _, _, _, _, _, h6⟩ := HL3.out; exact h6
      have hb5 : Bytes w5 (some ⟨w3.heap.size, 0, none⟩) 262144 l := (Turn.of_below (fun _ => False) hB5).bytes HY.out (fun _ _ _ => id)
      have hx6 : Calls Try.prog 18 #[.pointer (some ⟨j, 0, none⟩), .slice (some ⟨g5, 0, none⟩) 262145 cap5] w5 fun e w' => e = .returned (.int .i64 3) ∧ w' = w5 := by
        obtain ⟨F, G, hJ, _⟩ := hL5
        exact jappend_long w5 j _ fNm _ _ F hJ _ 262145 cap5 (by omega)
      have hx7 : Calls Try.prog 22 #[.pointer (some ⟨w1.heap.size + 1, 0, none⟩)] w5 fun e w' => e = .returned (.int .i64 0) ∧ w' = w5 := by
        obtain ⟨F, G, _, hd, _⟩ := hL5
        exact writes_any _ _ G w5 hd
      have hx8 := jl_append Q w5 j _ _ fNm [] hL5 (by decide) (by decide) (Good.new _) (some ⟨w3.heap.size, 0, none⟩) 262144 262144 l hb5 (Nat.le_refl _) (fun _ x hx hq => by
        cases hx
        have h0 : w3.heap.size < w3.heap.size := hQ3 _ hq
        omega) (by have := (recB_pos l).2; have := hlen.out; simp [fileB]; omega)
      have HB5 : Hid (Below w.heap.size w w5) := B3.trans (hB35.mono B3.size)
      have Hb5 : Hid (Bytes w5 (some ⟨w3.heap.size, 0, none⟩) 262144 l ∧ w3.heap.size < w5.heap.size) := ⟨hb5, by have := hB5.size; omega⟩
      clear hown5 hgr5 hB5 hB35 hL5 hb5 hcl hxl HL3 HY HB B3
      go_wp2_with fail
      refine hx6.mono ?_
      clear hx6
      rintro e w6 ⟨rfl, rfl⟩
      go_wp2_with fail
      refine hx7.mono ?_
      clear hx7
      rintro e w7 ⟨rfl, rfl⟩
      go_wp2_with fail
      refine hx8.mono ?_
      clear hx8
      rintro e w8 ⟨rfl, ⟨S8, ⟨F8, G8, hJ8, hd8, hFG8, hF8, hG8, hQ8⟩, hg8⟩, hT8⟩
      have hfl : (fileB ([] ++ [l])).length ≤ 4194304 := by
        have := (recB_pos l).2; have := hlen.out; simp [fileB]; omega
      have hx9 := jl_open w8 _ S8 G8 fNm _ hd8 (by decide) hg8 hfl
      have HB8 : Hid (Below w.heap.size w w8) := HB5.out.trans (hT8.below HB5.out.size Q3.out)
      have Hb8 : Hid (Bytes w8 (some ⟨w3.heap.size, 0, none⟩) 262144 l ∧ w3.heap.size < w8.heap.size) := ⟨hT8.bytes Hb5.out.1 (fun _ x hx hq => by cases hx; have h0 : w3.heap.size < w3.heap.size := hQ3 _ hq; omega), Nat.lt_of_lt_of_le Hb5.out.2 hT8.size⟩
      have HG8 : Hid (∀ k, G8 k → w.heap.size ≤ k) := fun k hk => (hG8 k hk).elim (Q3.out k) (fun h => by have := HB5.out.size; omega)
      have HGn : Hid (¬ G8 w3.heap.size) := fun hk => (hG8 _ hk).elim (fun h => by have := hQ3 _ h; omega) (fun h => by have := Hb5.out.2; omega)
      clear hJ8 hd8 hFG8 hF8 hG8 hQ8 hg8 hT8 hfl
      go_wp2_with fail
      refine hx9.mono ?_
      clear hx9
      rintro e w9 ⟨jk, rfl, ⟨F9, G9, hJ9, _⟩, hT9⟩
      have HB9 : Hid (Below w.heap.size w w9) := HB8.out.trans (hT9.below HB8.out.size HG8.out)
      have hb9 : Bytes w9 (some ⟨w3.heap.size, 0, none⟩) 262144 l := hT9.bytes Hb8.out.1 (fun _ x hx hq => by cases hx; exact HGn.out hq)
      have hB10 : Below w9.heap.size w9 (w9.alloc (.cells #[.slice (some ⟨w3.heap.size, 0, none⟩) 262144 262144] 22)) := (Below.refl _ _).alloc (Nat.le_refl _) _
      have hx10 := holds_any _ jk _ fNm ([] ++ [l]) _ false F9 (hJ9.below hB10) _ 1 (Slices.one w9 (some ⟨w3.heap.size, 0, none⟩) 262144 262144 l 22 ((Turn.of_below (fun _ => False) hB10).bytes hb9 (fun _ _ _ => id)))
      have HB10 : Hid (Below w.heap.size w (w9.alloc (.cells #[.slice (some ⟨w3.heap.size, 0, none⟩) 262144 262144] 22))) := HB9.out.trans (hB10.mono HB9.out.size)
      clear hJ9 hT9 hb9 hB10
      go_wp2_with fail
      refine hx10.mono ?_
      clear hx10
      rintro e w11 ⟨rfl, hB11⟩
      have HB11 : Hid (Below w.heap.size w w11) := HB10.out.trans (hB11.mono HB10.out.size)
      clear hB11
      go_wp2_with fail
      refine (jwakes_any _).mono ?_
      rintro e w12 ⟨rfl, hB12⟩
      go_wp2
      go_ret
      exact ⟨rfl, HB11.out.trans (hB12.mono HB11.out.size)⟩

open Go.ChangeShapes Go.WideShapes Go.ChangeAt

theorem Lit.wf_u8 {z : Int} (h : (Lit.int .u8 z).wf = true) : 0 ≤ z ∧ z ≤ 255 := by
  have := bounds_u8 h
  omega

theorem own : ownKnob Try.prog.godebug = none := by kernel_rfl

set_option maxRecDepth 100000 in
theorem journalLong_lifted (os : Os) (started : os.Started) (H : Type) (enc : TypeId × Value → H) :
    ReturnsInHanded {} Try.checked os 6 .any (Rows.journalLongSpec.pre6 enc Try.prog Try.f6 Rows.journalLongRow.domain false) (Rows.journalLongSpec.post enc Try.prog Try.f6 false true false false) := by
  refine returnsInHanded_of_change (C := Try.checked) own started (by kernel_rfl) Try.func6
    (ChangeSpec.witness6 (enc := enc) (C := Try.checked) false ⟨#[], #[.int .u8 0], []⟩ 8 (by kernel_rfl) (by kernel_rfl) (by kernel_rfl) (by kernel_rfl)) ?_
  intro W base args ds gs before hval0 hW _ _
  have hval : ∀ (j : Nat) t v, Try.f6.params[j]? = some t → args[j]? = some v → Value.okWide Try.prog W .any base t v := hval0
  have hW' := hW
  obtain ⟨p, q, hA0, hV, rfl, _, _⟩ := hW
  have hA : DataW.TrodAll enc Try.prog W 0 (fun _ => true) true Try.f6.params.toList args.toList ds p := hA0
  rw [Try.params6] at hA hval
  obtain ⟨v0, vs0, d0, ds0, p0, q0, hargs, rfl, rfl, h0, r0⟩ := trodAll_cons hA
  obtain ⟨rfl, rfl, rfl⟩ := trodAll_nil r0
  obtain rfl : args = #[v0] := by cases args; simp_all
  obtain ⟨rfl, rfl⟩ := trodVars_none hV
  obtain ⟨a0, rfl, rfl, rfl, w0⟩ := open_int Try.underlying5 (hval 0 5 v0 rfl rfl) h0
  obtain ⟨x, hx⟩ : ∃ x : UInt8, a0 = (x.toNat : Int) := by
    have hb := Lit.wf_u8 w0
    refine ⟨UInt8.ofNat a0.toNat, ?_⟩
    rw [UInt8.toNat_ofNat']
    omega
  subst hx
  clear hA0 hval0
  refine (journalLong_walk x W).mono fun e W' ⟨he, bel⟩ => ?_
  subst he
  exact ⟨_, rfl, _, _, _, [], _, [], hW', trodAll_mk1 (shut_bool Try.underlying4 _), trodAll_cons_mk (shut_int Try.underlying5 w0) trodAll_mk0, rfl, bel.frame _, fun h => by cases h⟩

theorem journalLong_holds : Rows.JournalLongSaid :=
  OpenClaim.holds_of_wide 6 Try.f6 rfl rfl rfl rfl rfl rfl rfl ⟨rfl, rfl, rfl, rfl, rfl⟩ rfl rfl rfl rfl rfl (by kernel_rfl) Try.func6 (by kernel_rfl)
    (of_decide_eq_true (by kernel_rfl)) (by unfold Func.isWrapper; first | (rw [if_pos (by decide +kernel)]; kernel_rfl) | (rw [if_neg (by decide +kernel)]; exact ⟨rfl, rfl⟩))
    (fun os started H enc _ => journalLong_lifted os started H enc)
#print axioms journalLong_holds

end Go.Proofs.Ytjbifbfhlmdlbaa
