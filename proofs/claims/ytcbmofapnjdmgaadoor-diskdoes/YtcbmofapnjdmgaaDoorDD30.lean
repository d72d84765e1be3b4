import Derived.Test.YtcbmofapnjdmgaaDoorDD26
import Derived.Test.YtcbmofapnjdmgaaDoorDD08
import Derived.Test.YtcbmofapnjdmgaaDoorDD07
import Derived.Test.YtcbmofapnjdmgaaDoorDD17
import Derived.Sort.OwnSorted
/- The walk of the reference disk's Names: the names of all files, rising. -/
namespace Go.Proofs.YtcbmofapnjdmgaaDoor
open Go.RowKit Go.Maps

theorem infoStr : (Tryd.prog.info? 9).map (fun i => (i.zero, i.size, i.bytes)) = some (some (.string ⟨#[]⟩), 1, 16) := by kernel_rfl
theorem ownsRow_baseS {w : World} {B n : Nat} {v : Value} {xs : List Value} (h : w.ownsRow 0 9 1 v n xs) (hB : ∀ g, v.ownBlock = some g → B ≤ g) : w.ownsRow B 9 1 v n xs := by
  refine ⟨h.1, ?_⟩
  rcases h.2 with h0 | ⟨g, cap, cur, rfl, _, h2⟩
  · exact .inl h0
  · exact .inr ⟨g, cap, cur, rfl, hB g rfl, h2⟩

/-- the names gathered, behind k files -/
structure NmI (w wr : World) (is : List It) (k : Nat) (v : Value) : Prop where
  row : wr.ownsRow 0 9 1 v k ((is.take k).map fun i => encStr i.k)
  lo : ∀ g, v.ownBlock = some g → w.heap.size ≤ g
  below : Below w.heap.size w wr

set_option maxRecDepth 20000 in
set_option maxHeartbeats 4000000 in
theorem rnames_any (p : Nat) (S : DG) (Fp : Nat → Prop) (w : World) (h : IsRef w p S Fp) (hn : S.n ≤ 300) (hsz : ∀ l, (S.f l).isSome = true → l.length ≤ maxLen) :
    Calls Tryd.prog 17 #[.pointer (some ⟨p, 0, none⟩)] w fun e w' => ∃ ns a c, e = .returned (.slice a ns.length c) ∧ S.Lists ns ∧ w'.ownsRow w.heap.size 9 1 (.slice a ns.length c) ns.length (ns.map encStr) ∧ Below w.heap.size w w' := by
  obtain ⟨fs0, is, left, h, hM⟩ := h
  have hnl := hM.n
  obtain ⟨ad, c, rfl, hnc, hcm, hnn, hcell⟩ := slice2 h.row rfl
  have c0 := h.c0
  go_enter Tryd.func17, Tryd.ntmps17
  go_wp2_with fail
  have H0 : Hid (NmI w w is 0 (.slice none 0 0)) := ⟨World.ownsRow_nil _ _ _ _, by simp [Value.ownBlock], Below.refl _ _⟩
  have HH : Hid (∀ k, ∀ i, is[k]? = some i → ∃ g, ad = some ⟨g, 0, none⟩ ∧ w.cell? ⟨g, k * 2, none⟩ = some (.string i.name) ∧ w.cell? ⟨g, k * 2 + 1, none⟩ = some i.v) := fun k i hi => by
    obtain ⟨g, h1, h2, h3, _⟩ := hcell k i hi
    exact ⟨g, h1, h2, h3⟩
  have HV : Hid (∀ i ∈ is, ∃ a n c, i.v = .slice a n c) := fun i hi => by
    obtain ⟨a, c, e, _⟩ := ownsRow_shape (h.each i hi).1
    exact ⟨a, _, c, e⟩
  have hlen : is.length ≤ 300 := by omega
  have hplt := h.lt p h.fp
  clear hcell hnn h
  go_loopw [3, 11] (fun v j wr => ∃ (k c' : Nat) (ad' : Option Addr), k ≤ is.length ∧ j = .int .i64 k ∧ v = .slice ad' k c' ∧ Hid (NmI w wr is k (.slice ad' k c'))) (fun _ i _ => is.length - (intOf i).toNat)
  case atStart => exact ⟨0, 0, none, Nat.zero_le _, rfl, rfl, H0⟩
  case round =>
    clear H0 c0
    obtain ⟨k, c', ad', hk, rfl, rfl, H⟩ := hrel
    by_cases hlt : k < is.length
    · have i3 : (k : Int) < (is.length : Int) := by omega
      have i4 : (0 : Int) ≤ (k : Int) := by omega
      obtain ⟨i, hi⟩ : ∃ i, is[k]? = some i := ⟨is[k], by simp [hlt]⟩
      obtain ⟨g, rfl, q0, q1⟩ := HH.out k i hi
      obtain ⟨va, vn, vc, hv⟩ := HV.out i (List.mem_of_getElem? hi)
      have hB := H.out.below
      have q0' : wr.cell? ⟨g, k * 2, none⟩ = some (.string i.name) := by rw [hB.cell (World.block_lt_of_cell? w _ q0)]; exact q0
      have q1' : wr.cell? ⟨g, k * 2 + 1, none⟩ = some i.v := by rw [hB.cell (World.block_lt_of_cell? w _ q1)]; exact q1
      have HT : Hid ((is.take (k + 1)).map (fun i => encStr i.k) = (is.take k).map (fun i => encStr i.k) ++ [.string i.name]) := by
        rw [List.take_add_one, hi, List.map_append]
        rfl
      obtain ⟨nm, v, bs⟩ := i
      simp only at hv q0' q1'
      subst hv
      clear q0 q1 hi hB
      obtain ⟨i0, hi0, hz0, hz1, hz2⟩ := info_parts infoStr
      have HI : Hid (Tryd.prog.info? 9 = some i0 ∧ i0.zero = some (.string ⟨#[]⟩) ∧ i0.size = 1 ∧ i0.bytes = 16) := ⟨hi0, hz0, hz1, hz2⟩
      clear hi0 hz0 hz1 hz2
      have hown2 : Hid (((wr.alloc (.cells #[.string nm, .slice va vn vc] 51)).alloc (.cells #[.string nm] 9)).ownsRow 0 9 1 (.slice ad' k c') k ((is.take k).map fun i => encStr i.k)) := (H.out.row.alloc _).alloc _
      have hB2 : Hid (Below w.heap.size w ((wr.alloc (.cells #[.string nm, .slice va vn vc] 51)).alloc (.cells #[.string nm] 9))) := (H.out.below.alloc H.out.below.size _).alloc (by have := H.out.below.size; simp; omega) _
      have hl2 : Hid (∀ g, (Value.slice ad' k c').ownBlock = some g → w.heap.size ≤ g) := H.out.lo
      clear H
      go_wp2_with (at_builtin; refine wpList_push1 _ rfl _ _ 52 9 i0 (.string ⟨#[]⟩) 16 rfl Tryd.underlying52 HI.out.1 HI.out.2.1 HI.out.2.2.1 HI.out.2.2.2 rfl (.slice ad' k c') k _ rfl hown2.out (wr.heap.size + 1) (.string nm) rfl (by simp) rfl (by unfold maxLen; omega) (by omega) ?_; intro v2 w2 ho2 hg2 hat2; obtain ⟨a2, c2, rfl, _⟩ := ownsRow_strs ho2)
      have hB3 := hB2.out.grown hg2 hB2.out.size hl2.out
      refine ⟨⟨k + 1, c2, a2, by omega, by simp, rfl, ⟨by rw [HT.out]; exact ho2, ?_, hB3⟩⟩, by simp [intOf]; omega⟩
      intro g' hg'
      rcases hat2 with e | e
      · rw [e] at hg'; exact hl2.out g' hg'
      · rw [e] at hg'; cases hg'; exact hB2.out.size
    · have i3 : ¬ (k : Int) < (is.length : Int) := by omega
      obtain rfl : k = is.length := by omega
      have hrow := H.out.row
      rw [List.take_length] at hrow
      have hB := H.out.below
      have hlo := H.out.lo
      have hks : ((is.map It.k)).length = is.length := by simp
      have hmap : is.map (fun i => encStr i.k) = (is.map It.k).map encStr := by simp
      rw [hmap] at hrow
      have HL : Hid (S.Lists ((is.map It.k).mergeSort leB)) := by
        refine ⟨is.map It.k, ?_, ?_, by rw [hks, hnl], ?_, rfl⟩
        · rw [List.nodup_iff_pairwise_ne, List.pairwise_map]
          exact hM.nd.imp (fun h e => h (It.k_inj.1 e))
        · intro x
          rw [hM.f, Option.isSome_map, List.mem_map]
          constructor
          · rintro ⟨i, hi, rfl⟩
            cases e : seek is i.k with
            | none => exact absurd rfl (seek_none.1 e i hi)
            | some _ => rfl
          · intro hs
            obtain ⟨i, hi⟩ := Option.isSome_iff_exists.1 hs
            exact ⟨i, (seek_mem hi).1, (seek_mem hi).2⟩
        · intro x hx
          refine hsz x ?_
          rw [hM.f, Option.isSome_map]
          obtain ⟨i, hi, rfl⟩ := List.mem_map.1 hx
          cases e : seek is i.k with
          | none => exact absurd rfl (seek_none.1 e i hi)
          | some _ => rfl
      have hsl : ((is.map It.k).mergeSort leB).length = is.length := by rw [List.length_mergeSort, hks]
      generalize is.map It.k = ks at *
      rcases hrow.2 with ⟨hnil, hz⟩ | ⟨g, cap, cur, hg0, hbase, hb, h1, h2, h3, h4⟩
      · obtain ⟨ea, en, ec⟩ : ad' = none ∧ is.length = 0 ∧ c' = 0 := by simpa using hnil
        subst ea ec
        have hc := fun W => Tryd.sort_Strings_none none 0 W
        rw [en] at hsl hrow ⊢
        have e0 : ks.mergeSort leB = [] := List.eq_nil_of_length_eq_zero hsl
        rw [e0] at HL
        go_wp2_with (go_at_call 37; refine (hc _).mono ?_; rintro e w2 ⟨rfl, rfl⟩)
        go_ret
        exact ⟨[], none, 0, rfl, HL.out, World.ownsRow_nil _ _ _ _, hB⟩
      · cases hg0
        have hc := Tryd.sort_Strings g 0 c' ks wr (holds_of_block hb (by simpa [hks] using h4)) (Array.getElem?_eq_some_iff.1 hb).1 (by omega)
        rw [hks] at hc
        have HOS : Hid (∀ n os, (Sort.grow (Sort.putRow encStr (Sort.ahead wr n) g 0 (ks.mergeSort leB).toArray) os).ownsRow w.heap.size 9 1 (.slice (some ⟨g, 0, none⟩) is.length c') is.length ((ks.mergeSort leB).map encStr) ∧ Below w.heap.size w (Sort.grow (Sort.putRow encStr (Sort.ahead wr n) g 0 (ks.mergeSort leB).toArray) os)) := fun n os => by
          have ho := ownsRow_sorted (base := w.heap.size) (n := n) (os := os) (ss := ks) (ts := ks.mergeSort leB) (by simp) (hlo g rfl) hb (by rw [hks]; exact h1) h2 h3
          rw [hks] at ho
          exact ⟨ho, hB.grown (grownBy_sorted _) hB.size (fun k hk => by cases hk; exact hlo g rfl)⟩
        go_wp2_with (go_at_call 37; refine hc.mono ?_; rintro e w2 ⟨rfl, n2, os2, hw2⟩; have hO := HOS.out n2 os2; rw [← hw2] at hO; clear hw2)
        go_ret
        refine ⟨ks.mergeSort leB, some ⟨g, 0, none⟩, c', by rw [hsl]; rfl, HL.out, by rw [hsl]; exact hO.1, hO.2⟩

end Go.Proofs.YtcbmofapnjdmgaaDoor
