/- The walk of Names: the names of all files, rising. -/
import Derived.Test.YtibnppclnapjkaaDiskCopy
import Derived.Test.YtibnppclnapjkaaDiskIter
namespace Go.Proofs.Ytibnppclnapjkaa
open Go.RowKit Go.Maps

/-- these are the names of the disk's files, rising -/
def DG.Lists (S : DG) (ns : List (List UInt8)) : Prop := ∃ ks : List (List UInt8), ks.Nodup ∧ (∀ x, x ∈ ks ↔ (S.f x).isSome = true) ∧ ks.length = S.n ∧ (∀ x ∈ ks, x.length ≤ maxLen) ∧ ns = ks.mergeSort leB

theorem DG.Lists.same {S T : DG} {ns ms : List (List UInt8)} (h : S.Lists ns) (k : T.Lists ms) (e : ∀ x, (S.f x).isSome = (T.f x).isSome) : ns = ms := by
  obtain ⟨ks, n1, m1, _, _, rfl⟩ := h
  obtain ⟨js, n2, m2, _, _, rfl⟩ := k
  exact mergeSort_of_perm ((List.perm_ext_iff_of_nodup n1 n2).2 fun x => by rw [m1, m2, e])
theorem DG.Lists.mem {S : DG} {ns : List (List UInt8)} (h : S.Lists ns) (x : List UInt8) (hx : x ∈ ns) : (S.f x).isSome = true ∧ x.length ≤ maxLen := by
  obtain ⟨ks, n1, m1, _, hl, rfl⟩ := h
  have : x ∈ ks := (List.mergeSort_perm ks leB).mem_iff.1 hx
  exact ⟨(m1 x).1 this, hl x this⟩
theorem DG.Lists.len {S : DG} {ns : List (List UInt8)} (h : S.Lists ns) : ns.length = S.n := by
  obtain ⟨ks, _, _, hl, _, rfl⟩ := h
  rw [List.length_mergeSort, hl]

theorem ownsRow_strs {w : World} {B n : Nat} {v : Value} {xs : List Value} (h : w.ownsRow B 9 1 v n xs) : ∃ ad c, v = .slice ad n c ∧ n ≤ c ∧ (ad = none → n = 0) ∧ ∀ i u, xs[i]? = some u → ∃ b, ad = some ⟨b, 0, none⟩ ∧ B ≤ b ∧ b < w.heap.size ∧ w.cell? ⟨b, i, none⟩ = some u := by
  have hl := h.1
  rcases h.2 with ⟨rfl, rfl⟩ | ⟨g, cap, cur, rfl, hb, _, hc, _⟩
  · refine ⟨none, 0, rfl, Nat.le_refl _, fun _ => rfl, fun i u hu => ?_⟩
    have := (List.getElem?_eq_some_iff.1 hu).1
    omega
  · refine ⟨_, _, rfl, hc, (fun h => by cases h), fun i u hu => ⟨g, rfl, hb, (h.lt g rfl).2, ?_⟩⟩
    have := h.cells (g := g) rfl i u hu
    rw [Addr.add_lit, Nat.zero_add] at this
    exact this

set_option maxHeartbeats 1000000 in
theorem names_any (p : Nat) (S : DG) (Fp : Nat → Prop) (w : World) (hd : IsDisk w p S Fp) (hn : S.n ≤ 1000000) :
    Calls Try.prog 17 #[.pointer (some ⟨p, 0, none⟩)] w fun e w' => ∃ ns a c, e = .returned (.slice a ns.length c) ∧ S.Lists ns ∧ w'.ownsRow w.heap.size 9 1 (.slice a ns.length c) ns.length (ns.map encStr) ∧ Below w.heap.size w w' := by
  obtain ⟨b, M, hd⟩ := hd
  have c0 := hd.c0
  have hK := callsIn_wide.1 (Try.maps_Keys_33 (some b) w)
  have hS := callsIn_wide.1 (Try.slices_Sorted_keys_32_33 b (size M) M rv w hd.own (by rw [hd.sz]; unfold maxLen; omega) (by rw [hd.sz]; omega))
  have hND := strKeys_nodup hd.own
  have hlen := strKeys_length hd.own
  have hle := strKeys_le hd.own Try.underlying9
  have hhas := hd.has
  have hsz := hd.sz
  clear hd
  go_enter Try.func17, Try.ntmps17
  go_wp2_with fail
  refine hK.mono ?_
  rintro e w1 ⟨rfl, rfl⟩
  go_wp2_with fail
  refine hS.mono ?_
  rintro e w2 ⟨v, ss, rfl, hperm, hrow, _, hB⟩
  go_wp2
  go_ret
  have hll : ss.length = (ss.mergeSort leB).length := by rw [List.length_mergeSort]
  have hrow' : w2.ownsRow (w.alloc (.cells #[.map (some b)] 57)).heap.size 9 1 v (ss.mergeSort leB).length ((ss.mergeSort leB).map encStr) := by rw [← hll]; exact hrow
  obtain ⟨a, c, rfl, _⟩ := ownsRow_strs hrow'
  refine ⟨ss.mergeSort leB, a, c, rfl, ⟨ss, hperm.nodup_iff.2 hND.1, fun x => ?_, ?_, fun x hx => hle x (hperm.mem_iff.1 hx), rfl⟩, ?_, ?_⟩
  · rw [hperm.mem_iff, hND.2, hhas]
  · rw [hperm.length_eq, hlen, hsz]
  · refine ⟨hrow'.1, ?_⟩
    rcases hrow'.2 with h0 | ⟨g, cap, cur, e, hb, h2⟩
    · exact .inl h0
    · exact .inr ⟨g, cap, cur, e, by simp at hb; omega, h2⟩
  · exact ((Below.refl _ w).alloc (Nat.le_refl _) _).trans (hB.mono (by simp))

end Go.Proofs.Ytibnppclnapjkaa
