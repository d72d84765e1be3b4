import Derived.Test.YtcbmofapnjdmgaaDoorDD16
import Derived.Test.YtcbmofapnjdmgaaDoorDD11
import Derived.Test.YtcbmofapnjdmgaaDoorDD07
/- The walk of the reference disk's take: a file is taken away. -/
namespace Go.Proofs.YtcbmofapnjdmgaaDoor
open Go.RowKit Go.Maps

theorem Tryd.info51 : (Tryd.prog.info? 51).map (fun i => (i.zero, i.size, i.bytes)) = some (some (.agg #[.string ⟨#[]⟩, .slice none 0 0]), 2, 40) := by kernel_rfl

/-- append of one file, laid just before into a block of its own, to a list that is owned: what it is, and where it lies -/
theorem run_push_it (w : World) (ty : TypeId) (base : Nat) (v : Value) (n : Nat) (xs : List Value) (hown : w.ownsRow base 51 2 v n xs) (hbase : base ≤ w.heap.size) (g : Nat) (i : It) (hg : w.heap[g]? = some (.cells #[.string i.name, i.v] 51 (0, 0))) (hv : ∃ a n c, i.v = .slice a n c) (hn : n ≤ 1000000) :
    ∃ a' c' w', (Builtin.append_ #[46, 46] ty #[v, .slice (some ⟨g, 0, none⟩) 1 1]).run Tryd.prog w = .ok (.slice a' (n + 1) c') w' ∧ w'.ownsRow base 51 2 (.slice a' (n + 1) c') (n + 1) (xs ++ i.cells) ∧ w.grownBy w' v.ownBlock ∧
      ((Value.slice a' (n + 1) c').ownBlock = v.ownBlock ∨ (Value.slice a' (n + 1) c').ownBlock = some w.heap.size) := by
  obtain ⟨i0, hi, hz0, hz1, hz2⟩ := info_parts Tryd.info51
  obtain ⟨va, vn, vc, hv⟩ := hv
  obtain ⟨v', w', h1, h2, h3, _, h5⟩ := run_append_own_at (P := Tryd.prog) w base 46 ty 51 i0 _ 2 40 Tryd.underlying46 hi hz0 hz1 hz2 rfl (by omega) v n xs hown ⟨g, 0, none⟩ 1 1 i.cells rfl (by
    intro j u hu
    have hadd : (⟨g, 0, none⟩ : Addr).add j = ⟨g, j, none⟩ := by unfold Addr.add; split <;> simp_all
    rw [hadd, cell_of_row w g j _ _ _ hg]
    simpa [It.cells] using hu) (by intro u hu; simp [It.cells] at hu; rcases hu with rfl | rfl; rfl; rw [hv]; rfl) (by unfold maxLen; omega) (by omega) hbase
  have hsh : ∃ a' c', v' = .slice a' (n + 1) c' := by
    rcases h2.2 with ⟨_, h0⟩ | ⟨g', cap, cur, rfl, _⟩
    · omega
    · exact ⟨_, _, rfl⟩
  obtain ⟨a', c', rfl⟩ := hsh
  exact ⟨a', c', w', h1, h2, h3, h5⟩

theorem wpList_push_it {wr : World} {ops : Array Oper} {rest : List Oper} {o : Oper} {a : Act} {Q : Exit → Act → World → Prop} (i : It)
    (hgd : o.guard = none) (s x : Operand) (hop : o.op = Op.call { callee := Callee.builtin Builtin.append, args := #[s, x], argTypes := #[46, 46] })
    (base n : Nat) (v : Value) (xs : List Value) (hs : a.eval s = v) (g : Nat) (hx : a.eval x = .slice (some ⟨g, 0, none⟩) 1 1)
    (hg : wr.heap[g]? = some (.cells #[.string i.name, i.v] 51 (0, 0))) (hv : ∃ a n c, i.v = .slice a n c)
    (hown : wr.ownsRow base 51 2 v n xs) (hn : n ≤ 1000000) (hb : base ≤ wr.heap.size)
    (hK : ∀ a' c' w', w'.ownsRow base 51 2 (.slice a' (n + 1) c') (n + 1) (xs ++ i.cells) → wr.grownBy w' v.ownBlock → ((Value.slice a' (n + 1) c').ownBlock = v.ownBlock ∨ (Value.slice a' (n + 1) c').ownBlock = some wr.heap.size) → wpList Tryd.prog ops Q rest (a.put o.dst (.slice a' (n + 1) c')) w') :
    wpList Tryd.prog ops Q (o :: rest) a wr := by
  refine wpList_plain hgd fun K hK' => ?_
  obtain ⟨a', c', w', hr, h2, h3, h4⟩ := run_push_it wr o.type base v n xs hown hb g i hg hv hn
  unfold Oper.wp execOp
  simp only [hop, resolve, invoke, builtin, Sem.run_bind, Sem.run_pure, Result.andThen_ok, List.map_toArray, List.map_cons, List.map_nil, hs, hx, hr]
  exact hK' _ _ (hK a' c' w' h2 h3 h4)

theorem row_zero {w : World} {B n z : Nat} {e : TypeId} {v : Value} {xs : List Value} (h : w.ownsRow B e z v n xs) : w.ownsRow 0 e z v n xs := by
  refine ⟨h.1, ?_⟩
  rcases h.2 with h0 | ⟨g, cap, cur, rfl, _, h2⟩
  · exact .inl h0
  · exact .inr ⟨g, cap, cur, rfl, Nat.zero_le _, h2⟩

/-- the files but one -/
def sans (is : List It) (s : ByteArray) : List It := is.filter fun i => !(i.name.toList == s.toList)
theorem sans_take (is : List It) (s : ByteArray) (k : Nat) (i : It) (h : is[k]? = some i) : sans (is.take (k + 1)) s = sans (is.take k) s ++ (if (i.name.toList == s.toList) = true then [] else [i]) := by
  rw [List.take_add_one, h]
  simp only [Option.toList_some, sans, List.filter_append, List.filter_cons, List.filter_nil]
  cases (i.name.toList == s.toList) <;> simp

set_option maxRecDepth 20000 in
set_option maxHeartbeats 4000000 in
theorem take_any (p : Nat) (fs : Value) (is : List It) (wr0 : Nat) (left : Int) (Fp : Nat → Prop) (w : World) (s : ByteArray) (h : RefAt w p fs is wr0 left Fp) (hn : is.length ≤ 300) :
    Calls Tryd.prog 45 #[.pointer (some ⟨p, 0, none⟩), .string s] w fun e w' => e = .returned (.tuple #[]) ∧ (∃ fs', RefAt w' p fs' (sans is s) wr0 left (grow Fp w w')) ∧ Turn Fp w w' := by
  obtain ⟨ad, c, rfl, hnc, hcm, hnn, hcell⟩ := slice2 h.row rfl
  have c0 := h.c0
  have f0 := h.f0
  go_enter Tryd.func45, Tryd.ntmps45
  go_wp2_with fail
  go_loopw [4, 12] (fun v j wr => ∃ (k c' m : Nat) (ad' : Option Addr), k ≤ is.length ∧ j = .int .i64 k ∧ v = .slice ad' m c' ∧ Hid (m = (sans (is.take k) s).length) ∧ Hid (wr.ownsRow w.heap.size 51 2 (.slice ad' m c') m (flat2 (sans (is.take k) s))) ∧ Below w.heap.size w wr) (fun _ i _ => is.length - (intOf i).toNat)
  case atStart => exact ⟨0, 0, 0, none, Nat.zero_le _, rfl, rfl, rfl, World.ownsRow_nil _ _ _ _, Below.refl _ _⟩
  case round =>
    obtain ⟨k, c', m, ad', hk, rfl, rfl, HM, HO, hB⟩ := hrel
    have hm300 : m ≤ 300 := by
      rw [HM.out]
      have := List.length_filter_le (fun i : It => !(i.name.toList == s.toList)) (is.take k)
      simp only [sans]
      simp at this
      omega
    by_cases hlt : k < is.length
    · have i3 : (k : Int) < (is.length : Int) := by omega
      have i4 : (0 : Int) ≤ (k : Int) := by omega
      obtain ⟨i, hi⟩ : ∃ i, is[k]? = some i := ⟨is[k], by simp [hlt]⟩
      obtain ⟨g, rfl, q0, q1, _⟩ := hcell k i hi
      have q0' : wr.cell? ⟨g, k * 2, none⟩ = some (.string i.name) := by rw [hB.cell (World.block_lt_of_cell? w _ q0)]; exact q0
      have q1' : wr.cell? ⟨g, k * 2 + 1, none⟩ = some i.v := by rw [hB.cell (World.block_lt_of_cell? w _ q1)]; exact q1
      obtain ⟨va, vn, vc, hv⟩ : ∃ a n c, i.v = .slice a n c := by
        obtain ⟨a, c, e, _⟩ := ownsRow_shape (h.each i (List.mem_of_getElem? hi)).1
        exact ⟨a, _, c, e⟩
      have hst := sans_take is s k i hi
      have Hst : Hid _ := hst
      obtain ⟨nm, v, bs⟩ := i
      simp only at hv q0' q1'
      subst hv
      have hB' := hB.size
      clear hst q0 q1 hcell
      cases hb1 : (nm.toList == s.toList) with
      | true =>
        go_wp2
        have h1 := Hst.out
        simp only [hb1, if_true, List.append_nil] at h1
        refine ⟨⟨k + 1, c', m, ad', by omega, by simp, by simp, ?_, ?_, hB.alloc hB.size _⟩, by simp [intOf]; omega⟩
        · show _ = _
          rw [h1]; exact HM.out
        · show World.ownsRow _ _ _ _ _ _ _
          rw [h1]; exact HO.out.alloc _
      | false =>
        have hown2 := (HO.out.alloc (.cells #[.string nm, .slice va vn vc] 51)).alloc (.cells #[.string nm, .slice va vn vc] 51)
        have hgn : ((wr.alloc (.cells #[.string nm, .slice va vn vc] 51)).alloc (.cells #[.string nm, .slice va vn vc] 51)).heap[wr.heap.size + 1]? = some (.cells #[.string nm, .slice va vn vc] 51 (0, 0)) := by
          have := heap_alloc_new (wr.alloc (.cells #[.string nm, .slice va vn vc] 51)) (.cells #[.string nm, .slice va vn vc] 51)
          rw [World.size_alloc] at this
          exact this
        have Hgn : Hid _ := hgn
        have Hown : Hid _ := hown2
        clear hgn hown2
        go_wp2_with (at_builtin; refine wpList_push_it ⟨nm, .slice va vn vc, bs⟩ rfl _ _ rfl w.heap.size m (.slice ad' m c') _ rfl (wr.heap.size + 1) rfl Hgn.out ⟨va, vn, vc, rfl⟩ Hown.out (by omega) (by simp; omega) ?_; intro a2 c2 w2 ho2 hg2 hat2)
        have h1 := Hst.out
        simp only [hb1, Bool.false_eq_true, if_false] at h1
        refine ⟨⟨k + 1, c2, m + 1, a2, by omega, by simp, by simp, ?_, ?_, ?_⟩, by simp [intOf]; omega⟩
        · show _ = _
          rw [h1, List.length_append, ← HM.out]; rfl
        · show World.ownsRow _ _ _ _ _ _ _
          rw [h1, flat2_snoc]; exact ho2
        · exact ((hB.alloc hB.size _).alloc (by simp; omega) _).grown hg2 (by simp; omega) (fun j hj => (HO.out.lt j hj).1)
    · have i3 : ¬ (k : Int) < (is.length : Int) := by omega
      obtain rfl : k = is.length := by omega
      have c0' : wr.cell? ⟨p, 0, none⟩ = some (.slice ad is.length c) := by rw [hB.cell (h.lt p h.fp)]; exact c0
      have f0' : wr.frozen? ⟨p, 0, none⟩ = false := by rw [hB.frozen (h.lt p h.fp)]; exact f0
      rw [List.take_length] at HM HO
      have hM := HM.out
      have hrow : wr.ownsRow 0 51 2 (.slice ad' m c') (sans is s).length (flat2 (sans is s)) := by rw [← hM]; exact row_zero HO.out
      have hR := h.below hB
      have hnew : ∀ g, (Value.slice ad' m c').ownBlock = some g → w.heap.size ≤ g ∧ g < wr.heap.size := fun g hg => HO.out.lt g hg
      have hend : RefAt (wr.setCell ⟨p, 0, none⟩ (.slice ad' m c')) p (.slice ad' m c') (sans is s) wr0 left (grow Fp w wr) := by
        refine hR.refile (fun k hk => .inl hk) ?_ hrow ?_ ?_ ?_
        · rintro k (hk | hk)
          · exact Nat.lt_of_lt_of_le (h.lt k hk) hB.size
          · exact hk.2
        · intro i hi
          have hi' := (List.mem_filter.1 hi).1
          refine ⟨(hR.each i hi').1, fun g hg => ?_⟩
          have := (h.each i hi').2 g hg
          exact ⟨.inl this.1, this.2.1, fun e => by have h1 := (hnew g e).1; have h2 := h.lt g this.1; omega⟩
        · exact h.apart.filter _
        · intro g hg
          have := hnew g hg
          exact ⟨.inr this, fun e => by have := h.lt p h.fp; omega⟩
      have HE : Hid _ := hend
      have HT : Hid (Turn Fp w (wr.setCell ⟨p, 0, none⟩ (.slice ad' m c'))) := (Turn.of_below Fp hB).trans (turn_setCell wr p 0 _) (fun i _ hi => by subst hi; exact h.fp)
      have hlt := h.lt
      clear hend hR hrow hnew hM HM HO hcell h
      go_wp2
      go_end0
      refine ⟨rfl, ⟨_, HE.out.wide (fun k hk => hk.imp id (fun h => ⟨h.1, by simpa [World.setCell] using h.2⟩)) (fun k hk => hk.elim (fun h => Nat.lt_of_lt_of_le (hlt k h) HT.out.size) (fun h => h.2))⟩, HT.out⟩

end Go.Proofs.YtcbmofapnjdmgaaDoor

/- The walk of Names: the names of all files, rising. -/
namespace Go.Proofs.YtcbmofapnjdmgaaDoor
open Go.RowKit Go.Maps

/-- these are the names of the disk's files, rising -/
def DG.Lists (S : DG) (ns : List (List UInt8)) : Prop := ∃ ks : List (List UInt8), ks.Nodup ∧ (∀ x, x ∈ ks ↔ (S.f x).isSome = true) ∧ ks.length = S.n ∧ (∀ x ∈ ks, x.length ≤ maxLen) ∧ ns = ks.mergeSort leB

theorem DG.Lists.same {S T : DG} {ns ms : List (List UInt8)} (h : S.Lists ns) (k : T.Lists ms) (e : ∀ x, (S.f x).isSome = (T.f x).isSome) : ns = ms := by
  obtain ⟨ks, n1, m1, _, _, rfl⟩ := h
  obtain ⟨js, n2, m2, _, _, rfl⟩ := k
  exact mergeSort_of_perm ((List.perm_ext_iff_of_nodup n1 n2).2 fun x => by rw [m1, m2, e])
theorem DG.Lists.mem {S : DG} {ns : List (List UInt8)} (h : S.Lists ns) (x : List UInt8) (hx : x ∈ ns) : (S.f x).isSome = true ∧ x.length ≤ maxLen := by
  obtain ⟨ks, n1, m1, _, hl, rfl⟩ := h
  have : x ∈ ks := (List.mergeSort_perm ks leB).mem_iff.1 hx
  exact ⟨(m1 x).1 this, hl x this⟩
theorem DG.Lists.len {S : DG} {ns : List (List UInt8)} (h : S.Lists ns) : ns.length = S.n := by
  obtain ⟨ks, _, _, hl, _, rfl⟩ := h
  rw [List.length_mergeSort, hl]

theorem ownsRow_strs {w : World} {B n : Nat} {v : Value} {xs : List Value} (h : w.ownsRow B 9 1 v n xs) : ∃ ad c, v = .slice ad n c ∧ n ≤ c ∧ (ad = none → n = 0) ∧ ∀ i u, xs[i]? = some u → ∃ b, ad = some ⟨b, 0, none⟩ ∧ B ≤ b ∧ b < w.heap.size ∧ w.cell? ⟨b, i, none⟩ = some u := by
  have hl := h.1
  rcases h.2 with ⟨rfl, rfl⟩ | ⟨g, cap, cur, rfl, hb, _, hc, _⟩
  · refine ⟨none, 0, rfl, Nat.le_refl _, fun _ => rfl, fun i u hu => ?_⟩
    have := (List.getElem?_eq_some_iff.1 hu).1
    omega
  · refine ⟨_, _, rfl, hc, (fun h => by cases h), fun i u hu => ⟨g, rfl, hb, (h.lt g rfl).2, ?_⟩⟩
    have := h.cells (g := g) rfl i u hu
    rw [Addr.add_lit, Nat.zero_add] at this
    exact this

set_option maxHeartbeats 1000000 in
theorem names_any (p : Nat) (S : DG) (Fp : Nat → Prop) (w : World) (hd : IsDisk w p S Fp) (hn : S.n ≤ 1000000) :
    Calls Tryd.prog 16 #[.pointer (some ⟨p, 0, none⟩)] w fun e w' => ∃ ns a c, e = .returned (.slice a ns.length c) ∧ S.Lists ns ∧ w'.ownsRow w.heap.size 9 1 (.slice a ns.length c) ns.length (ns.map encStr) ∧ Below w.heap.size w w' := by
  obtain ⟨b, M, hd⟩ := hd
  have c0 := hd.c0
  have hK := callsIn_wide.1 (Tryd.maps_Keys_36 (some b) w)
  have hS := callsIn_wide.1 (Tryd.slices_Sorted_keys_35_36 b (size M) M rv w hd.own (by rw [hd.sz]; unfold maxLen; omega) (by rw [hd.sz]; omega))
  have hND := strKeys_nodup hd.own
  have hlen := strKeys_length hd.own
  have hle := strKeys_le hd.own Tryd.underlying9
  have hhas := hd.has
  have hsz := hd.sz
  clear hd
  go_enter Tryd.func16, Tryd.ntmps16
  go_wp2_with fail
  refine hK.mono ?_
  rintro e w1 ⟨rfl, rfl⟩
  go_wp2_with fail
  refine hS.mono ?_
  rintro e w2 ⟨v, ss, rfl, hperm, hrow, _, hB⟩
  go_wp2
  go_ret
  have hll : ss.length = (ss.mergeSort leB).length := by rw [List.length_mergeSort]
  have hrow' : w2.ownsRow (w.alloc (.cells #[.map (some b)] 43)).heap.size 9 1 v (ss.mergeSort leB).length ((ss.mergeSort leB).map encStr) := by rw [← hll]; exact hrow
  obtain ⟨a, c, rfl, _⟩ := ownsRow_strs hrow'
  refine ⟨ss.mergeSort leB, a, c, rfl, ⟨ss, hperm.nodup_iff.2 hND.1, fun x => ?_, ?_, fun x hx => hle x (hperm.mem_iff.1 hx), rfl⟩, ?_, ?_⟩
  · rw [hperm.mem_iff, hND.2, hhas]
  · rw [hperm.length_eq, hlen, hsz]
  · refine ⟨hrow'.1, ?_⟩
    rcases hrow'.2 with h0 | ⟨g, cap, cur, e, hb, h2⟩
    · exact .inl h0
    · exact .inr ⟨g, cap, cur, e, by simp at hb; omega, h2⟩
  · exact ((Below.refl _ w).alloc (Nat.le_refl _) _).trans (hB.mono (by simp))

end Go.Proofs.YtcbmofapnjdmgaaDoor
