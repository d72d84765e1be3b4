import Derived.Test.YtncagdfbgpdhfaaGreatP35
import Derived.Test.YtncagdfbgpdhfaaGreatP40
import Derived.Test.YtncagdfbgpdhfaaGreatP39
import Derived.Test.YtncagdfbgpdhfaaGreatP44
import Derived.Test.YtncagdfbgpdhfaaGreatP43
import Derived.Test.YtncagdfbgpdhfaaGreatP41
/- The history by which the laws of layer 11 see that the layer does anything: four commits. -/
namespace Go.Proofs.YtncagdfbgpdhfaaGreat
open Go.RowKit

theorem obG_dec {ids : List Int} (hr : ∀ i ∈ ids, i ≠ 0 ∧ 0 ≤ i ∧ i ≤ 18446744073709551615) (e0 : Int) (he : e0 ≠ 0 ∧ 0 ≤ e0 ∧ e0 ≤ 18446744073709551615) (b : BornD) (hd : -9223372036854775808 ≤ b.date ∧ b.date ≤ 9223372036854775807) : decG (obB (obG e0 ids b)) = some (obG e0 ids b) := by
  have h0 := obG_err hr e0 he.1 b
  have h := parsG_ok hr b
  have ok : ObOk (obG e0 ids b) := by
    unfold obG
    split
    · exact trivial
    · unfold comG
      refine ⟨?_, fun x hx => ?_, ?_, Nat.zero_le 64, ?_, Nat.zero_le 1024⟩
      · show 0 ≤ (if b.bare = true then 12345 else e0) ∧ _
        split <;> constructor <;> omega
      · have := h.1 x hx; omega
      · have := h.2; show (parsG ids b).length < _; omega
      · show -9223372036854775808 ≤ b.date ∧ b.date < _; omega
  have := decR_obB (obG e0 ids b) ok []
  rw [List.append_nil] at this
  unfold decG
  rw [this]
  generalize obG e0 ids b = o at *
  cases o <;> simp [h0]
/-- a store that has an object keeps it -/
theorem putG_find {os os' : List Ob} {o : Ob} (hp : Pure os) (hd : decG (obB o) = some o) (h : putG os o = some os') : findO os' (oid o) = some o ∧ (∀ i p, findO os i = some p → findO os' i = some p) ∧ Pure os' := by
  unfold putG at h
  cases hf : findO os (oid o) with
  | none =>
    rw [hf] at h
    simp only [Option.some.injEq] at h
    subst h
    refine ⟨by rw [findO_snoc os o _ hf, if_pos rfl], fun i p hi => ?_, hp.snoc hd hf⟩
    rw [findO_snoc os o _ hf]
    by_cases e : i = oid o
    · rw [e, hf] at hi; cases hi
    · rw [if_neg e]; exact hi
  | some p =>
    rw [hf] at h
    simp only at h
    split at h
    · rename_i hpo
      cases h
      have h1 := hp.1 p (findO_mem hf).1
      rw [hpo, hd] at h1
      cases h1
      exact ⟨hf, fun _ _ h => h, hp⟩
    · cases h
end Go.Proofs.YtncagdfbgpdhfaaGreat

/- The history by which the laws of layer 12 see that the layer does anything: three commits. -/
namespace Go.Proofs.YtncagdfbgpdhfaaGreat
open Go.RowKit

structure BP12 (st : St12) : Prop where
  pure : Pure st.os
  rng : ∀ i ∈ st.ids, i ≠ 0 ∧ 0 ≤ i ∧ i ≤ 18446744073709551615
theorem obG_com {b : BornD} (h1 : b.blob = false) (h2 : b.bare = false) (e0 : Int) (ids : List Int) : obG e0 ids b = comC e0 ids b := by
  unfold obG comG comC
  rw [if_neg (by rw [h1]; simp), if_neg (by rw [h2]; simp)]
theorem step_out (os' : List Ob) (oi : Int) (ids : List Int) (nodes : List (Int × List Int × Bool)) (pp : List Int) (bl : Bool) (st' : St12) (h : ((some os').map (fun os => (os, oi))).bind (fun x : List Ob × Int => if x.2 = 54321 then none else some (⟨x.1, ids ++ [x.2], if hasN nodes x.2 then nodes else nodes ++ [(x.2, pp, bl)]⟩ : St12)) = some st') : st'.os = os' ∧ st'.ids = ids ++ [oi] := by
  rw [Option.map_some, Option.bind_some] at h
  by_cases hoi : oi = 54321
  · simp only [hoi, if_true] at h
    cases h
  · simp only [hoi, if_false, Option.some.injEq] at h
    constructor
    · rw [← h]
    · rw [← h]
theorem stepP_ok {e0 : Int} (he : e0 ≠ 0 ∧ 0 ≤ e0 ∧ e0 ≤ 18446744073709551615) {k : Nat} {st st' : St12} {b : BornD} (h1 : b.blob = false) (h2 : b.bare = false) (hd : -9223372036854775808 ≤ b.date ∧ b.date ≤ 9223372036854775807) (hp : BP12 st) (h : stepP e0 k st b = some st') :
    BP12 st' ∧ st'.ids = st.ids ++ [oid (comC e0 st.ids b)] ∧ findO st'.os (oid (comC e0 st.ids b)) = some (comC e0 st.ids b) ∧ ∀ i p, findO st.os i = some p → findO st'.os i = some p := by
  have hdec := obG_dec hp.rng e0 he b hd
  rw [obG_com h1 h2] at hdec
  have hor := oid_rng (comC e0 st.ids b)
  unfold stepP finP at h
  rw [if_neg (by rw [h1]; simp)] at h
  generalize comC e0 st.ids b = o at *
  cases hpg : putG st.os o with
  | none => rw [hpg] at h; simp at h
  | some os' =>
    obtain ⟨k1, k2, k3⟩ := putG_find hp.pure hdec hpg
    rw [hpg] at h
    clear hdec hpg
    obtain ⟨q1, q2⟩ := step_out os' (oid o) st.ids st.nodes (parsG st.ids b) b.blob st' h
    clear h
    generalize oid o = oi at *
    rw [q1, q2]
    refine ⟨⟨by rw [q1]; exact k3, fun i hi => ?_⟩, rfl, k1, k2⟩
    rw [q2] at hi
    rcases List.mem_append.1 hi with hi | hi
    · exact hp.rng i hi
    · rw [List.mem_singleton] at hi
      rw [hi]
      exact hor
/-- the three commits -/
def wake12L : List BornD := [⟨[], 0, false, false, false⟩, ⟨[0], 0, false, false, false⟩, ⟨[1], 1, false, false, false⟩]
theorem wake12_facts {st : St12} (h : bornQ wake12L = some st) : ∃ a0 a1 a2, st.ids = [a0, a1, a2] ∧ (a0 ≠ a1 ∧ a0 ≠ a2 ∧ a1 ≠ a2) ∧ parsO st.os a0 = some [] ∧ parsO st.os a1 = some [a0] ∧ parsO st.os a2 = some [a0] ∧ 1 ≤ st.os.length := by
  have he : emptyI ≠ 0 ∧ 0 ≤ emptyI ∧ emptyI ≤ 18446744073709551615 := oid_rng (.tree [])
  unfold bornQ at h
  have hp0 : BP12 ⟨[.tree []], [], []⟩ := ⟨⟨fun o ho => by
    simp at ho
    subst ho
    exact (gob_ok (empty_ob default).1 empty_err).2, by simp [oids]⟩, fun i hi => by cases hi⟩
  generalize emptyI = e0 at *
  have hl : wake12L.take 20 = wake12L := rfl
  rw [hl] at h
  unfold wake12L at h
  simp only [bornP] at h
  obtain ⟨s1, h1, h⟩ := Option.bind_eq_some_iff.1 h
  obtain ⟨s2, h2, h⟩ := Option.bind_eq_some_iff.1 h
  obtain ⟨s3, h3, h⟩ := Option.bind_eq_some_iff.1 h
  cases h
  obtain ⟨p1, i1, f1, m1⟩ := stepP_ok he rfl rfl (by simp) hp0 h1
  obtain ⟨p2, i2, f2, m2⟩ := stepP_ok he rfl rfl (by simp) p1 h2
  obtain ⟨p3, i3, f3, m3⟩ := stepP_ok he rfl rfl (by simp) p2 h3
  have o0 : comC e0 [] ⟨[], 0, false, false, false⟩ = .com (e0, [], ⟨#[]⟩, 0, ⟨#[]⟩) := rfl
  simp only [o0] at i1 f1
  obtain ⟨a0, ha0⟩ : ∃ a0, a0 = oid (.com (e0, [], ⟨#[]⟩, 0, ⟨#[]⟩)) := ⟨_, rfl⟩
  rw [← ha0] at i1 f1
  simp only [List.nil_append] at i1
  rw [i1] at i2 f2
  have o1 : comC e0 [a0] ⟨[0], 0, false, false, false⟩ = .com (e0, [a0], ⟨#[]⟩, 0, ⟨#[]⟩) := rfl
  rw [o1] at i2 f2
  obtain ⟨a1, ha1⟩ : ∃ a1, a1 = oid (.com (e0, [a0], ⟨#[]⟩, 0, ⟨#[]⟩)) := ⟨_, rfl⟩
  rw [← ha1] at i2 f2
  simp only [List.cons_append, List.nil_append] at i2
  rw [i2] at i3 f3
  have o2 : comC e0 [a0, a1] ⟨[1], 1, false, false, false⟩ = .com (e0, [a0], ⟨#[]⟩, 1, ⟨#[]⟩) := rfl
  rw [o2] at i3 f3
  obtain ⟨a2, ha2⟩ : ∃ a2, a2 = oid (.com (e0, [a0], ⟨#[]⟩, 1, ⟨#[]⟩)) := ⟨_, rfl⟩
  rw [← ha2] at i3 f3
  simp only [List.cons_append, List.nil_append] at i3
  have g0 := m3 _ _ (m2 _ _ f1)
  have g1 := m3 _ _ f2
  clear ha0 ha1 ha2
  refine ⟨a0, a1, a2, i3, ⟨fun e => ?_, fun e => ?_, fun e => ?_⟩, by simp [parsO, g0, parO], by simp [parsO, g1, parO], by simp [parsO, f3, parO], ?_⟩
  · rw [e, g1] at g0; simp at g0
  · rw [e, f3] at g0; simp at g0
  · rw [e, f3] at g1; simp at g1
  · cases hs : st.os with
    | nil => rw [hs] at g0; simp [findO] at g0
    | cons _ _ => simp
theorem wake12_order {os : List Ob} {a0 a1 a2 : Int} (hd : a0 ≠ a1 ∧ a0 ≠ a2 ∧ a1 ≠ a2) (p0 : parsO os a0 = some []) (p1 : parsO os a1 = some [a0]) (p2 : parsO os a2 = some [a0]) (hl : 1 ≤ os.length) :
    (∃ gs, ordG os [a0, a1, a2] GS.none = .ok gs ∧ redP os gs [a0, a1, a2] = [a1, a2]) ∧ (∃ gs, ordG os [a1, a2] GS.none = .ok gs ∧ basP os gs a1 a2 = [a0]) := by
  obtain ⟨f, hf⟩ : ∃ f, os.length = f + 1 := ⟨os.length - 1, by omega⟩
  obtain ⟨d1, d2, d3⟩ := hd
  have e1 := Ne.symm d1
  have e2 := Ne.symm d2
  have e3 := Ne.symm d3
  have q0 : psO os a0 = [] := by unfold psO; rw [p0]; rfl
  have q1 : psO os a1 = [a0] := by unfold psO; rw [p1]; rfl
  have q2 : psO os a2 = [a0] := by unfold psO; rw [p2]; rfl
  have ho1 : ∃ gs, ordG os [a0, a1, a2] GS.none = .ok gs ∧ gs.ord = [a0, a1, a2] := by
    unfold ordG
    rw [hf]
    simp [goL, visit, GS.none, GS.opn, GS.plc, setG, *]
  have ho2 : ∃ gs, ordG os [a1, a2] GS.none = .ok gs ∧ gs.ord = [a0, a1, a2] := by
    unfold ordG
    rw [hf]
    simp [goL, visit, GS.none, GS.opn, GS.plc, setG, *]
  obtain ⟨g1, h1, h2⟩ := ho1
  obtain ⟨g2, h3, h4⟩ := ho2
  refine ⟨⟨g1, h1, ?_⟩, g2, h3, ?_⟩
  · unfold redP
    rw [h2]
    have t5 : Nat.testBit 5 2 = true := by decide
    have t1 : Nat.testBit 1 2 = false := by decide
    simp [redG, spr, orP, bitsB, listM, setN, *]
  · unfold basP mrkP
    rw [h4]
    simp [spr, orP, bitsB, pairM, setN, *]
end Go.Proofs.YtncagdfbgpdhfaaGreat

/- The three commits of wakes in memory. -/
namespace Go.Proofs.YtncagdfbgpdhfaaGreat
open Go.RowKit Go.Shelf Go.Maps

abbrev WB12 (w : World) : World := ((w.alloc (.cells #[.int .i64 0] 3)).alloc (.cells #[.int .i64 1] 3)).alloc (.cells #[.slice none 0 0, .int .i64 0, .bool false, .bool false, .slice (some ⟨w.heap.size, 0, none⟩) 1 1, .int .i64 0, .bool false, .bool false, .slice (some ⟨w.heap.size + 1, 0, none⟩) 1 1, .int .i64 1, .bool false, .bool false] 71)
theorem wake12_brs (w : World) : Brs12 (WB12 w) (some ⟨w.heap.size + 2, 0, none⟩) 3 wake12L := by
  have h2 := World.alloc_heap_new ((w.alloc (.cells #[.int .i64 0] 3)).alloc (.cells #[.int .i64 1] 3)) (.cells #[.slice none 0 0, .int .i64 0, .bool false, .bool false, .slice (some ⟨w.heap.size, 0, none⟩) 1 1, .int .i64 0, .bool false, .bool false, .slice (some ⟨w.heap.size + 1, 0, none⟩) 1 1, .int .i64 1, .bool false, .bool false] 71)
  have h1 := World.alloc_heap_new (w.alloc (.cells #[.int .i64 0] 3)) (.cells #[.int .i64 1] 3)
  have h0 := World.alloc_heap_new w (.cells #[.int .i64 0] 3)
  simp only [World.size_alloc] at h2 h1
  have k1 : (WB12 w).heap[w.heap.size + 1]? = some (.cells #[.int .i64 1] 3) := by rw [Below.heap_alloc _ _ _ (by simp only [World.size_alloc]; omega)]; exact h1
  have k0 : (WB12 w).heap[w.heap.size]? = some (.cells #[.int .i64 0] 3) := by rw [Below.heap_alloc _ _ _ (by simp only [World.size_alloc]; omega), Below.heap_alloc _ _ _ (by simp only [World.size_alloc]; omega)]; exact h0
  have k3 : (WB12 w).heap[w.heap.size + 2]? = _ := h2
  generalize WB12 w = W at *
  refine ⟨rfl, fun _ => ⟨w.heap.size + 2, 0, rfl, fun j b hj => ?_⟩⟩
  match j, hj with
  | 0, hj =>
    simp [wake12L] at hj
    subst hj
    exact ⟨none, 0, 0, by simp [World.cell?, k3], by simp [World.cell?, k3], by simp [World.cell?, k3], by simp [World.cell?, k3], ⟨rfl, fun h => absurd h (by omega)⟩, by omega, by simp, by simp⟩
  | 1, hj =>
    simp [wake12L] at hj
    subst hj
    refine ⟨some ⟨w.heap.size, 0, none⟩, 1, 1, by simp [World.cell?, k3], by simp [World.cell?, k3], by simp [World.cell?, k3], by simp [World.cell?, k3], ⟨rfl, fun _ => ⟨_, 0, rfl, fun i z hi => ?_⟩⟩, by omega, by simp, by simp⟩
    match i, hi with
    | 0, hi => simp at hi; subst hi; simp [World.cell?, k0]
  | 2, hj =>
    simp [wake12L] at hj
    subst hj
    refine ⟨some ⟨w.heap.size + 1, 0, none⟩, 1, 1, by simp [World.cell?, k3], by simp [World.cell?, k3], by simp [World.cell?, k3], by simp [World.cell?, k3], ⟨rfl, fun _ => ⟨_, 0, rfl, fun i z hi => ?_⟩⟩, by omega, by simp, by simp⟩
    match i, hi with
    | 0, hi => simp at hi; subst hi; simp [World.cell?, k1]
  | j + 3, hj => simp [wake12L] at hj
theorem WB12_below (w : World) : Below w.heap.size w (WB12 w) := (((Below.refl _ w).alloc (Nat.le_refl _) _).alloc (by simp) _).alloc (by simp; omega) _
set_option maxRecDepth 100000 in
set_option maxHeartbeats 4000000 in
/-- the way where no history is made -/
theorem wakes12_none (w : World) (hG : bornQ wake12L = none) : Calls Tryz.prog 9 #[] w fun e w' => e = .returned (.bool true) ∧ Below w.heap.size w w' := by
  have hbo := born12_any (WB12 w) (some ⟨w.heap.size + 2, 0, none⟩) 3 3 wake12L (wake12_brs w) (by omega)
  have HB0 : Hid (Below w.heap.size w (WB12 w)) := WB12_below w
  rw [hG] at hbo
  go_enter Tryz.func9, Tryz.ntmps9
  go_wp2_with (go_at_call 10; refine hbo.mono ?_; clear hbo; rintro e w5 ⟨hB5, he⟩; have he' : e = .returned (.tuple #[.pointer none, .bool false]) := he; subst he'; have HB5 : Hid (Below w.heap.size w w5) := HB0.out.trans (hB5.mono HB0.out.size); clear he hB5)
  go_ret
  exact ⟨rfl, HB5.out⟩
end Go.Proofs.YtncagdfbgpdhfaaGreat

/- Law 12's same and has (mksome.py out of GNone and GRef). -/
namespace Go.Proofs.YtncagdfbgpdhfaaGreat
open Go.RowKit Go.Maps

set_option maxRecDepth 20000 in
theorem same12_any (w : World) (a b : Option Addr) (n m c d : Nat) (l k : List Int) (ha : Ids w a n l) (hb : Ids w b m k) (hn : n ≤ 1000000000000) (hm : m ≤ 1000000000000) :
    Calls Tryz.prog 15 #[.slice a n c, .slice b m d] w fun e w' => e = .returned (.bool (l == k)) ∧ Below w.heap.size w w' := by
  have hll := ha.1
  have hlk := hb.1
  by_cases hnm : n = m
  · subst hnm
    obtain ⟨E, hE⟩ : ∃ E, E = (l == k) := ⟨_, rfl⟩
    rw [← hE]
    go_enter Tryz.func15, Tryz.ntmps15
    go_wp2
    go_loopw [13] (fun v wr => ∃ j : Nat, j ≤ n ∧ v = .int .i64 (j : Int) ∧ Hid (E = (l.drop j == k.drop j) ∧ Below w.heap.size w wr)) (fun v _ => n - (intOf v).toNat)
    case atStart => exact ⟨0, Nat.zero_le _, rfl, hE, Below.refl _ _⟩
    case round =>
      clear hE
      obtain ⟨j, hj, rfl, H⟩ := hrel
      by_cases hlt : j < n
      · obtain ⟨x, hx⟩ : ∃ x, l[j]? = some x := ⟨_, List.getElem?_eq_getElem (by omega)⟩
        obtain ⟨y, hy⟩ : ∃ y, k[j]? = some y := ⟨_, List.getElem?_eq_getElem (by omega)⟩
        have hst := H.out.1.trans (lsame_drop l k j x y hx hy)
        have hBw := H.out.2
        have hax := ha.below hBw
        have hbx := hb.below hBw
        obtain ⟨b1, o1, rfl, hc1⟩ := hax.2 (by omega)
        obtain ⟨b2, o2, rfl, hc2⟩ := hbx.2 (by omega)
        have q1 := hc1 j x hx
        have q2 := hc2 j y hy
        have i2 : (j : Int) < (n : Int) := by omega
        have i3 : ¬ n ≤ j := by omega
        have HB : Hid (∀ q, Below w.heap.size w (wr.drewN q)) := fun q => hBw.trans ⟨rfl, rfl, rfl, Nat.le_refl _, fun _ _ => rfl⟩
        have p1 : ∀ q, (wr.drewN q).cell? ⟨b1, o1 + j, none⟩ = some (.int .u64 x) := fun _ => q1
        have p2 : ∀ q, (wr.drewN q).cell? ⟨b2, o2 + j, none⟩ = some (.int .u64 y) := fun _ => q2
        clear hc1 hc2 hx hy H hBw hax hbx
        by_cases hxy : x = y
        · subst hxy
          have HE : Hid (E = (l.drop (j + 1) == k.drop (j + 1))) := by rw [hst, beq_self_eq_true, Bool.true_and]; exact rfl
          clear hst
          go_wp2
          go_quiet (fail)
          go_wp2
          go_roundw
          case rel => exact ⟨j + 1, by omega, by simp, HE.out, HB.out _⟩
          case measure => simp [intOf]; omega
        · have hxy' : (x == y) = false := beq_eq_false_iff_ne.2 hxy
          have hE0 : E = false := by rw [hst, hxy']; rfl
          clear hst
          subst hE0
          go_wp2
          go_quiet (fail)
          go_wp2
          go_ret
          exact ⟨rfl, HB.out _⟩
      · obtain rfl : j = n := by omega
        have i2 : ¬ (j : Int) < (j : Int) := by omega
        have e0 : E = true := by rw [H.out.1, List.drop_of_length_le (by omega), List.drop_of_length_le (by omega)]; rfl
        have HB := H.out.2
        clear H
        subst e0
        go_wp2
        go_ret
        exact ⟨rfl, HB⟩
  · have hne : (l == k) = false := beq_eq_false_iff_ne.2 (fun e => hnm (by rw [← hll, ← hlk, e]))
    have i1 : ¬ (n : Int) = (m : Int) := by omega
    rw [hne]
    clear hne
    go_enter Tryz.func15, Tryz.ntmps15
    go_wp2
    go_ret
    exact ⟨rfl, Below.refl _ _⟩
end Go.Proofs.YtncagdfbgpdhfaaGreat
