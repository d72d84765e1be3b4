import Derived.Test.YtcbmofapnjdmgaaDoorDD09
import Derived.Maps.RangeWalk
import Derived.Sort.KeysCollected
/- The walks of Cut, Mend, Copy, and of the comparison of bytes. -/
namespace Go.Proofs.YtcbmofapnjdmgaaDoor
open Go.RowKit Go.Maps

theorem turn_fields {w : World} {p : Nat} {S : DG} {Fp : Nat → Prop} (hd : IsDisk w p S Fp) (v u : Value) : Turn Fp w ((w.setCell ⟨p, 2, none⟩ v).setCell ⟨p, 3, none⟩ u) :=
  ((turn_setCell w p 2 v).trans (turn_setCell _ p 3 u) (fun _ _ h => h)).wide (fun k hk => by subst hk; exact hd.fp)

theorem DiskAt.setCut {w : World} {p b : Nat} {M : DataW Value} {S : DG} {Fp : Nat → Prop} (h : DiskAt w p b M S Fp) (c : Bool) (n : Nat) (hn : n ≤ 9223372036854775807) :
    DiskAt ((w.setCell ⟨p, 2, none⟩ (.bool c)).setCell ⟨p, 3, none⟩ (.int .i64 n)) p b M { S with cut := c, left := n } Fp := by
  have h1 := h.field 2 (.bool c) (by decide) { S with cut := c } rfl rfl h.hl (by rw [World.cell?_setCell_other _ _ _ _ (by simp)]; exact h.c1) (World.cell?_setCell_same _ _ _ h.c2) (by rw [World.cell?_setCell_other _ _ _ _ (by simp)]; exact h.c3)
  exact h1.field 3 (.int .i64 n) (by decide) { S with cut := c, left := n } rfl rfl hn (by rw [World.cell?_setCell_other _ _ _ _ (by simp)]; exact h1.c1) (by rw [World.cell?_setCell_other _ _ _ _ (by simp)]; exact h1.c2) (World.cell?_setCell_same _ _ _ h1.c3)

set_option maxHeartbeats 1000000 in
theorem cut_any (p : Nat) (S : DG) (Fp : Nat → Prop) (w : World) (n : Nat) (hd : IsDisk w p S Fp) (hn : n ≤ 9223372036854775807) :
    Calls Tryd.prog 29 #[.pointer (some ⟨p, 0, none⟩), .int .i64 n] w fun e w' => e = .returned (.int .i64 0) ∧ IsDisk w' p { S with cut := true, left := n } Fp ∧ Turn Fp w w' := by
  have hT := turn_fields hd (.bool true) (.int .i64 n)
  obtain ⟨b, M, hd⟩ := hd
  have h2 := hd.setCut true n hn
  have c2 := hd.c2
  have c3 := hd.c3
  have f2 := hd.f2
  have f3 := hd.f3
  have i0 : ¬ (n : Int) < 0 := by omega
  clear hd
  go_enter Tryd.func29, Tryd.ntmps29
  go_wp2
  go_ret
  exact ⟨rfl, ⟨b, M, h2⟩, hT⟩

theorem cut_no (p : Nat) (w : World) (n : Int) (hn : n < 0) :
    Calls Tryd.prog 29 #[.pointer (some ⟨p, 0, none⟩), .int .i64 n] w fun e w' => e = .returned (.int .i64 2) ∧ w' = w := by
  go_enter Tryd.func29, Tryd.ntmps29
  go_wp2
  go_ret
  exact ⟨rfl, rfl⟩

set_option maxHeartbeats 1000000 in
theorem mend_any (p : Nat) (S : DG) (Fp : Nat → Prop) (w : World) (hd : IsDisk w p S Fp) :
    Calls Tryd.prog 30 #[.pointer (some ⟨p, 0, none⟩)] w fun e w' => e = .returned (.int .i64 0) ∧ IsDisk w' p { S with cut := false, left := 0 } Fp ∧ Turn Fp w w' := by
  have hT := turn_fields hd (.bool false) (.int .i64 0)
  obtain ⟨b, M, hd⟩ := hd
  have h2 := hd.setCut false 0 (by omega)
  have c2 := hd.c2
  have c3 := hd.c3
  have f2 := hd.f2
  have f3 := hd.f3
  clear hd
  go_enter Tryd.func30, Tryd.ntmps30
  go_wp2
  go_ret
  exact ⟨rfl, ⟨b, M, h2⟩, hT⟩

/-- the names of a map's files, each once -/
theorem strKeys_nodup {w : World} {b n : Nat} {M : DataW Value} (h : w.ownsMap Tryd.prog 9 rv b n M) : (strKeys M).Nodup ∧ ∀ x, x ∈ strKeys M ↔ has M (.string x) = true := by
  obtain ⟨es, hD, hpw, _⟩ := h.entries keyed
  obtain ⟨es', hD', hko⟩ := h.keysOf
  obtain rfl : es = es' := by rw [hD] at hD'; simpa using hD'
  subst hD
  have hk : ∀ q ∈ es, ∃ x, q.1 = .string x := fun q hq => by
    obtain ⟨v, hv⟩ := hko q hq
    obtain ⟨x, _, hx, _⟩ := Maps.keyOf_str Tryd.underlying9 hv
    exact ⟨x, hx⟩
  constructor
  · show (es.map fun q => strOf q.1).Nodup
    refine List.pairwise_map.2 (hpw.imp_of_mem fun {q r} hq hr hne e => hne ?_)
    obtain ⟨x, hx⟩ := hk q hq
    obtain ⟨y, hy⟩ := hk r hr
    rw [hx, hy] at e ⊢
    exact congrArg _ e
  · intro x
    rw [has_eq, List.any_eq_true]
    show x ∈ es.map (fun q => strOf q.1) ↔ _
    rw [List.mem_map]
    constructor
    · rintro ⟨q, hq, rfl⟩
      obtain ⟨y, hy⟩ := hk q hq
      exact ⟨q, hq, by rw [hy]; simp [Lit.sameKey, strOf]⟩
    · rintro ⟨q, hq, hs⟩
      obtain ⟨y, hy⟩ := hk q hq
      rw [hy] at hs
      exact ⟨q, hq, by rw [hy]; simpa [Lit.sameKey, strOf] using hs⟩
theorem strKeys_length {w : World} {b n : Nat} {M : DataW Value} (h : w.ownsMap Tryd.prog 9 rv b n M) : (strKeys M).length = size M := by
  obtain ⟨es, rfl⟩ := h.isMap
  simp [strKeys, size]
/-- two maps of files with the same names -/
theorem strKeys_same {w w' : World} {b b' n n' : Nat} {M M' : DataW Value} (h : w.ownsMap Tryd.prog 9 rv b n M) (h' : w'.ownsMap Tryd.prog 9 rv b' n' M') (hs : ∀ x, has M (.string x) = has M' (.string x)) : (strKeys M).Perm (strKeys M') := by
  obtain ⟨n1, m1⟩ := strKeys_nodup h
  obtain ⟨n2, m2⟩ := strKeys_nodup h'
  exact (List.perm_ext_iff_of_nodup n1 n2).2 fun x => by rw [m1, m2, hs]

theorem ranges_move {w w' : World} {b r n cnt : Nat} {M : DataW Value} {left : Lit → Bool} (h : w.ranges Tryd.prog 9 rv b r n M left cnt) (hb : w'.heap[b]? = w.heap[b]?) (hr : w'.heap[r]? = w.heap[r]?) : w'.ranges Tryd.prog 9 rv b r n M left cnt := by
  obtain ⟨es, clock, since, seen, c0, h1, F, h2, h3, h4, rest⟩ := h
  exact ⟨es, clock, since, seen, c0, hb.trans h1, F, h2, h3, hr.trans h4, rest⟩

theorem ownsRow_zero {w : World} {B n : Nat} {v : Value} {xs : List Value} (h : w.ownsRow B 5 1 v n xs) : w.ownsRow 0 5 1 v n xs := by
  refine ⟨h.1, ?_⟩
  rcases h.2 with h0 | ⟨g, cap, cur, rfl, _, h2⟩
  · exact .inl h0
  · exact .inr ⟨g, cap, cur, rfl, Nat.zero_le _, h2⟩

/-- a copy of a disk's files -/
def DG.copy (S : DG) : DG := ⟨S.f, S.n, 0, false, 0⟩

set_option maxRecDepth 20000 in
set_option maxHeartbeats 4000000 in
theorem copy_any (p : Nat) (S : DG) (Fp : Nat → Prop) (w : World) (hd : IsDisk w p S Fp) (hbig : ∀ l bs, S.f l = some bs → bs.length ≤ 140737488355328) (hn : S.n < 4611686018427387904) :
    Calls Tryd.prog 8 #[.pointer (some ⟨p, 0, none⟩)] w fun e w' => ∃ q, e = .returned (.pointer (some ⟨q, 0, none⟩)) ∧ IsDisk w' q S.copy (grow (fun _ => False) w w') ∧ Below w.heap.size w w' := by
  obtain ⟨b, M, hd⟩ := hd
  go_enter Tryd.func8, Tryd.ntmps8
  go_wp2_with fail
  refine (new_any w).mono ?_
  rintro e w1 ⟨rfl, hq1, B1⟩
  have hd1 : DiskAt w1 p b M S Fp := hd.kept B1.size (fun k hk => B1.block k (hd.lt k hk))
  have c0 := hd1.c0
  go_wp2_with (at_range; refine wpList_range_own _ rfl _ 43 rfl 9 32 keyed Tryd.underlying43 _ b _ M rfl hd1.own ?_; intro w2 hrg hg2 hs2)
  have hB2 : Below w.heap.size w w2 := B1.grown hg2 B1.size (by simp)
  have hq2 := hq1.turn (Turn.of_grownBy (Fp := fun _ => False) hg2 (by simp)) (fun _ _ => id)
  have hr0 : w.heap.size + 1 < w1.heap.size := hq1.lt _ (.inr rfl)
  obtain ⟨bq, Mq, hq2⟩ := hq2
  have HD : Hid (DiskAt w p b M S Fp) := hd
  clear hg2 hq1 hd1 c0 hd
  go_frame
  go_loopw [4] (fun _ wr => ∃ (left : Lit → Bool) (cnt : Nat) (Sq : DG) (Gp : Nat → Prop) (bq : Nat) (Mq : DataW Value), wr.ranges Tryd.prog 9 rv b w1.heap.size (size M) M left cnt ∧
      Hid (DiskAt wr (w.heap.size + 1) bq Mq Sq Gp) ∧ Hid (∀ k, Gp k → w.heap.size ≤ k ∧ k ≠ w1.heap.size) ∧ Hid (∀ l, Sq.f l = if left (.string l) = true then none else S.f l) ∧ Hid (Sq.wr = 0 ∧ Sq.cut = false ∧ Sq.left = 0) ∧ Hid (Sq.n + cnt ≤ S.n) ∧ Below w.heap.size w wr)
    (fun _ wr => wr.rangeLeft b w1.heap.size)
  case atStart =>
    refine ⟨_, _, _, _, bq, Mq, hrg, hq2, ?_, ?_, ⟨rfl, rfl, rfl⟩, ?_, hB2⟩
    · rintro k (rfl | rfl) <;> omega
    · intro l
      have := HD.out.has l
      simp only
      rw [this]
      cases S.f l <;> rfl
    · show 0 + size M ≤ S.n
      rw [HD.out.sz]; omega
  case round =>
    clear hrg hq2 hB2 hs2 bq Mq
    obtain ⟨left, cnt, Sq, Gp, bq, Mq, hrg, HQ, HG, HF, HZ, HC, hB⟩ := hrel
    have c0 := HQ.out.c0
    go_wp2_with (at_next; refine wpList_next_ranges _ rfl _ rfl 9 keyed rv (fun s : ByteArray => Value.string s) (fun t : Option Addr × Nat × Nat => Value.slice t.1 t.2.1 t.2.2) ?ik ?iv b w1.heap.size _ M left cnt rfl hrg ?_ ?_)
    case ik =>
      intro key kl hk
      obtain ⟨x, hx, _⟩ := Maps.keyOf_str Tryd.underlying9 hk
      exact ⟨⟨x.toArray⟩, hx⟩
    case iv => exact fun v y hv => rv_slice hv
    · intro hc0 hl0
      go_wp2
      go_ret
      refine ⟨_, rfl, ?_, hB⟩
      have hq := HQ.out
      have hown : wr.ownsMap Tryd.prog 9 rv b (size M) M := hrg.owns
      have hf : Sq.f = S.f := by
        funext l
        rw [HF.out l, hl0]
        rfl
      have hperm := strKeys_same hq.own hown (fun x => by rw [hq.has, HD.out.has, hf])
      have hsz : Sq.n = S.n := by
        have := hperm.length_eq
        rw [strKeys_length hq.own, strKeys_length hown, hq.sz, HD.out.sz] at this
        exact this
      have hS : Sq = S.copy := by
        have hz := HZ.out
        cases Sq
        simp only at hf hsz hz
        simp [DG.copy, hf, hsz, hz]
      rw [hS] at hq
      exact ⟨bq, Mq, hq.wide (fun k hk => .inr ⟨(HG.out k hk).1, hq.lt k hk⟩) (fun k hk => hk.elim False.elim (fun h => h.2))⟩
    · intro x ax nx cx kl yd yp w2 cnt2 hkey hlk hv hat hrg2 hlt hg2 hs2 hen
      have hB2 : Below w.heap.size w w2 := hB.grown hg2 hB.size (by intro k hk; cases hk; omega)
      have hq2 : DiskAt w2 (w.heap.size + 1) bq Mq Sq Gp := HQ.out.kept (by omega) (fun k hk => hg2.block k (HQ.out.lt k hk) (by intro e; cases e; exact (HG.out _ hk).2 rfl))
      obtain ⟨y, hy, rfl, hyl⟩ := Maps.keyOf_str Tryd.underlying9 hkey
      have exy : y = x.data.toList := by
        have : x = ⟨y.toArray⟩ := by simpa [encStr] using hy
        rw [this]
      subst exy
      have hxs : x.size ≤ maxLen := by simpa using hyl
      have hyd := rv_inv hv
      subst hyd
      have hhas : has M (.string x.data.toList) = true := has_true_of_atKey hat
      rw [HD.out.has] at hhas
      obtain ⟨bs, hbs⟩ := Option.isSome_iff_exists.1 hhas
      obtain ⟨v0, hv0, hr0', _⟩ := HD.out.row _ _ hbs
      obtain rfl : v0 = .slice ax nx cx := by have := hat nils; rw [hv0] at this; cases this; rfl
      obtain rfl : nx = bs.length := by
        obtain ⟨_, _, e, _⟩ := ownsRow_shape hr0'
        cases e; rfl
      have hby := (Turn.of_below (fun _ => False) (hB2.mono (Nat.le_refl _))).bytes (ownsRow_toBytes hr0').1 (fun _ _ _ => id)
      have hnn : ax = none → bs.length = 0 ∧ cx = 0 := by
        obtain ⟨_, _, e, _, h⟩ := ownsRow_shape hr0'
        cases e; exact h
      have hfree : Sq.f x.data.toList = none := by rw [HF.out, hlk]; rfl
      obtain ⟨vo, hvo, _, hvb⟩ := hq2.value x.data.toList
      have hvn : ∀ g, vo.ownBlock = some g → False := fun g hg => by have := (hvb g hg).2.2.2; rw [hfree] at this; cases this
      have hclone := clone_any ax bs.length cx bs w2.drew ⟨hby.1, hby.2⟩ hnn (hbig _ _ hbs)
      have hput : ∀ a' c' w3, w3.ownsRow w2.drew.heap.size 5 1 (.slice a' bs.length c') bs.length (cellsOf bs) → Below w2.drew.heap.size w2.drew w3 → ∃ w4, (Instr.mapUpdate 43 (.map (some bq)) (.string x) (.slice a' bs.length c')).run Tryd.prog w3 = .ok () w4 ∧ w4.cell? ⟨w.heap.size + 1, 0, none⟩ = some (.map (some bq)) ∧ w3.cell? ⟨w.heap.size + 1, 0, none⟩ = some (.map (some bq)) ∧
          Hid (DiskAt w4 (w.heap.size + 1) bq (Mq.put (.string x.data.toList) (.held (.slice a' bs.length c'))) (Sq.set x.data.toList bs) (grow Gp w2 w4) ∧ Turn Gp w2 w4) := by
        intro a' c' w3 ho hB3
        obtain ⟨w4, hr4, hd4, hT4⟩ := hq2.put (w1 := w3) x hxs vo (.slice a' bs.length c') bs hvo hvb ⟨hB3.os, hB3.tape, hB3.output, hB3.size, fun k hk _ => hB3.block k hk⟩ (ownsRow_zero ho) (hq2.free_new _ _ (fun g hg => (ho.lt g hg).1)) (by have := HC.out; unfold maxLen; omega)
        exact ⟨w4, hr4, hd4.c0, by rw [hB3.cell (hq2.lt _ hq2.fp)]; exact hq2.c0, hd4, hT4⟩
      have c02 := hq2.c0
      have HE : Hid (∀ w4 Mq', DiskAt w4 (w.heap.size + 1) bq Mq' (Sq.set x.data.toList bs) (grow Gp w2 w4) → Turn Gp w2 w4 →
          (∃ left cnt Sq Gp bq Mq, w4.ranges Tryd.prog 9 rv b w1.heap.size (size M) M left cnt ∧ Hid (DiskAt w4 (w.heap.size + 1) bq Mq Sq Gp) ∧ Hid (∀ k, Gp k → w.heap.size ≤ k ∧ k ≠ w1.heap.size) ∧ Hid (∀ l, Sq.f l = if left (.string l) = true then none else S.f l) ∧ Hid (Sq.wr = 0 ∧ Sq.cut = false ∧ Sq.left = 0) ∧ Hid (Sq.n + cnt ≤ S.n) ∧ Below w.heap.size w w4) ∧ w4.rangeLeft b w1.heap.size < wr.rangeLeft b w1.heap.size) := by
        intro w4 Mq' hd4 hT4
        have hblt : b < w.heap.size := HD.out.lt b HD.out.fb
        have hrlt : w1.heap.size < w2.heap.size := hrg2.lt
        have hrg4 := ranges_move hrg2 (hT4.block b (by omega) (fun h => by have := (HG.out _ h).1; omega)) (hT4.block w1.heap.size hrlt (fun h => (HG.out _ h).2 rfl))
        refine ⟨⟨_, cnt2, _, _, bq, Mq', hrg4, hd4, ?_, ?_, HZ.out, ?_, hB2.trans (hT4.below hB2.size (fun k hk => (HG.out k hk).1))⟩, ?_⟩
        · rintro k (hk | hk)
          · exact HG.out k hk
          · have := hB2.size
            exact ⟨by omega, by omega⟩
        · intro l
          by_cases e : l = x.data.toList
          · subst e
            simp [DG.set, Lit.sameKey, hbs]
          · have hne : (Lit.string l).sameKey (.string x.data.toList) = false := sameKey_ne (key_ne e)
            simp only [DG.set, if_neg e, hne, Bool.not_false, Bool.and_true]
            exact HF.out l
        · show (if (Sq.f x.data.toList).isSome = true then Sq.n else Sq.n + 1) + cnt2 ≤ S.n
          have := HC.out
          rw [hfree]
          simp only [Option.isSome_none, Bool.false_eq_true, if_false]
          omega
        · rw [hrg4.left_eq, hrg.left_eq]
          exact hlt
      clear hrg2 hB2 hq2 hv hhas hbs hr0' hv0 hby hnn hfree hvo hvn hvb HF HZ HC hg2 hrg hs2 hkey hat
      go_wp2_with fail
      go_region_held3 (fun W => W.cell? ⟨w.heap.size + 1, 0, none⟩ = some (.map (some bq)))
        (first
          | (go_split_ands; go_keep)
          | (exact hc3)
          | (exact hc4))
        ((go_at_call 15; refine hclone.mono ?_; rintro e w3 ⟨a', c', rfl, ho3, hB3, hnc3, hnn3⟩; obtain ⟨w4, hupd, hc4, hc3, hfin⟩ := hput a' c' w3 ho3 hB3))
      go_wp2
      exact HE.out w4 _ hfin.out.1 hfin.out.2

end Go.Proofs.YtcbmofapnjdmgaaDoor
