import Derived.Test.YtiafhbpklddlnaaGreatDoorE30
import Derived.Test.YtiafhbpklddlnaaGreatDoorE10
/- Plain: all refs, their names rising; what may be said of where names lead behind changes that may be made; setting what is there says nothing new. -/
namespace Go.Proofs.YtiafhbpklddlnaaGreatDoor
open Go.RowKit Go.Shelf Go.Maps

/-- so many names lead somewhere -/
def CntR (g : List UInt8 → Int) (n : Nat) : Prop := ∃ ks : List (List UInt8), ks.Nodup ∧ (∀ x, x ∈ ks ↔ g x ≠ 0) ∧ ks.length = n
theorem CntR.pos {g : List UInt8 → Int} {n : Nat} (h : CntR g n) {k : List UInt8} (hk : g k ≠ 0) : 1 ≤ n := by
  obtain ⟨ks, _, hm, rfl⟩ := h
  exact List.length_pos_of_mem ((hm k).2 hk)
theorem CntR.step {q : (List UInt8 → Int) × Nat} (h : CntR q.1 q.2) (x : Ch) : CntR (stepR q x).1 (stepR q x).2 := by
  obtain ⟨g, n⟩ := q
  obtain ⟨ks, hn, hm, hl⟩ := h
  simp only at hm hl
  by_cases h0 : x.2 = 0
  · by_cases hg : g (bs x.1) = 0
    · refine ⟨ks, hn, fun y => ?_, by simp [stepR, h0, hg, hl]⟩
      simp only [stepR, setR, h0]
      by_cases e : y = bs x.1
      · subst e; simp [hm, hg]
      · simp [e, hm]
    · have hin := (hm _).2 hg
      refine ⟨ks.erase (bs x.1), hn.erase _, fun y => ?_, by simp [stepR, h0, hg, List.length_erase_of_mem hin, hl]⟩
      rw [hn.mem_erase_iff]
      simp only [stepR, setR, h0]
      by_cases e : y = bs x.1
      · subst e; simp
      · simp [e, hm]
  · by_cases hg : g (bs x.1) = 0
    · have hnin : bs x.1 ∉ ks := fun hi => (hm _).1 hi hg
      refine ⟨bs x.1 :: ks, List.nodup_cons.2 ⟨hnin, hn⟩, fun y => ?_, by simp [stepR, h0, hg, hl]⟩
      simp only [stepR, setR]
      by_cases e : y = bs x.1
      · subst e; simp [h0]
      · simp [e, hm]
    · refine ⟨ks, hn, fun y => ?_, by simp [stepR, h0, hg, hl]⟩
      simp only [stepR, setR]
      by_cases e : y = bs x.1
      · subst e; simp [h0, hm, hg]
      · simp [e, hm]

/-- names that lead somewhere are paths other than the root, and not too many -/
def NamesR (g : List UInt8 → Int) (n : Nat) : Prop := (∀ k, g k ≠ 0 → (pathSpot k).1 = 0 ∧ k ≠ []) ∧ n ≤ 64
theorem chgErr_zero {g : List UInt8 → Int} {A : List UInt8 → Bool} {s : ByteArray} {i : Int} (h : chgErr g A s i = 0) : (pathSpot (bs s)).1 = 0 ∧ bs s ≠ [] ∧ A (bs s) = false ∧ (i = 0 → g (bs s) ≠ 0) := by
  unfold chgErr at h
  by_cases h1 : (pathSpot (bs s)).1 = 0
  · rw [if_neg (by simpa using h1)] at h
    by_cases h2 : bs s = []
    · rw [if_pos h2] at h; omega
    · rw [if_neg h2] at h
      by_cases h3 : A (bs s) = true
      · rw [if_pos h3] at h; omega
      · rw [if_neg h3] at h
        refine ⟨h1, h2, by simpa using h3, fun e hg => ?_⟩
        rw [if_pos ⟨e, hg⟩] at h; omega
  · rw [if_pos h1] at h; omega
theorem names_from (g : List UInt8 → Int) : ∀ (l : List Ch) (A : List UInt8 → Bool) (c : Int) (q : (List UInt8 → Int) × Nat), chkFrom g A c l = 0 → CntR q.1 q.2 → (∀ k, A k = false → q.1 k = g k) → (q.2 : Int) = c → (∀ k, q.1 k ≠ 0 → (pathSpot k).1 = 0 ∧ k ≠ []) → NamesR (applyR q l).1 (applyR q l).2
  | [], A, c, q, h, hc, hA, hq, hk => by
    refine ⟨hk, ?_⟩
    unfold chkFrom at h
    by_cases e : 64 < c
    · rw [if_pos e] at h; omega
    · show q.2 ≤ 64; omega
  | x :: r, A, c, q, h, hc, hA, hq, hk => by
    unfold chkFrom at h
    by_cases e : chgErr g A x.1 x.2 = 0
    · rw [if_neg (by simpa using e)] at h
      obtain ⟨h1, h2, h3, h4⟩ := chgErr_zero e
      have hg := hA _ h3
      have := names_from g r (addA A (bs x.1)) (c + growR g x.1 x.2) (stepR q x) h (hc.step x) (fun k hk' => by
        simp only [addA, Bool.or_eq_false_iff, beq_eq_false_iff_ne] at hk'
        simp only [stepR, setR, if_neg hk'.1]
        exact hA k hk'.2) (by
        simp only [stepR, growR, hg]
        by_cases h0 : x.2 = 0
        · have := hc.pos (k := bs x.1) (by rw [hg]; exact h4 h0)
          rw [if_pos h0, if_pos h0, if_neg (h4 h0)]
          omega
        · rw [if_neg h0, if_neg h0]
          by_cases hz : g (bs x.1) = 0
          · rw [if_pos hz, if_pos hz]; omega
          · rw [if_neg hz, if_neg hz]; omega) (fun k hk' => by
        simp only [stepR, setR] at hk'
        by_cases ek : k = bs x.1
        · subst ek; exact ⟨h1, h2⟩
        · rw [if_neg ek] at hk'; exact hk k hk')
      simpa [applyR] using this
    · rw [if_pos e] at h; exact absurd h e
theorem NamesR.set {g : List UInt8 → Int} {n : Nat} (h : NamesR g n) (hc : CntR g n) {l : List Ch} (he : chkR g n l = 0) : NamesR (applyR (g, n) l).1 (applyR (g, n) l).2 :=
  names_from g l _ _ (g, n) he hc (fun _ _ => rfl) rfl h.1

/-- all refs, their names rising -/
def AllR (g : List UInt8 → Int) (n : Nat) (L : List Ch) : Prop := ∃ ks : List (List UInt8), ks.Nodup ∧ (∀ x, x ∈ ks ↔ g x ≠ 0) ∧ ks.length = n ∧ L = (ks.mergeSort leB).map (fun k => ((⟨k.toArray⟩ : ByteArray), g k))
theorem AllR.one {g : List UInt8 → Int} {n m : Nat} {L L' : List Ch} (h : AllR g n L) (h' : AllR g m L') : L = L' := by
  obtain ⟨ks, n1, m1, _, rfl⟩ := h
  obtain ⟨js, n2, m2, _, rfl⟩ := h'
  rw [mergeSort_of_perm ((List.perm_ext_iff_of_nodup n1 n2).2 fun x => by rw [m1, m2])]
theorem AllR.len {g : List UInt8 → Int} {n : Nat} {L : List Ch} (h : AllR g n L) : L.length = n := by
  obtain ⟨ks, _, _, rfl, rfl⟩ := h
  rw [List.length_map, List.length_mergeSort]
theorem CntR.all {g : List UInt8 → Int} {n : Nat} (h : CntR g n) : ∃ L, AllR g n L := by
  obtain ⟨ks, h1, h2, h3⟩ := h
  exact ⟨_, ks, h1, h2, h3, rfl⟩
theorem bs_arr (k : List UInt8) : bs (⟨k.toArray⟩ : ByteArray) = k := by simp [bs]
theorem AllR.mem {g : List UInt8 → Int} {n : Nat} {L : List Ch} (h : AllR g n L) {x : Ch} (hx : x ∈ L) : g (bs x.1) = x.2 ∧ x.2 ≠ 0 := by
  obtain ⟨ks, _, hm, _, rfl⟩ := h
  obtain ⟨k, hk, rfl⟩ := List.mem_map.1 hx
  have := (hm k).1 ((List.mergeSort_perm ks leB).mem_iff.1 hk)
  exact ⟨by rw [bs_arr], this⟩
theorem AllR.nodup {g : List UInt8 → Int} {n : Nat} {L : List Ch} (h : AllR g n L) : (L.map (fun x => bs x.1)).Nodup := by
  obtain ⟨ks, hn, hm, _, rfl⟩ := h
  rw [List.map_map]
  have : ((fun x : Ch => bs x.1) ∘ fun k => ((⟨k.toArray⟩ : ByteArray), g k)) = id := by funext k; simp [bs_arr]
  rw [this, List.map_id]
  exact (List.mergeSort_perm ks leB).nodup_iff.2 hn
theorem chk_there (g : List UInt8 → Int) : ∀ (l : List Ch) (A : List UInt8 → Bool) (c : Int), (∀ x ∈ l, g (bs x.1) = x.2 ∧ x.2 ≠ 0 ∧ (pathSpot (bs x.1)).1 = 0 ∧ bs x.1 ≠ [] ∧ A (bs x.1) = false) → (l.map (fun x => bs x.1)).Nodup → c ≤ 64 → chkFrom g A c l = 0
  | [], A, c, _, _, hc => by unfold chkFrom; rw [if_neg (by omega)]
  | x :: r, A, c, h, hn, hc => by
    obtain ⟨h1, h2, h3, h4, h5⟩ := h x (List.mem_cons_self ..)
    rw [List.map_cons, List.nodup_cons] at hn
    have e : chgErr g A x.1 x.2 = 0 := by
      unfold chgErr
      rw [if_neg (by simpa using h3), if_neg h4, if_neg (by simp [h5]), if_neg (fun e => h2 e.1)]
    have eg : growR g x.1 x.2 = 0 := by
      unfold growR
      rw [if_neg h2, if_neg (by rw [h1]; exact h2)]
    unfold chkFrom
    rw [if_neg (by simpa using e), eg, Int.add_zero]
    refine chk_there g r _ c (fun y hy => ?_) hn.2 hc
    obtain ⟨k1, k2, k3, k4, k5⟩ := h y (List.mem_cons_of_mem _ hy)
    refine ⟨k1, k2, k3, k4, ?_⟩
    simp only [addA, Bool.or_eq_false_iff, beq_eq_false_iff_ne]
    exact ⟨fun e => hn.1 (List.mem_map.2 ⟨y, hy, e⟩), k5⟩
/-- all that is there may be set, and says nothing new -/
theorem AllR.set {g : List UInt8 → Int} {n : Nat} {L : List Ch} (h : AllR g n L) (hN : NamesR g n) : chkR g n L = 0 ∧ newsR g L = [] := by
  refine ⟨chk_there g L _ _ (fun x hx => ?_) h.nodup (by have := hN.2; omega), ?_⟩
  · obtain ⟨h1, h2⟩ := h.mem hx
    have := hN.1 (bs x.1) (by rw [h1]; exact h2)
    exact ⟨h1, h2, this.1, this.2, rfl⟩
  · unfold newsR
    rw [List.filter_eq_nil_iff]
    intro x hx
    simp [(h.mem hx).1]
/-- the names of a map of names, each once -/
theorem strKeysR_nodup {w : World} {b n : Nat} {M : DataW Value} (h : w.ownsMap Tryz.prog 9 rvR b n M) : (strKeys M).Nodup ∧ ∀ x, x ∈ strKeys M ↔ has M (.string x) = true := by
  obtain ⟨es, hD, hpw, _⟩ := h.entries keyed
  obtain ⟨es', hD', hko⟩ := h.keysOf
  obtain rfl : es = es' := by rw [hD] at hD'; simpa using hD'
  subst hD
  have hk : ∀ q ∈ es, ∃ x, q.1 = .string x := fun q hq => by
    obtain ⟨v, hv⟩ := hko q hq
    obtain ⟨x, _, hx, _⟩ := Maps.keyOf_str Tryz.underlying9 hv
    exact ⟨x, hx⟩
  constructor
  · show (es.map fun q => strOf q.1).Nodup
    refine List.pairwise_map.2 (hpw.imp_of_mem fun {q r} hq hr hne e => hne ?_)
    obtain ⟨x, hx⟩ := hk q hq
    obtain ⟨y, hy⟩ := hk r hr
    rw [hx, hy] at e ⊢
    exact congrArg _ e
  · intro x
    rw [has_eq, List.any_eq_true]
    show x ∈ es.map (fun q => strOf q.1) ↔ _
    rw [List.mem_map]
    constructor
    · rintro ⟨q, hq, rfl⟩
      obtain ⟨y, hy⟩ := hk q hq
      exact ⟨q, hq, by rw [hy]; simp [Lit.sameKey, strOf]⟩
    · rintro ⟨q, hq, hs⟩
      obtain ⟨y, hy⟩ := hk q hq
      rw [hy] at hs
      exact ⟨q, hq, by rw [hy]; simpa [Lit.sameKey, strOf] using hs⟩
theorem strKeysR_length {w : World} {b n : Nat} {M : DataW Value} (h : w.ownsMap Tryz.prog 9 rvR b n M) : (strKeys M).length = size M := by
  obtain ⟨es, rfl⟩ := h.isMap
  simp [strKeys, size]
theorem RfAt.cnt {w : World} {r d j b : Nat} {M : DataW Value} {rs : List (List UInt8)} {g : List UInt8 → Int} {n sz : Nat} {cut : Bool} {FJ F : Nat → Prop} (h : RfAt w r d j b M rs g n sz cut FJ F) : CntR g n := by
  have ho := h.own
  obtain ⟨h1, h2⟩ := strKeysR_nodup ho
  refine ⟨strKeys M, h1, fun x => ?_, by rw [strKeysR_length ho, h.msz]⟩
  rw [h2, h.has]
  simp
end Go.Proofs.YtiafhbpklddlnaaGreatDoor

/- The walk of the law RefsNone. -/
namespace Go.Proofs.YtiafhbpklddlnaaGreatDoor
open Go.RowKit Go.Shelf Go.Maps

attribute [local go_sem] Oper.semAt_some

/-- the law's own result box stands, and nothing that was there is touched -/
structure CstR (w W : World) : Prop where
  bel : Below w.heap.size w W
  box : Boxed W w.heap.size 4 (.bool false)
theorem CstR.below {w W W' : World} (h : CstR w W) (hB : Below W.heap.size W W') : CstR w W' := ⟨h.bel.trans (hB.mono h.bel.size), (hB.block _ h.box.lt).trans h.box⟩
theorem CstR.alloc {w W : World} (h : CstR w W) (o : Obj) : CstR w (W.alloc o) := h.below ((Below.refl _ W).alloc (Nat.le_refl _) o)
theorem cstR_own (w : World) {B : Nat} (hB : w.heap.size < B) {β : Type} : OwnFrom B (fun (_ : β) W => CstR w W) := by
  rintro s X Y row h hg hr
  refine ⟨⟨hg.os.trans h.bel.os, hg.tape.trans h.bel.tape, hg.output.trans h.bel.output, Nat.le_trans h.bel.size hg.size, fun k hk => (hg.block k (Nat.lt_of_lt_of_le hk h.bel.size) (fun e => by have := (hr k e.symm).1; omega)).trans (h.bel.block k hk)⟩, h.box.kept hg (fun e => by have := (hr _ e.symm).1; omega)⟩
theorem all_any (w : World) (p : Option Addr) : Calls Tryz.prog 39 #[.pointer p] w fun e w' => e = .returned (.func (.func 63) #[] #[.pointer (some ⟨w.heap.size, 0, none⟩)]) ∧ w' = w.alloc (.cells #[.pointer p] 26) := by
  go_enter Tryz.func39, Tryz.ntmps39
  go_wp2
  go_ret
  exact ⟨rfl, rfl⟩
abbrev chE (x : Ch) : Array Value := #[.string x.1, .int .u64 x.2]
/-- refs that are not there tell nothing -/
theorem all_nil (w : World) (B : Nat) (hB : w.cell? ⟨B, 0, none⟩ = some (.pointer none)) (n : Nat) (Kb : Nat → Prop) :
    Tells Fence.wide n Tryz.prog 63 #[.pointer (some ⟨B, 0, none⟩)] chE (fun _ _ _ => False) Kb (fun xs => xs = []) w := by
  intro l J W hW hJg hY h0
  have hcB : W.cell? ⟨B, 0, none⟩ = some (.pointer none) := (hW.cell (p := ⟨B, 0, none⟩) (World.block_lt_of_cell? w _ hB)).trans hB
  refine callsIn_of_wp Tryz.func63 rfl trivial ?_ rfl
  simp only [Tryz.ntmps63, List.size_toArray, List.length_cons, List.length_nil, Nat.reduceAdd, Nat.reduceSub, Array.replicate_succ, Array.replicate_zero, List.push_toArray, List.append_toArray, List.nil_append, List.cons_append]
  have H0 : Hid (J [] W) := h0
  clear hY h0 hJg
  gi_wp2
  refine bodyPost_ret (results_none rfl _ _ _) rfl ?_
  exact ⟨⟨_, rfl⟩, [], rfl, H0.out⟩

/-- a box stands, and nothing that was there is touched -/
structure CstU (w W : World) (b : Nat) : Prop where
  bel : Below w.heap.size w W
  box : Boxed W b 30 (.slice none 0 0)
theorem cstU_own (w : World) {B b : Nat} (hB : w.heap.size ≤ B) (hb : b < B) {β : Type} : OwnFrom B (fun (_ : β) W => CstU w W b) := by
  rintro s X Y row h hg hr
  refine ⟨⟨hg.os.trans h.bel.os, hg.tape.trans h.bel.tape, hg.output.trans h.bel.output, Nat.le_trans h.bel.size hg.size, fun k hk => (hg.block k (Nat.lt_of_lt_of_le hk h.bel.size) (fun e => by have := (hr k e.symm).1; omega)).trans (h.bel.block k hk)⟩, h.box.kept hg (fun e => by have := (hr _ e.symm).1; omega)⟩

set_option maxRecDepth 100000 in
set_option maxHeartbeats 4000000 in
theorem under_nil (w : World) (s : ByteArray) : Calls Tryz.prog 68 #[.pointer none, .string s] w fun e w' => e = .returned (.slice none 0 0) ∧ Below w.heap.size w w' := by
  refine (callsIn_wide (n := 5)).1 ?_
  refine callsIn_of_wp_marks Tryz.func68 rfl trivial ?_ rfl
  simp only [Tryz.ntmps68, List.size_toArray, List.length_cons, List.length_nil, Nat.reduceAdd, Nat.reduceSub, Array.replicate_succ, Array.replicate_zero, List.push_toArray, List.append_toArray, List.nil_append, List.cons_append]
  have hmx : Tryz.prog.follows .mixedOrders = true := by kernel_rfl
  refine wpIn_wide.2 ?_
  go_wp2_with (go_at_call 39; refine (all_any _ _).mono ?_; rintro e w8 ⟨rfl, h8⟩; subst h8)
  obtain ⟨wz, hwz⟩ : ∃ wz, wz = ((w.alloc (.cells #[.string s] 9)).alloc (.cells #[.slice none 0 0] 30)).alloc (.cells #[.pointer none] 26) := ⟨_, rfl⟩
  have hzs : wz.heap.size = w.heap.size + 3 := by rw [hwz]; simp
  have bU : Boxed wz (w.heap.size + 1) 30 (.slice none 0 0) := by
    have := (Boxed.new (w.alloc (.cells #[.string s] 9)) 30 (.slice none 0 0)).alloc (.cells #[.pointer none] 26)
    rw [World.size_alloc] at this
    rw [hwz]; exact this
  have bB : Boxed wz (w.heap.size + 1 + 1) 26 (.pointer none) := by
    have := Boxed.new ((w.alloc (.cells #[.string s] 9)).alloc (.cells #[.slice none 0 0] 30)) 26 (.pointer none)
    rw [World.size_alloc, World.size_alloc] at this
    rw [hwz]; exact this
  have Bz : Below w.heap.size w wz := by rw [hwz]; exact (((Below.refl _ w).alloc (Nat.le_refl _) _).alloc (by simp) _).alloc (by simp only [World.size_alloc]; omega) _
  rw [← hwz]
  clear hwz
  refine (wpIn_wide (n := 5)).1 ?_
  refine range_told (α := Ch) (w := wz) rfl (by omega) (gf := 63) (lb := #[.pointer (some ⟨w.heap.size + 1 + 1, 0, none⟩)]) rfl trivial (enters_of Tryz.func63 (by kernel_rfl) rfl)
    (all_nil wz (w.heap.size + 1 + 1) bB.cell 4 (fun _ => False)) (fun _ => rfl) (fun k hk => hk.elim)
    (fun _ W => CstU w W (w.heap.size + 1)) (cstU_own w (by omega) (by omega)) (fun _ _ _ _ _ _ h _ _ => h) ⟨Bz, bU⟩ ?act ?assign ?body ?done
  case assign =>
    intro l x W K hK
    gi_wp2
    exact hK
  case body => exact fun l pre x W _ _ h => h.elim
  case done =>
    rintro D xs W hD hxs hC hK
    have cU := hC.box.cell
    have H : Hid (CstU w W (w.heap.size + 1) ∧ W.heap[D]? = some (.deferred (some []))) := ⟨hC, hK⟩
    clear hC hK
    go_wp2_with fail
    have hE := rturn_put (.deferred none) (Turn.of_below (fun _ => False) H.out.1.bel) (D := D) (by omega)
    exact rfin_m (v := .slice none 0 0) H.out.2 (by simp [results, Tryz.results68, go_sem]) ⟨rfl, hE.below (Nat.le_refl _) (fun _ h => h.elim)⟩

end Go.Proofs.YtiafhbpklddlnaaGreatDoor
