import Derived.Test.YtfkepoibgmljkaaB17
import Derived.Test.YtfkepoibgmljkaaB19
import Derived.Test.YtfkepoibgmljkaaB20
import Derived.Test.YtfkepoibgmljkaaB16
/- The walk of Make, and of Check. -/
namespace Go.Proofs.Ytfkepoibgmljkaa
open Go.RowKit Go.Shelf Go.Maps Go.Lib

attribute [local go_sem] Oper.semAt_some

theorem le_ris {l : List Pr} (h : l.Pairwise fun p q => p.1 ≤ q.1) (ho : Once l) : Ris l := by
  unfold Once at ho
  rw [List.Nodup, List.pairwise_map] at ho
  exact (h.and ho).imp fun ⟨h1, h2⟩ => by omega
theorem Once.perm {l m : List Pr} (h : Once l) (hp : l.Perm m) : Once m := (hp.map _).nodup_iff.1 h
/-- what Make answers: the value, the error, and what the memory holds -/
def MakeE (l : List Pr) (w : World) (v : Value) (er : Int) (w' : World) : Prop :=
  ((∃ p ∈ l, p.1 = 0) ∧ v = .slice none 0 0 ∧ er = 2) ∨ ((∀ p ∈ l, p.1 ≠ 0) ∧ ¬ Once l ∧ v = .slice none 0 0 ∧ er = 5) ∨
    ∃ d ad cp, GoodV d ∧ d.Perm l ∧ (∀ p ∈ l, p.1 ≠ 0) ∧ Once l ∧ v = .slice ad (runB d).length cp ∧ er = 0 ∧ w'.ownsRow w.heap.size 5 1 (.slice ad (runB d).length cp) (runB d).length (cellsOf (runB d))

set_option maxRecDepth 100000 in
set_option maxHeartbeats 4000000 in
theorem make_any (w : World) (a : Option Addr) (n c : Nat) (l : List Pr) (h : Prs w a n l) (hok : PrOk l) (hnil : a = none → n = 0 ∧ c = 0) (hn : n ≤ 65536) :
    Calls Try.prog 12 #[.slice a n c] w fun e w' => ∃ v er, e = .returned (.tuple #[v, .int .i64 er]) ∧ MakeE l w v er w' ∧ Below w.heap.size w w' := by
  have hc := vclone_any a n c l w h hnil (by omega)
  have hll := h.1
  have i1 : ¬ (65536 : Int) < (n : Int) := by omega
  clear h hnil
  go_enter Try.func12, Try.ntmps12
  go_upto_region 5 with first
    | (go_at_call 25; refine hc.mono ?_; clear hc; rintro e w1 ⟨ad, cp, rfl, ho, hB⟩; have H1 : Hid (w1.ownsRow w.heap.size 32 2 (.slice ad n cp) n (prCells l) ∧ Below w.heap.size w w1) := ⟨ho, hB⟩; clear ho hB)
    | (go_at_call 26; refine (vsort_any w1 w.heap.size ad n cp l H1.out.1 hll H1.out.2.size (by omega)).mono ?_; rintro e w2 ⟨rfl, l', hP, hS, hPr, hB⟩; have H2 : Hid (Prs w2 ad n l' ∧ l'.Perm l ∧ (l'.Pairwise fun p q => p.1 ≤ q.1) ∧ Below w.heap.size w w2) := ⟨hPr, hP, hS, H1.out.2.trans hB⟩; clear hP hS hPr hB H1)
  have hri := rises_any w2 ad n cp l' H2.out.1 (by omega)
  have hok' : PrOk l' := hok.perm H2.out.2.1.symm
  have hfo := fun W (hB : Below w2.heap.size w2 W) => vform_any W ad n cp l' (H2.out.1.kept hB) hok' (by omega)
  have HF : Hid (∀ W, Below w2.heap.size w2 W → Calls Try.prog 24 #[.slice ad n cp] W fun e w' => ∃ ad cp, e = .returned (.slice ad (runB l').length cp) ∧ w'.ownsRow W.heap.size 5 1 (.slice ad (runB l').length cp) (runB l').length (cellsOf (runB l')) ∧ Below W.heap.size W w') := hfo
  have HO : Hid (PrOk l' ∧ l'.length = n) := ⟨hok', H2.out.1.1⟩
  clear hfo hok' hok
  have key : ∀ b : Bool, b = risF 0 l' → (∀ p ∈ l', p.1 ≠ 0) → (b = true → GoodV l' ∧ Once l) ∧ (b = false → ¬ Once l) := by
    intro b hb hz
    have hle := H2.out.2.2.1
    refine ⟨fun e => ?_, fun e ho => ?_⟩
    · rw [e] at hb
      have := (risF_iff l' 0).1 hb.symm
      exact ⟨⟨HO.out.1, hb.symm, by rw [HO.out.2]; omega⟩, this.1.once.perm H2.out.2.1⟩
    · rw [e] at hb
      have h1 := le_ris hle (ho.perm H2.out.2.1.symm)
      have : risF 0 l' = true := (risF_iff l' 0).2 ⟨h1, fun p hp => by have := hz p hp; omega⟩
      rw [this] at hb
      cases hb
  have HK : Hid (∀ b : Bool, b = risF 0 l' → (∀ p ∈ l', p.1 ≠ 0) → (b = true → GoodV l' ∧ Once l) ∧ (b = false → ¬ Once l)) := key
  clear key
  have tail : (∀ p ∈ l', p.1 ≠ 0) → ∀ b : Bool, b = risF 0 l' → ∀ W, Below w2.heap.size w2 W → (b = false → MakeE l w (.slice none 0 0) 5 W) := fun hz b hb W _ e =>
    .inr (.inl ⟨fun p hp => hz p (H2.out.2.1.mem_iff.2 hp), ((HK.out b hb hz).2 e), rfl, rfl⟩)
  have HT : Hid (∀ W, (∀ p ∈ l', p.1 ≠ 0) → risF 0 l' = false → MakeE l w (.slice none 0 0) 5 W) := fun W hz e =>
    .inr (.inl ⟨fun p hp => hz p (H2.out.2.1.mem_iff.2 hp), ((HK.out _ rfl hz).2 e), rfl, rfl⟩)
  have HG : Hid (∀ W ad cp, (∀ p ∈ l', p.1 ≠ 0) → risF 0 l' = true → W.ownsRow w.heap.size 5 1 (.slice ad (runB l').length cp) (runB l').length (cellsOf (runB l')) → MakeE l w (.slice ad (runB l').length cp) 0 W) := fun W ad cp hz e ho =>
    .inr (.inr ⟨l', ad, cp, ((HK.out _ rfl hz).1 e).1, H2.out.2.1, fun p hp => hz p (H2.out.2.1.mem_iff.2 hp), ((HK.out _ rfl hz).1 e).2, rfl, rfl, ho⟩)
  clear tail HK
  cases hl' : l' with
  | nil =>
    subst hl'
    have h0 : n = 0 := HO.out.2.symm
    subst h0
    have hz : ∀ p ∈ ([] : List Pr), p.1 ≠ 0 := fun p hp => by cases hp
    have HZ : Hid (∀ p ∈ ([] : List Pr), p.1 ≠ 0) := hz
    clear hz
    go_wp2_with first
      | (go_at_call 29; refine hri.mono ?_; clear hri; rintro e w3 ⟨rfl, hB3⟩; have e0 : risF 0 ([] : List Pr) = true := rfl; simp only [e0])
      | (go_at_call 24; refine (HF.out w3 hB3).mono ?_; clear HF; rintro e w4 ⟨ad4, cp4, rfl, ho4, hB4⟩)
    go_ret2
    have hw3 : Below w.heap.size w w3 := H2.out.2.2.2.trans (hB3.mono H2.out.2.2.2.size)
    refine ⟨_, _, rfl, HG.out w4 ad4 cp4 HZ.out rfl ⟨ho4.1, ho4.2.imp id ?_⟩, hw3.trans (hB4.mono hw3.size)⟩
    rintro ⟨g', cap, cur, h1, h2, h3⟩
    exact ⟨g', cap, cur, h1, by have := hw3.size; omega, h3⟩
  | cons p r =>
    obtain ⟨x, y⟩ := p
    have hn0 : 0 < n := by rw [← HO.out.2, hl']; exact Nat.succ_pos _
    obtain ⟨b1, o1, rfl, hc1⟩ := H2.out.1.2 hn0
    obtain ⟨q1, _⟩ := hc1 0 (x, y) (by rw [hl']; rfl)
    simp only [Nat.zero_mul, Nat.add_zero] at q1
    have i2 : (0 : Int) < (n : Int) := by omega
    have HP : Hid (x ≠ 0 → ∀ q ∈ l', q.1 ≠ 0) := fun hx q hq => by
      have hp := H2.out.2.2.1
      rw [hl'] at hq hp
      rcases List.mem_cons.1 hq with rfl | hq
      · exact hx
      · have := (List.pairwise_cons.1 hp).1 q hq
        simp only at this
        omega
    have HM : Hid ((x, y) ∈ l) := (H2.out.2.1.mem_iff.1 (by rw [hl']; exact List.mem_cons_self ..) : (x, y) ∈ l)
    clear hc1
    by_cases hx : x = 0
    · subst hx
      clear hl'
      go_wp2
      go_ret2
      exact ⟨_, _, rfl, .inl ⟨⟨(0, y), HM.out, rfl⟩, rfl, rfl⟩, H2.out.2.2.2⟩
    · have hz := HP.out hx
      have HZ : Hid (∀ q ∈ l', q.1 ≠ 0) := hz
      have i3 : ((x : Int) == 0) = false := by simp; omega
      clear hz hl'
      cases hr : risF 0 l' with
      | false =>
        rw [hr] at hri
        have HR : Hid (risF 0 l' = false) := hr
        clear hr
        go_wp2_with (go_at_call 29; refine hri.mono ?_; clear hri; rintro e w3 ⟨rfl, hB3⟩)
        go_ret2
        exact ⟨_, _, rfl, HT.out w3 HZ.out HR.out, H2.out.2.2.2.trans (hB3.mono H2.out.2.2.2.size)⟩
      | true =>
        rw [hr] at hri
        have HR : Hid (risF 0 l' = true) := hr
        clear hr
        go_wp2_with first
          | (go_at_call 29; refine hri.mono ?_; clear hri; rintro e w3 ⟨rfl, hB3⟩)
          | (go_at_call 24; refine (HF.out w3 hB3).mono ?_; clear HF; rintro e w4 ⟨ad4, cp4, rfl, ho4, hB4⟩)
        go_ret2
        have hw3 : Below w.heap.size w w3 := H2.out.2.2.2.trans (hB3.mono H2.out.2.2.2.size)
        refine ⟨_, _, rfl, HG.out w4 ad4 cp4 HZ.out HR.out ⟨ho4.1, ho4.2.imp id ?_⟩, hw3.trans (hB4.mono hw3.size)⟩
        rintro ⟨g', cap, cur, h1, h2, h3⟩
        exact ⟨g', cap, cur, h1, by have := hw3.size; omega, h3⟩

/-- Check -/
theorem vcheck_any (w : World) (a : Option Addr) (n c : Nat) (b : List UInt8) (hb : Bytes w a n b) (hnil : a = none → n = 0) (hcap : n ≤ c) (hn : n ≤ 1000000000) :
    Calls Try.prog 15 #[.slice a n c] w fun e w' => ∃ k er : Int, e = .returned (.tuple #[.int .i64 k, .int .i64 er]) ∧ ((pairsR b = none ∧ k = 0 ∧ er = 8) ∨ ∃ l, pairsR b = some l ∧ k = (l.length : Int) ∧ er = 0) ∧ Below w.heap.size w w' := by
  have hp := pairs_any w a n c b hb hnil hcap hn
  go_enter Try.func15, Try.ntmps15
  go_wp2_with fail
  refine hp.mono ?_
  rintro e w1 ⟨v, er, rfl, hE, hB⟩
  rcases hE with ⟨h1, rfl, rfl⟩ | ⟨l, G, h1, rfl, rfl, _, _⟩
  · go_wp2
    go_ret2
    exact ⟨0, 8, rfl, .inl ⟨h1, rfl, rfl⟩, hB⟩
  · go_wp2
    go_ret2
    exact ⟨_, 0, rfl, .inr ⟨l, h1, rfl, rfl⟩, hB⟩
end Go.Proofs.Ytfkepoibgmljkaa

/- The walk of Merge: its plain part, and the row of lists. -/
namespace Go.Proofs.Ytfkepoibgmljkaa
open Go.RowKit Go.Shelf Go.Maps

attribute [local go_sem] Oper.semAt_some

theorem infoRowV : (Try.prog.info? 25).map (fun i => (i.zero, i.size, i.bytes)) = some (some (.slice none 0 0), 1, 24) := by kernel_rfl
/-- runs handed in -/
structure RunsB (w : World) (a : Option Addr) (n c : Nat) (bs : List (List UInt8)) : Prop where
  len : bs.length = n
  cells : 0 < n → ∃ b o, a = some ⟨b, o, none⟩ ∧ ∀ (i : Nat) x, bs[i]? = some x → ∃ ad k cp, w.cell? ⟨b, o + i, none⟩ = some (.slice ad k cp) ∧ Bytes w ad k x ∧ (ad = none → k = 0) ∧ k ≤ cp ∧ k ≤ 1000000000
  cap : n ≤ c
theorem RunsB.kept {w w' : World} {a : Option Addr} {n c : Nat} {bs : List (List UInt8)} (h : RunsB w a n c bs) (hB : Below w.heap.size w w') : RunsB w' a n c bs := by
  refine ⟨h.len, fun h0 => ?_, h.cap⟩
  obtain ⟨b, o, e, hc⟩ := h.cells h0
  refine ⟨b, o, e, fun i x hx => ?_⟩
  obtain ⟨ad, k, cp, h1, h2, h3⟩ := hc i x hx
  exact ⟨ad, k, cp, (hB.cell (p := ⟨b, o + i, none⟩) (World.block_lt_of_cell? w _ h1)).trans h1, vbytes_below h2 hB, h3⟩
abbrev vP (p : Nat × List Pr) : Value := .slice (some ⟨p.1, 0, none⟩) p.2.length p.2.length
abbrev nilP : Value := .slice none 0 0
/-- a row of lists, filled so far -/
def FillS (W : World) (G n : Nat) (L : List (Nat × List Pr)) : Prop := W.heap[G]? = some (.cells (L.map vP ++ List.replicate (n - L.length) nilP).toArray 25 (0, 0)) ∧ ∀ p ∈ L, G < p.1 ∧ RowV W p.1 p.2
theorem fill_set {α : Type} (A : List α) (m : Nat) (z v : α) : (A ++ List.replicate (m + 1) z).set A.length v = (A ++ [v]) ++ List.replicate m z := by
  rw [List.set_append_right _ _ (Nat.le_refl _), Nat.sub_self, List.replicate_succ, List.set_cons_zero, List.append_assoc]
  rfl
theorem FillS.below {W W' : World} {G n : Nat} {L : List (Nat × List Pr)} (h : FillS W G n L) (hB : Below W.heap.size W W') : FillS W' G n L :=
  ⟨(hB.block G (Array.getElem?_eq_some_iff.1 h.1).1).trans h.1, fun p hp => ⟨(h.2 p hp).1, (h.2 p hp).2.below hB (h.2 p hp).2.lt⟩⟩
theorem FillS.cell {W : World} {G n : Nat} {L : List (Nat × List Pr)} (h : FillS W G n L) (hk : L.length < n) : W.cell? ⟨G, L.length, none⟩ = some nilP ∧ W.frozen? ⟨G, L.length, none⟩ = false := by
  have h' := h.1
  refine ⟨?_, by simp [World.frozen?, h']⟩
  have : (L.map vP ++ List.replicate (n - L.length) nilP)[L.length]? = some nilP := by
    rw [List.getElem?_append_right (by simp), List.length_map, Nat.sub_self, List.getElem?_replicate, if_pos (by omega)]
  simp only [World.cell?, h']
  rw [List.getElem?_toArray]
  exact this
theorem FillS.put {W : World} {G n g : Nat} {l : List Pr} {L : List (Nat × List Pr)} (h : FillS W G n L) (hk : L.length < n) (hg : G < g) (hr : RowV W g l) : FillS (W.setCell ⟨G, L.length, none⟩ (vP (g, l))) G n (L ++ [(g, l)]) := by
  have h' := h.1
  refine ⟨?_, fun p hp => ?_⟩
  · obtain ⟨m, hm⟩ : ∃ m, n - L.length = m + 1 := ⟨n - L.length - 1, by omega⟩
    have e := fill_set (L.map vP) m nilP (vP (g, l))
    rw [List.length_map] at e
    rw [hm] at h'
    rw [List.map_append, List.length_append, List.length_singleton, show n - (L.length + 1) = m by omega]
    simp only [World.setCell, Array.getElem?_modify, h', Option.map_some, if_true]
    rw [Array.setIfInBounds, dif_pos (by simp)]
    simp only [List.set_toArray]
    rw [e]
    rfl
  · rcases List.mem_append.1 hp with hp | hp
    · exact ⟨(h.2 p hp).1, (h.2 p hp).2.other (by have := (h.2 p hp).1; omega) _⟩
    · obtain rfl := List.mem_singleton.1 hp
      exact ⟨hg, hr.other (by show g ≠ G; omega) _⟩
theorem FillS.lists {W : World} {G n : Nat} {L : List (Nat × List Pr)} (h : FillS W G n L) (hn : L.length = n) : LsV W (some ⟨G, 0, none⟩) n n (L.map (·.2)) := by
  refine ⟨by rw [List.length_map, hn], fun _ => ⟨G, 0, rfl, fun i l hl => ?_⟩, Nat.le_refl _⟩
  rw [List.getElem?_map] at hl
  cases hp : L[i]? with
  | none => rw [hp] at hl; cases hl
  | some p =>
    rw [hp] at hl
    cases hl
    have hm := h.2 p (List.mem_of_getElem? hp)
    refine ⟨_, _, _, ?_, ⟨hm.2.prs, fun e => (by cases e), Nat.le_refl _⟩⟩
    have h' := h.1
    simp only [World.cell?, h', Nat.zero_add]
    rw [List.getElem?_toArray, List.getElem?_append_left (by rw [List.length_map]; exact (List.getElem?_eq_some_iff.1 hp).1), List.getElem?_map, hp]
    rfl
theorem made_nils (n : Nat) : madeCells (Value.cells nilP) (n * 1) = (List.replicate n nilP).toArray := by
  apply Array.ext'
  simp only [madeCells, Array.toList_map, Array.toList_range, Nat.mul_one]
  apply List.ext_getElem
  · simp
  · intro i h1 h2
    have e : (Value.cells nilP).size = 1 := rfl
    simp [e, Nat.mod_one]
    rfl
theorem wpList_make_nils (w : World) {ops : Array Oper} {rest : List Oper} {o : Oper} {a : Act} {Q : Exit → Act → World → Prop}
    (hg : o.guard = none) (l c : Operand) (hop : o.op = Op.makeSlice 22 l c)
    (kl kc : IntKind) (n : Nat) (L C : Int) (hl : a.eval l = .int kl L) (hc : a.eval c = .int kc C) (hL : L = (n : Int)) (hC : C = (n : Int)) (hn : n ≤ 1000000)
    (hK : ∀ w1, FillS w1 w.heap.size n [] → Below w.heap.size w w1 → wpList Try.prog ops Q rest (a.put o.dst (.slice (some ⟨w.heap.size, 0, none⟩) n n)) w1) :
    wpList Try.prog ops Q (o :: rest) a w := by
  obtain ⟨i0, hi, hz0, hz1, hz2⟩ := info_parts infoRowV
  refine wpList_plain hg fun K hK' => ?_
  subst hL
  subst hC
  have hrun := run_make (P := Try.prog) w 22 25 i0 _ Try.underlying22 hi hz0 kl kc (n : Int) (n : Int) (by omega) (by omega) (by rw [hz2]; omega) (by omega)
  simp only [hz1, Int.toNat_natCast] at hrun
  rw [made_nils] at hrun
  unfold Oper.wp
  simp [execOp, hop, hl, hc, hrun, Result.andThen]
  exact hK' _ _ (hK _ ⟨World.alloc_heap_new w _, fun p hp => by cases hp⟩ ((Below.refl _ _).alloc (Nat.le_refl _) _))
theorem flat_len : ∀ (ls : List (List Pr)), (∀ l ∈ ls, l.length ≤ 65536) → ls.flatten.length ≤ 65536 * ls.length
  | [], _ => by simp
  | l :: r, h => by
    have h1 := h l (List.mem_cons_self ..)
    have h2 := flat_len r fun x hx => h x (List.mem_cons_of_mem _ hx)
    rw [List.flatten_cons, List.length_append, List.length_cons]
    omega
end Go.Proofs.Ytfkepoibgmljkaa
