import Derived.Test.YtiafhbpklddlnaaGreatDoorE25
import Derived.Test.YtiafhbpklddlnaaGreatDoorE27
import Derived.Test.YtiafhbpklddlnaaGreatDoorE10
/- The walk of Open, over what decode reads (dec). -/
namespace Go.Proofs.YtiafhbpklddlnaaGreatDoor
open Go.RowKit Go.Shelf Go.Maps

attribute [local go_sem] Oper.semAt_some

theorem rfin_m {n D : Nat} {f : Func} {W : World} {v : Value} {tmps : Array Value} {P : Ending → World → Prop} (hK : W.heap[D]? = some (.deferred (some []))) (hr : (results f tmps).run Tryz.prog (W.putObj D (.deferred none)) = .ok v (W.putObj D (.deferred none))) (hP : P (.returned v) (W.putObj D (.deferred none))) :
    bodyPostM Fence.wide n Tryz.prog f P Exit.ret { tmps := tmps, defers := [{ target := .collected D, args := #[] }] } W := ⟨by simp, .inl ⟨_, _, rfl, run_takeDeferred hK, ⟨v, hr, hP⟩⟩⟩
theorem rturn_put {X : Nat → Prop} {w W : World} {D : Nat} (o : Obj) (h : Turn X w W) (hD : w.heap.size ≤ D) : Turn X w (W.putObj D o) :=
  ⟨h.os, h.tape, h.output, by simpa using h.size, fun k hk hn => (World.putObj_heap_other (by omega)).trans (h.block k hk hn)⟩
theorem rret_m {n : Nat} {f : Func} {W : World} {v : Value} {tmps : Array Value} {P : Ending → World → Prop} (hr : (results f tmps).run Tryz.prog W = .ok v W) (hP : P (.returned v) W) :
    bodyPostM Fence.wide n Tryz.prog f P Exit.ret { tmps := tmps, defers := [] } W := ⟨v, hr, hP⟩
theorem rkeepsFrom_turn {X : Nat → Prop} {W W' : World} {B : Nat} (h : Turn X W W') (hX : ∀ k o, X k → B ≤ k → W.heap[k]? = some o → o.isCells = true) : KeepsFrom B W W' :=
  ⟨h.size, fun k o hB hk ho => (h.block k (Array.getElem?_eq_some_iff.1 hk).1 (fun hx => by rw [hX k o hx hB hk] at ho; cases ho)).trans hk⟩
theorem two_cells {W : World} {n : Nat} {a b : Value} {t : TypeId} (h : W.heap[n]? = some (.cells #[a, b] t)) : W.cell? ⟨n, 0, none⟩ = some a ∧ W.cell? ⟨n, 1, none⟩ = some b := by
  simp [World.cell?, h]

/-- what decode answers of a record's payload -/
def DecOk (dec : List UInt8 → Option (List Ch)) (rs : List (List UInt8)) : Prop := ∀ p ∈ rs, ∀ (W : World) (a : Option Addr) (c : Nat), Bytes W a p.length p →
  Calls Tryz.prog 22 #[.slice a p.length c] W fun e w' => ∃ ad cp L, e = .returned (.tuple #[.slice ad L.length cp, .bool (dec p).isSome]) ∧ (∀ l, dec p = some l → L = l) ∧ Chs w' ad L.length L ∧ (∀ x, ad = some x → W.heap.size ≤ x.block) ∧ ShortR L ∧ (∀ x ∈ L, 0 ≤ x.2 ∧ x.2 ≤ 18446744073709551615) ∧ L.length ≤ p.length ∧ Below W.heap.size W w'

/-- where names lead behind records; none, if one is no record of changes that may be made -/
def loadR (dec : List UInt8 → Option (List Ch)) : List (List UInt8) → (List UInt8 → Int) × Nat → Option ((List UInt8 → Int) × Nat)
  | [], q => some q
  | r :: rs, q => match dec r with
    | none => none
    | some l => if chkR q.1 q.2 l ≠ 0 then none else loadR dec rs (applyR q l)
theorem loadR_append (dec : List UInt8 → Option (List Ch)) : ∀ (a b : List (List UInt8)) (q : (List UInt8 → Int) × Nat), loadR dec (a ++ b) q = (loadR dec a q).bind (loadR dec b)
  | [], b, q => rfl
  | r :: a, b, q => by
    simp only [List.cons_append, loadR]
    cases dec r with
    | none => rfl
    | some l =>
      simp only
      split
      · rfl
      · exact loadR_append dec a b _
def noR : (List UInt8 → Int) × Nat := (fun _ => 0, 0)
theorem loadR_next {dec : List UInt8 → Option (List Ch)} {rs : List (List UInt8)} {k : Nat} {q : (List UInt8 → Int) × Nat} (h : loadR dec (rs.take k) noR = some q) (hk : k < rs.length) (l : List Ch) (hd : dec (rc rs k) = some l) (hf : chkR q.1 q.2 l = 0) : loadR dec (rs.take (k + 1)) noR = some (applyR q l) := by
  rw [List.take_add_one, rc_get rs k hk, loadR_append, h]
  simp [loadR, hd, hf]
theorem loadR_none {dec : List UInt8 → Option (List Ch)} {rs : List (List UInt8)} {k : Nat} {q : (List UInt8 → Int) × Nat} (h : loadR dec (rs.take k) noR = some q) (hk : k < rs.length) (hd : dec (rc rs k) = none ∨ ∃ l, dec (rc rs k) = some l ∧ chkR q.1 q.2 l ≠ 0) : loadR dec rs noR = none := by
  have e : rs = rs.take (k + 1) ++ rs.drop (k + 1) := (List.take_append_drop (k + 1) rs).symm
  have h2 : loadR dec (rs.take (k + 1)) noR = none := by
    rw [List.take_add_one, rc_get rs k hk, loadR_append, h]
    rcases hd with hd | ⟨o, hd, hf⟩
    · simp [loadR, hd]
    · simp [loadR, hd, hf]
  rw [e, loadR_append, h2]
  rfl

theorem ropen_nil (w : World) : Calls Tryz.prog 7 #[.pointer none] w fun e w' => e = .returned (.tuple #[.pointer none, .int .i64 1]) ∧ Below w.heap.size w w' := by
  have hx := fun W => jopen_nil W refNm
  unfold refNm at hx
  go_enter Tryz.func7, Tryz.ntmps7
  go_wp2_with (go_at_call 20; refine (hx _).mono ?_; clear hx; rintro e w1 ⟨rfl, h1⟩; subst h1)
  refine bodyPost_ret (v := .tuple #[.pointer none, .int .i64 1]) (by simp [results, Tryz.results7, go_sem]) rfl ⟨rfl, ((Below.refl _ w).alloc (Nat.le_refl _) _).alloc (by simp) _⟩

/-- refs just made -/
theorem RfAt.new {w : World} {d j : Nat} {rs : List (List UInt8)} {sz : Nat} {cut : Bool} {FJ : Nat → Prop} (h : JAt w j d refNm rs sz cut FJ) :
    RfAt ((w.alloc (.map #[] 0)).alloc (.cells #[.pointer (some ⟨j, 0, none⟩), .map (some w.heap.size)] 65)) (w.heap.size + 1) d j w.heap.size (.map []) rs (fun _ => 0) 0 sz cut FJ (fun k => FJ k ∨ k = w.heap.size + 1 ∨ k = w.heap.size) := by
  have hm := (World.ownsMap_made w Tryz.prog 9 rvR).alloc (.cells #[.pointer (some ⟨j, 0, none⟩), .map (some w.heap.size)] 65)
  have hlt := h.lt
  have hbk := World.alloc_heap_new (w.alloc (.map #[] 0)) (.cells #[.pointer (some ⟨j, 0, none⟩), .map (some w.heap.size)] 65)
  rw [World.size_alloc] at hbk
  exact
  { c0 := (two_cells hbk).1
    c1 := (two_cells hbk).2
    jr := h.below (((Below.refl _ w).alloc (Nat.le_refl _) _).alloc (by simp) _)
    own := hm
    msz := rfl
    has := fun i => rfl
    atk := fun l hl => absurd rfl hl
    rng := fun l => ⟨Int.le_refl _, by omega⟩
    rb := by omega
    ns := ⟨fun e => by have := hlt _ e; omega, fun e => by have := hlt _ e; omega⟩
    fs := ⟨.inr (.inl rfl), .inr (.inr rfl)⟩
    fj := fun k hk => .inl hk
    lt := fun k hk => by
      simp
      rcases hk with hk | hk | hk
      · have := hlt k hk; omega
      · omega
      · omega }
/-- what stands while the records are read -/
def RpI (dec : List UInt8 → Option (List Ch)) (rs : List (List UInt8)) (sz d j mb s : Nat) (FJ : Nat → Prop) (w3 : World) (pre : List Rec) (W : World) : Prop :=
  (∃ g n M, loadR dec (rs.take pre.length) noR = some (g, n) ∧ n ≤ ((rs.take pre.length).flatten).length ∧ RfAt W s d j mb M rs g n sz false FJ (fun k => FJ k ∨ k = s ∨ k = mb)) ∧ Turn (fun k => k = mb) w3 W
theorem rpI_own (dec : List UInt8 → Option (List Ch)) (rs : List (List UInt8)) (sz d j mb s : Nat) (FJ : Nat → Prop) (w3 : World) (hlt : ∀ k, (FJ k ∨ k = s ∨ k = mb) → k < w3.heap.size) : OwnFrom w3.heap.size (RpI dec rs sz d j mb s FJ w3) := by
  rintro pre X Y row ⟨⟨g, n, M, h1, h1', h2⟩, hT⟩ hg hr
  have hk : ∀ k, (FJ k ∨ k = s ∨ k = mb) → Y.heap[k]? = X.heap[k]? := fun k hf => hg.block k (h2.lt k hf) (fun e => by
    have := (hr k e.symm).1
    have := hlt k hf
    omega)
  exact ⟨⟨g, n, M, h1, h1', h2.kept hg.size hk⟩, ⟨hg.os.trans hT.os, hg.tape.trans hT.tape, hg.output.trans hT.output, Nat.le_trans hT.size hg.size, fun k hk hn => (hg.block k (Nat.lt_of_lt_of_le hk hT.size) (fun e => by have := (hr k e.symm).1; omega)).trans (hT.block k hk hn)⟩⟩
/-- what lies behind Open -/
def ROpened (dec : List UInt8 → Option (List Ch)) (w w' : World) (d : Nat) (S : DG) (G : Nat → Prop) (e : Ending) : Prop :=
  Turn G w w' ∧ ∃ G', IsDisk w' d (S.opened refNm.data.toList).1 G' ∧ (∀ k, G' k → G k ∨ w.heap.size ≤ k) ∧
    (((S.opened refNm.data.toList).2 ≠ 0 ∧ e = .returned (.tuple #[.pointer none, .int .i64 (S.opened refNm.data.toList).2])) ∨
     ((S.opened refNm.data.toList).2 = 0 ∧ loadR dec (parseL (S.bs refNm.data.toList)).1 noR = none ∧ e = .returned (.tuple #[.pointer none, .int .i64 8])) ∨
     ((S.opened refNm.data.toList).2 = 0 ∧ ∃ g n r j b M FJ F, loadR dec (parseL (S.bs refNm.data.toList)).1 noR = some (g, n) ∧ n ≤ 4194304 ∧ e = .returned (.tuple #[.pointer (some ⟨r, 0, none⟩), .int .i64 0]) ∧ RfAt w' r d j b M (parseL (S.bs refNm.data.toList)).1 g n (parseL (S.bs refNm.data.toList)).2.1 false FJ F ∧ (∀ k, F k → w.heap.size ≤ k) ∧ (∀ k, F k → ¬ G' k)))

set_option maxRecDepth 100000 in
set_option maxHeartbeats 4000000 in
theorem ropen_any (w : World) (d : Nat) (S : DG) (G : Nat → Prop) (dec : List UInt8 → Option (List Ch)) (hdec : DecOk dec (parseL (S.bs refNm.data.toList)).1) (hd : IsDisk w d S G) (hbig : (S.bs refNm.data.toList).length ≤ 4194304) (hw : S.wr < 4611686018427387904) (hn : S.n < maxLen) :
    Calls Tryz.prog 7 #[.pointer (some ⟨d, 0, none⟩)] w fun e w' => ROpened dec w w' d S G e := by
  obtain ⟨w0, hw0⟩ : ∃ w0, w0 = (w.alloc (.cells #[.pointer none] 26)).alloc (.cells #[.int .i64 0] 27) := ⟨_, rfl⟩
  have hB0 : Below w.heap.size w w0 := by rw [hw0]; exact ((Below.refl _ w).alloc (Nat.le_refl _) _).alloc (by simp) _
  have hs0 : w0.heap.size = w.heap.size + 2 := by rw [hw0]; simp
  have bR0 : Boxed w0 w.heap.size 26 (.pointer none) := by rw [hw0]; exact (Boxed.new w _ _).alloc _
  have bE0 : Boxed w0 (w.heap.size + 1) 27 (.int .i64 0) := by
    have := Boxed.new (w.alloc (.cells #[.pointer none] 26)) 27 (.int .i64 0)
    rw [World.size_alloc] at this
    rw [hw0]; exact this
  have hx := jopen_any w0 d S G refNm (hd.below hB0) (by simp [refNm, ByteArray.size, maxLen]) hbig hw hn
  have hmx : Tryz.prog.follows .mixedOrders = true := by kernel_rfl
  refine (callsIn_wide (n := 5)).1 ?_
  refine callsIn_of_wp_marks Tryz.func7 rfl trivial ?_ rfl
  simp only [Tryz.ntmps7, List.size_toArray, List.length_cons, List.length_nil, Nat.reduceAdd, Nat.reduceSub, Array.replicate_succ, Array.replicate_zero, List.push_toArray, List.append_toArray, List.nil_append, List.cons_append]
  refine wpIn_wide.2 ?_
  have HD : Hid (IsDisk w d S G) := hd
  clear hd
  unfold refNm at hx
  go_wp2_with fail
  rw [← hw0]
  refine hx.mono ?_
  clear hx
  rintro e w1 ⟨hT1, G', hd1, hG', hcase⟩
  have hGlt : ∀ k, G k → k < w.heap.size := fun k hk => HD.out.lt k hk
  have bR1 : Boxed w1 w.heap.size 26 (.pointer none) := (hT1.block _ bR0.lt (fun hg => by have := hGlt _ hg; omega)).trans bR0
  have bE1 : Boxed w1 (w.heap.size + 1) 27 (.int .i64 0) := (hT1.block _ bE0.lt (fun hg => by have := hGlt _ hg; omega)).trans bE0
  have HT1 : Hid (Turn G w w1) := (Turn.of_below G hB0).trans hT1 (fun _ _ h => h)
  have hs1 := hT1.size
  have hcR := bR1.cell
  have hfR := bR1.frozen
  have hcE := bE1.cell
  have hfE := bE1.frozen
  rcases hcase with ⟨hne, rfl⟩ | ⟨h0, j, FJ, rfl, hJ, hFJ, hFG⟩
  · obtain ⟨er, her⟩ : ∃ er, er = (S.opened refNm.data.toList).2 := ⟨_, rfl⟩
    have HER : Hid (er = (S.opened refNm.data.toList).2 ∧ er ≠ 0) := ⟨her, by rw [her]; exact hne⟩
    have e1 : (er == 0) = false := by simp; rw [her]; exact hne
    have e2 : (er != 0) = true := by simp; rw [her]; exact hne
    have hEq : (S.opened [114, 101, 102, 115]).2 = er := her.symm
    rw [show ({ data := #[114, 101, 102, 115] } : ByteArray).data.toList = [114, 101, 102, 115] from rfl, hEq]
    clear hEq her hne
    have HGn : Hid (∀ k, G' k → (k = w.heap.size ∨ k = w.heap.size + 1) → False) := fun k hk e => by
      rcases hG' k hk with h | h
      · have := hGlt k h; omega
      · omega
    have HG : Hid (IsDisk w1 d (S.opened refNm.data.toList).1 G' ∧ ∀ k, G' k → G k ∨ w.heap.size ≤ k) := ⟨hd1, fun k hk => (hG' k hk).imp id (fun e => by omega)⟩
    clear hd1 hG' hT1 hB0 bR0 bE0 hw0
    go_wp2
    have bR2 := (bR1.set (.pointer none)).other (B' := w.heap.size + 1) (by omega) (.int .i64 er)
    have bE2 := (bE1.other (B' := w.heap.size) (by omega) (.pointer none)).set (.int .i64 er)
    have k1 := bR2.cell
    have k2 := bE2.cell
    refine rret_m (v := .tuple #[.pointer none, .int .i64 er]) (by simp [results, Tryz.results7, go_sem, k1, k2]) ?_
    have hT2 : Turn (fun k => k = w.heap.size ∨ k = w.heap.size + 1) w1 ((w1.setCell ⟨w.heap.size, 0, none⟩ (.pointer none)).setCell ⟨w.heap.size + 1, 0, none⟩ (.int .i64 er)) :=
      ((turn_setCell w1 w.heap.size 0 (.pointer none)).wide (fun k e => .inl e)).trans (turn_setCell _ (w.heap.size + 1) 0 (.int .i64 er)) (fun i _ e => .inr e)
    refine ⟨HT1.out.trans hT2 (fun i hi e => by omega), G', HG.out.1.turn hT2 (fun k hk e => (HGn.out k hk e).elim), HG.out.2, .inl ⟨by rw [← HER.out.1]; exact HER.out.2, by rw [← HER.out.1]⟩⟩
  · have hmm := @run_makeMap Tryz.prog
    have HJ : Hid (JAt w1 j d refNm (parseL (S.bs refNm.data.toList)).1 (parseL (S.bs refNm.data.toList)).2.1 false FJ ∧ (∀ k, FJ k → w0.heap.size ≤ k) ∧ ∀ k, FJ k → ¬ G' k) := ⟨hJ, hFJ, hFG⟩
    clear hJ hFJ hFG
    go_wp2_with fail
    refine (each_any _ _).mono ?_
    rintro e w' ⟨rfl, rfl⟩
    go_wp2_with fail
    obtain ⟨w3, hw3⟩ : ∃ w3, w3 = (((w1.alloc (.map #[] 0)).alloc (.cells #[.pointer (some ⟨j, 0, none⟩), .map (some w1.heap.size)] 65)).alloc (.cells #[.pointer (some ⟨w1.heap.size + 1, 0, none⟩)] 26)).alloc (.cells #[.pointer (some ⟨j, 0, none⟩)] 60) := ⟨_, rfl⟩
    obtain ⟨rs, hrs⟩ : ∃ rs, rs = (parseL (S.bs refNm.data.toList)).1 := ⟨_, rfl⟩
    obtain ⟨sz, hsz⟩ : ∃ sz, sz = (parseL (S.bs refNm.data.toList)).2.1 := ⟨_, rfl⟩
    rw [← hrs, ← hsz] at HJ
    have hS2 := RfAt.new HJ.out.1
    have hS3 : RfAt w3 (w1.heap.size + 1) d j w1.heap.size (.map []) rs (fun _ => 0) 0 sz false FJ (fun k => FJ k ∨ k = w1.heap.size + 1 ∨ k = w1.heap.size) := by
      rw [hw3]; exact hS2.below (((Below.refl _ _).alloc (Nat.le_refl _) _).alloc (by simp) _)
    have hs3 : w3.heap.size = w1.heap.size + 4 := by rw [hw3]; simp
    have hB13 : Below w1.heap.size w1 w3 := by rw [hw3]; exact ((((Below.refl _ w1).alloc (Nat.le_refl _) _).alloc (by simp) _).alloc (by simp only [World.size_alloc]; omega) _).alloc (by simp only [World.size_alloc]; omega) _
    have bS3 : Boxed w3 (w1.heap.size + 2) 26 (.pointer (some ⟨w1.heap.size + 1, 0, none⟩)) := by
      have := (Boxed.new ((w1.alloc (.map #[] 0)).alloc (.cells #[.pointer (some ⟨j, 0, none⟩), .map (some w1.heap.size)] 65)) 26 (.pointer (some ⟨w1.heap.size + 1, 0, none⟩))).alloc (.cells #[.pointer (some ⟨j, 0, none⟩)] 60)
      rw [World.size_alloc, World.size_alloc] at this
      rw [hw3]; exact this
    have bB3 : Boxed w3 (w1.heap.size + 3) 60 (.pointer (some ⟨j, 0, none⟩)) := by
      have := Boxed.new (((w1.alloc (.map #[] 0)).alloc (.cells #[.pointer (some ⟨j, 0, none⟩), .map (some w1.heap.size)] 65)).alloc (.cells #[.pointer (some ⟨w1.heap.size + 1, 0, none⟩)] 26)) 60 (.pointer (some ⟨j, 0, none⟩))
      rw [World.size_alloc, World.size_alloc, World.size_alloc] at this
      rw [hw3]; exact this
    have bR3 : Boxed w3 w.heap.size 26 (.pointer none) := (hB13.block _ bR1.lt).trans bR1
    have bE3 : Boxed w3 (w.heap.size + 1) 27 (.int .i64 0) := (hB13.block _ bE1.lt).trans bE1
    have hrl : ∀ r ∈ rs, r.length ≤ 549755813888 := by
      intro r hr
      have h1 := HJ.out.1.cnt
      have h2 := HJ.out.1.small
      have h3 : r.length ≤ rs.flatten.length := by
        obtain ⟨a, b, e⟩ := List.append_of_mem hr
        rw [e]; simp; omega
      omega
    have hcount : rs.length ≤ 4194304 := by have h1 := HJ.out.1.cnt; have h2 := HJ.out.1.small; omega
    have hjlt : ∀ k, (FJ k ∨ k = w1.heap.size + 1 ∨ k = w1.heap.size) → k < w3.heap.size := fun k hk => by
      rcases hk with hk | hk | hk
      · have := HJ.out.1.lt k hk; omega
      · omega
      · omega
    have HREL : Hid (rs = (parseL (S.bs refNm.data.toList)).1 ∧ sz = (parseL (S.bs refNm.data.toList)).2.1) := ⟨hrs, hsz⟩
    have HG : Hid (IsDisk w1 d (S.opened refNm.data.toList).1 G' ∧ (∀ k, G' k → G k ∨ w.heap.size ≤ k) ∧ (S.opened refNm.data.toList).2 = 0 ∧ ∀ k, G' k → k ≠ w.heap.size ∧ k ≠ w.heap.size + 1) := ⟨hd1, fun k hk => (hG' k hk).imp id (fun e => by omega), h0, fun k hk => (hG' k hk).elim (fun e => by have := hGlt k e; omega) (fun e => by omega)⟩
    have HEND : Hid (∀ Z, Turn (fun k => k = w1.heap.size + 1 ∨ k = w1.heap.size ∨ k = w.heap.size ∨ k = w.heap.size + 1) w3 Z → Turn G w Z ∧ IsDisk Z d (S.opened refNm.data.toList).1 G') := fun Z hZ =>
      ⟨(HT1.out.trans (Turn.of_below G hB13) (fun _ _ h => h)).trans hZ (fun i hi e => by omega), (HG.out.1.below hB13).turn hZ (fun k hk e => by have := HG.out.1.lt k hk; have := HG.out.2.2.2 k hk; omega)⟩
    rw [← hw3]
    clear hw3 hrs hsz hd1 hG' h0 hcR hfR hcE hfE hw0 bR0 bE0 hmm
    refine (wpIn_wide (n := 5)).1 ?_
    refine range_both (w := w3) rfl (by omega) (gf := 47) (lb := #[.pointer (some ⟨w1.heap.size + 1 + 1 + 1, 0, none⟩)]) rfl trivial (enters_of Tryz.func47 (by kernel_rfl) rfl)
      (each_tellsB w3 j d refNm rs sz false FJ hS3.jr (w1.heap.size + 1 + 1 + 1) bB3.cell 4 (by omega)) (fun _ => rfl) (fun k hk => hk.elim (fun h => hjlt k (.inl h)) (fun e => by omega))
      (RpI dec rs sz d j w1.heap.size (w1.heap.size + 1) FJ w3)
      (fun c _ W => c = .ret ∧ loadR dec rs noR = none ∧ Boxed W w.heap.size 26 (.pointer none) ∧ Boxed W (w.heap.size + 1) 27 (.int .i64 8) ∧ Turn (fun k => k = w1.heap.size + 1 ∨ k = w1.heap.size ∨ k = w.heap.size ∨ k = w.heap.size + 1) w3 W)
      (rpI_own dec rs sz d j w1.heap.size (w1.heap.size + 1) FJ w3 hjlt) ?ix ?px ⟨⟨_, _, _, rfl, Nat.zero_le _, hS3⟩, Turn.refl _ _⟩
      ?act ?assign ?body ?done ?stop
    case assign =>
      intro l x W K hK
      gi_wp2
      exact hK
    case ix =>
      rintro c pre X Y row ⟨h1, h2, h3, h4, hT⟩ hg hr
      refine ⟨h1, h2, h3.kept hg (fun e => ?_), h4.kept hg (fun e => ?_), ⟨hg.os.trans hT.os, hg.tape.trans hT.tape, hg.output.trans hT.output, Nat.le_trans hT.size hg.size, fun k hk hn => (hg.block k (Nat.lt_of_lt_of_le hk hT.size) (fun e => by have := (hr k e.symm).1; omega)).trans (hT.block k hk hn)⟩⟩
      · have := (hr _ e.symm).1; omega
      · have := (hr _ e.symm).1; omega
    case px =>
      intro pre x s X Y row hs hg hr
      exact ⟨hs.1, hs.2.1, hs.2.2.1, hs.2.2.2.1, fun h0 => by
        obtain ⟨b, off, e, hc⟩ := hs.2.2.2.2 h0
        exact ⟨b, off, e, fun i hi => cell_kept (hc i hi) hg (fun r e => (hr r e).2)⟩⟩
    case body =>
      rintro l pre ⟨k, lx, ax, cx⟩ W hl3 ⟨⟨g, n, M, hld, hnl, hRf⟩, hTW⟩ ⟨hxk, hxlt, hxl, hxb⟩
      simp only at hxk hxlt hxl hxb ⊢
      have hmem : lx ∈ (parseL (S.bs refNm.data.toList)).1 := by rw [hxl, ← HREL.out.1]; exact List.mem_of_getElem? (rc_get rs k hxlt)
      have hlm : lx.length ≤ 549755813888 := by
        rw [hxl]; exact hrl _ (List.mem_of_getElem? (rc_get rs k hxlt))
      have hdc := hdec lx hmem W ax cx hxb
      rw [← hxk] at hld hnl
      have hfl : (rs.take (k + 1)).flatten.length = (rs.take k).flatten.length + lx.length := by
        rw [List.take_add_one, rc_get rs k hxlt, ← hxl]; simp
      have hfl2 : (rs.take k).flatten.length ≤ rs.flatten.length := by
        have e : rs.flatten = (rs.take k).flatten ++ (rs.drop k).flatten := by rw [← List.flatten_append, List.take_append_drop]
        rw [e, List.length_append]; omega
      have hn4 : n ≤ 4194304 := by have h1 := HJ.out.1.cnt; have h2 := HJ.out.1.small; omega
      have cS := (Turn.cell hTW bS3.cell (by simp only; omega))
      have hcl := World.block_lt_of_cell? W _ cS
      have bRW : Boxed W w.heap.size 26 (.pointer none) := (hTW.block _ bR3.lt (by omega)).trans bR3
      have bEW : Boxed W (w.heap.size + 1) 27 (.int .i64 0) := (hTW.block _ bE3.lt (by omega)).trans bE3
      have HBX : Hid (∀ W', Below W.heap.size W W' → W'.cell? ⟨w1.heap.size + 2, 0, none⟩ = some (.pointer (some ⟨w1.heap.size + 1, 0, none⟩)) ∧ Boxed W' w.heap.size 26 (.pointer none) ∧ Boxed W' (w.heap.size + 1) 27 (.int .i64 0)) := fun W' hB => ⟨(hB.cell (p := ⟨w1.heap.size + 2, 0, none⟩) hcl).trans cS, (hB.block _ bRW.lt).trans bRW, (hB.block _ bEW.lt).trans bEW⟩
      have HTW : Hid (Turn (fun k => k = w1.heap.size) w3 W) := hTW
      have HRF : Hid (RfAt W (w1.heap.size + 1) d j w1.heap.size M rs g n sz false FJ (fun k => FJ k ∨ k = w1.heap.size + 1 ∨ k = w1.heap.size)) := hRf
      have HSTOP : Hid (∀ W1, Below W.heap.size W W1 → loadR dec rs noR = none → Boxed W1 w.heap.size 26 (.pointer none) → Boxed W1 (w.heap.size + 1) 27 (.int .i64 0) → KeepsFrom w3.heap.size W ((W1.setCell ⟨w.heap.size, 0, none⟩ (.pointer none)).setCell ⟨w.heap.size + 1, 0, none⟩ (.int .i64 8)) ∧ Code.ret = Code.ret ∧ loadR dec rs noR = none ∧ Boxed ((W1.setCell ⟨w.heap.size, 0, none⟩ (.pointer none)).setCell ⟨w.heap.size + 1, 0, none⟩ (.int .i64 8)) w.heap.size 26 (.pointer none) ∧ Boxed ((W1.setCell ⟨w.heap.size, 0, none⟩ (.pointer none)).setCell ⟨w.heap.size + 1, 0, none⟩ (.int .i64 8)) (w.heap.size + 1) 27 (.int .i64 8) ∧ Turn (fun k => k = w1.heap.size + 1 ∨ k = w1.heap.size ∨ k = w.heap.size ∨ k = w.heap.size + 1) w3 ((W1.setCell ⟨w.heap.size, 0, none⟩ (.pointer none)).setCell ⟨w.heap.size + 1, 0, none⟩ (.int .i64 8))) := fun W1 hB1 hno bR bE => by
        have hT2 : Turn (fun k => k = w.heap.size ∨ k = w.heap.size + 1) W ((W1.setCell ⟨w.heap.size, 0, none⟩ (.pointer none)).setCell ⟨w.heap.size + 1, 0, none⟩ (.int .i64 8)) :=
          (Turn.of_below _ hB1).trans (((turn_setCell W1 w.heap.size 0 (.pointer none)).wide (fun k e => .inl e)).trans (turn_setCell _ (w.heap.size + 1) 0 (.int .i64 8)) (fun i _ e => .inr e)) (fun _ _ e => e)
        exact ⟨rkeepsFrom_turn hT2 (fun k o hk hB _ => by omega), rfl, hno, (bR.set (.pointer none)).other (by omega) _, (bE.other (by omega) _).set _, (HTW.out.wide (fun k e => .inr (.inl e))).trans hT2 (fun i _ e => e.elim (fun e => .inr (.inr (.inl e))) (fun e => .inr (.inr (.inr e))))⟩
      cases hdcs : dec lx with
      | none =>
        have HNo : Hid (loadR dec rs noR = none) := loadR_none hld hxlt (.inl (by rw [← hxl]; exact hdcs))
        rw [hdcs] at hdc
        simp only [Option.isSome_none] at hdc
        clear hRf hld hnl hTW hdcs hxb hxl bRW bEW hfl hfl2 hmem
        gi_wp2_with (refine ⟨trivial, ?_⟩; gi_at_call 22; refine (callsIn_wide.2 hdc).mono ?_; clear hdc; rintro e W1 ⟨ad, cp, L, rfl, _, _, _, _, _, _, hB1⟩; obtain ⟨cB, bR, bE⟩ := HBX.out W1 hB1; have cR := bR.cell; have fR := bR.frozen; have cE := bE.cell; have fE := bE.frozen)
        refine ⟨trivial, ?_⟩
        gi_wp2
        have hh := HSTOP.out W1 hB1 HNo.out bR bE
        exact ⟨hh.1, rfl, hh.2.2⟩
      | some L0 =>
        rw [hdcs] at hdc
        simp only [Option.isSome_some] at hdc
        by_cases hck : chkR g n L0 = 0
        · have HL : Hid (loadR dec (rs.take (k + 1)) noR = some (applyR (g, n) L0)) := loadR_next hld hxlt L0 (by rw [← hxl]; exact hdcs) hck
          have HK : Hid (k = pre.length ∧ n ≤ (rs.take k).flatten.length ∧ (rs.take (k + 1)).flatten.length = (rs.take k).flatten.length + lx.length) := ⟨hxk, hnl, hfl⟩
          have HC : Hid (chkR g n L0 = 0) := hck
          clear hRf hld hnl hTW hdcs hxb hxl bRW bEW hfl hfl2 hmem hck hxk
          gi_wp2_with first
            | (refine ⟨trivial, ?_⟩; gi_at_call 22; refine (callsIn_wide.2 hdc).mono ?_; clear hdc; rintro e W1 ⟨ad, cp, L, rfl, hLe, hCh, hfr, hsh, hid, hll, hB1⟩; have hLe' := hLe L0 rfl; subst hLe'; obtain ⟨cB, bR, bE⟩ := HBX.out W1 hB1; have hchk := check_all W1 _ d j _ M rs g n sz false FJ _ (HRF.out.below hB1) ad L.length cp L hCh hsh (by omega) (by omega); rw [HC.out] at hchk; have H1 : Hid (Chs W1 ad L.length L ∧ (∀ x, ad = some x → W.heap.size ≤ x.block) ∧ ShortR L ∧ (∀ x ∈ L, 0 ≤ x.2 ∧ x.2 ≤ 18446744073709551615) ∧ L.length ≤ lx.length ∧ Below W.heap.size W W1) := ⟨hCh, hfr, hsh, hid, hll, hB1⟩; clear hLe hCh hfr hsh hid hll hB1)
            | (refine ⟨trivial, ?_⟩; gi_at_call 23; refine (callsIn_wide.2 hchk).mono ?_; clear hchk; rintro e W2 ⟨rfl, hB2⟩; have hB02 : Below W.heap.size W W2 := H1.out.2.2.2.2.2.trans (hB2.mono H1.out.2.2.2.2.2.size); obtain ⟨cB2, bR2, bE2⟩ := HBX.out W2 hB02; have happ := apply_any W2 _ d j _ M rs g n sz false FJ _ (HRF.out.below hB02) ad L.length cp L (H1.out.1.kept hB2) H1.out.2.2.1 H1.out.2.2.2.1 (by have := H1.out.2.2.2.2.1; omega) (by omega) (fun x hx e => by have h1 := H1.out.2.1 x hx; have h2 := HRF.out.lt _ (.inr (.inr rfl)); omega); have H2 : Hid (Below W.heap.size W W2) := hB02; clear hB2 hB02)
            | (refine ⟨trivial, ?_⟩; gi_at_call 24; refine (callsIn_wide.2 happ).mono ?_; clear happ; rintro e W3 ⟨rfl, hT3, M3, hR3⟩; have H3 : Hid (Turn (fun k => k = w1.heap.size) W W3 ∧ RfAt W3 (w1.heap.size + 1) d j w1.heap.size M3 rs (applyR (g, n) L).1 (applyR (g, n) L).2 sz false FJ (fun k => FJ k ∨ k = w1.heap.size + 1 ∨ k = w1.heap.size)) := ⟨(Turn.of_below _ H2.out).trans hT3 (fun _ _ e => e), hR3⟩; clear hT3 hR3)
          obtain ⟨hTT, hR3⟩ := H3.out
          have hsW := HTW.out.size
          refine ⟨rkeepsFrom_turn hTT (fun q o' hq hB ho => by omega), ⟨hTT.size, fun q hq => hTT.block q ?_ ?_⟩, ⟨(applyR (g, n) L).1, (applyR (g, n) L).2, M3, by rw [List.length_append, ← HK.out.1]; exact HL.out, ?_, hR3⟩, HTW.out.trans hTT (fun q hq e => e)⟩
          · rcases hq with e | e
            · have := hjlt q (.inl e); omega
            · omega
          · intro e
            rcases hq with h | h
            · subst e; exact HRF.out.ns.2 h
            · omega
          · rw [List.length_append, ← HK.out.1]
            have h1 := applyR_n (g, n) L
            have h2 := HK.out.2.1
            have h3 := HK.out.2.2
            have h4 := H1.out.2.2.2.2.1
            simp only [List.length_cons, List.length_nil, Nat.zero_add] at h1 ⊢
            omega
        · have HNo : Hid (loadR dec rs noR = none) := loadR_none hld hxlt (.inr ⟨L0, by rw [← hxl]; exact hdcs, hck⟩)
          have hck' : (chkR g n L0 == 0) = false := beq_eq_false_iff_ne.2 hck
          clear hRf hld hnl hTW hdcs hxb hxl bRW bEW hfl hfl2 hmem hck hxk
          gi_wp2_with first
            | (refine ⟨trivial, ?_⟩; gi_at_call 22; refine (callsIn_wide.2 hdc).mono ?_; clear hdc; rintro e W1 ⟨ad, cp, L, rfl, hLe, hCh, hfr, hsh, hid, hll, hB1⟩; have hLe' := hLe L0 rfl; subst hLe'; obtain ⟨cB, bR, bE⟩ := HBX.out W1 hB1; have hchk := check_all W1 _ d j _ M rs g n sz false FJ _ (HRF.out.below hB1) ad L.length cp L hCh hsh (by omega) (by omega); have H1 : Hid (Below W.heap.size W W1) := hB1; clear hLe hCh hfr hsh hid hll hB1; generalize chkR g n L = ce at *)
            | (refine ⟨trivial, ?_⟩; gi_at_call 23; refine (callsIn_wide.2 hchk).mono ?_; clear hchk; rintro e W2 ⟨rfl, hB2⟩; have hB02 : Below W.heap.size W W2 := H1.out.trans (hB2.mono H1.out.size); obtain ⟨cB2, bR2, bE2⟩ := HBX.out W2 hB02; have cR := bR2.cell; have fR := bR2.frozen; have cE := bE2.cell; have fE := bE2.frozen; have H2 : Hid (Below W.heap.size W W2) := hB02; clear hB2 hB02)
          have hh := HSTOP.out W2 H2.out HNo.out bR2 bE2
          exact ⟨hh.1, rfl, hh.2.2⟩
    case done =>
      rintro D xs W hD hS ⟨⟨g, n, M, hld, hnl, hRf⟩, hTW⟩ hK
      have hxl : xs.length = rs.length := hS.1
      rw [hxl, List.take_length] at hld hnl
      have cS := (Turn.cell hTW bS3.cell (by simp only; omega))
      have bRW : Boxed W w.heap.size 26 (.pointer none) := (hTW.block _ bR3.lt (by omega)).trans bR3
      have bEW : Boxed W (w.heap.size + 1) 27 (.int .i64 0) := (hTW.block _ bE3.lt (by omega)).trans bE3
      have cR := bRW.cell
      have fR := bRW.frozen
      have cE := bEW.cell
      have fE := bEW.frozen
      have H : Hid (loadR dec rs noR = some (g, n) ∧ n ≤ rs.flatten.length ∧ RfAt W (w1.heap.size + 1) d j w1.heap.size M rs g n sz false FJ (fun k => FJ k ∨ k = w1.heap.size + 1 ∨ k = w1.heap.size) ∧ Turn (fun k => k = w1.heap.size) w3 W ∧ W.heap[D]? = some (.deferred (some [])) ∧ w3.heap.size ≤ D) := ⟨hld, hnl, hRf, hTW, hK, hD⟩
      have HB : Hid (Boxed W w.heap.size 26 (.pointer none) ∧ Boxed W (w.heap.size + 1) 27 (.int .i64 0)) := ⟨bRW, bEW⟩
      clear hld hnl hRf hTW hK hD hS hxl bRW bEW
      go_wp2_with fail
      have bR2 := (HB.out.1.set (.pointer (some ⟨w1.heap.size + 1, 0, none⟩))).other (B' := w.heap.size + 1) (by omega) (.int .i64 0)
      have bE2 := (HB.out.2.other (B' := w.heap.size) (by omega) (.pointer (some ⟨w1.heap.size + 1, 0, none⟩))).set (.int .i64 0)
      obtain ⟨hld, hnl, hRf, hTW, hK, hD⟩ := H.out
      have hK2 : ((W.setCell ⟨w.heap.size, 0, none⟩ (.pointer (some ⟨w1.heap.size + 1, 0, none⟩))).setCell ⟨w.heap.size + 1, 0, none⟩ (.int .i64 0)).heap[D]? = some (.deferred (some [])) := by
        rw [Below.heap_setCell _ _ _ _ (by show D ≠ w.heap.size + 1; omega), Below.heap_setCell _ _ _ _ (by show D ≠ w.heap.size; omega)]; exact hK
      have k1 := (bR2.kept (grownBy_putObj' _ D (.deferred none)) (by simp; omega)).cell
      have k2 := (bE2.kept (grownBy_putObj' _ D (.deferred none)) (by simp; omega)).cell
      have hT2 : Turn (fun k => k = w1.heap.size + 1 ∨ k = w1.heap.size ∨ k = w.heap.size ∨ k = w.heap.size + 1) w3 ((W.setCell ⟨w.heap.size, 0, none⟩ (.pointer (some ⟨w1.heap.size + 1, 0, none⟩))).setCell ⟨w.heap.size + 1, 0, none⟩ (.int .i64 0)) :=
        ((hTW.wide (fun k e => .inr (.inl e))).trans (turn_setCell W w.heap.size 0 (.pointer (some ⟨w1.heap.size + 1, 0, none⟩))) (fun i _ e => .inr (.inr (.inl e)))).trans (turn_setCell _ (w.heap.size + 1) 0 (.int .i64 0)) (fun i _ e => .inr (.inr (.inr e)))
      have hE := HEND.out _ (rturn_put (.deferred none) hT2 hD)
      have hn4 : n ≤ 4194304 := by have h1 := HJ.out.1.cnt; have h2 := HJ.out.1.small; omega
      refine rfin_m (v := .tuple #[.pointer (some ⟨w1.heap.size + 1, 0, none⟩), .int .i64 0]) hK2 (by simp [results, Tryz.results7, go_sem, k1, k2]) ⟨hE.1, G', hE.2, HG.out.2.1, .inr (.inr ⟨HG.out.2.2.1, g, n, w1.heap.size + 1, j, w1.heap.size, M, FJ, (fun k => FJ k ∨ k = w1.heap.size + 1 ∨ k = w1.heap.size), by rw [← HREL.out.1]; exact hld, hn4, rfl, ?_, ?_, ?_⟩)⟩
      · rw [← HREL.out.2, ← HREL.out.1]
        refine hRf.kept (by simp) fun k hk => ?_
        have hkD : k ≠ D := fun e => by have := hjlt k hk; omega
        have hkR : k ≠ w.heap.size ∧ k ≠ w.heap.size + 1 := by
          rcases hk with h | h | h
          · have := HJ.out.2.1 k h; omega
          · omega
          · omega
        rw [World.putObj_heap_other (by exact hkD), Below.heap_setCell _ _ _ _ (by exact hkR.2), Below.heap_setCell _ _ _ _ (by exact hkR.1)]
      · intro k hk
        rcases hk with h | h | h
        · have := HJ.out.2.1 k h; omega
        · omega
        · omega
      · intro k hk hg
        have hgl := HG.out.1.lt k hg
        rcases hk with h | h | h
        · exact HJ.out.2.2 k h hg
        · omega
        · omega
    case stop =>
      rintro D c pre W hD ⟨rfl, hno, bR, bE, hTW⟩ hK
      have H : Hid (loadR dec rs noR = none ∧ Boxed W w.heap.size 26 (.pointer none) ∧ Boxed W (w.heap.size + 1) 27 (.int .i64 8) ∧ Turn (fun k => k = w1.heap.size + 1 ∨ k = w1.heap.size ∨ k = w.heap.size ∨ k = w.heap.size + 1) w3 W ∧ W.heap[D]? = some (.deferred (some [])) ∧ w3.heap.size ≤ D) := ⟨hno, bR, bE, hTW, hK, hD⟩
      clear hno bR bE hTW hK hD
      gi_wp2
      go_wp2_with fail
      obtain ⟨hno, bR, bE, hTW, hK, hD⟩ := H.out
      have k1 := (bR.kept (grownBy_putObj' _ D (.deferred none)) (by simp; omega)).cell
      have k2 := (bE.kept (grownBy_putObj' _ D (.deferred none)) (by simp; omega)).cell
      have hE := HEND.out _ (rturn_put (.deferred none) hTW hD)
      exact rfin_m (v := .tuple #[.pointer none, .int .i64 8]) hK (by simp [results, Tryz.results7, go_sem, k1, k2]) ⟨hE.1, G', hE.2, HG.out.2.1, .inr (.inl ⟨HG.out.2.2.1, by rw [← HREL.out.1]; exact hno, rfl⟩)⟩
end Go.Proofs.YtiafhbpklddlnaaGreatDoor
