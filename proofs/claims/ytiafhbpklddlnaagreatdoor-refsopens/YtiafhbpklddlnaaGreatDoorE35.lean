import Derived.Test.YtiafhbpklddlnaaGreatDoorE31
/- Plain: the document's refs, a list of names rising: a change, and what it makes of the list. -/
namespace Go.Proofs.YtiafhbpklddlnaaGreatDoor
open Go.RowKit Go.Shelf Go.Maps

/-- names rise -/
def RiseR (L : List Ch) : Prop := L.Pairwise (fun x y => bs x.1 < bs y.1)
/-- the list has just the names that lead somewhere -/
def MemR (g : List UInt8 → Int) (L : List Ch) : Prop := ∀ x : Ch, x ∈ L ↔ (g (bs x.1) = x.2 ∧ x.2 ≠ 0)
theorem arr_bs (s : ByteArray) : (⟨(bs s).toArray⟩ : ByteArray) = s := by
  cases s; simp [bs]
theorem lt_of_le_ne {a b : List UInt8} (h : a ≤ b) (hn : a ≠ b) : a < b := by
  rcases List.le_iff_lt_or_eq.1 h with h | h
  · exact h
  · exact absurd h hn
theorem AllR.rise {g : List UInt8 → Int} {n : Nat} {L : List Ch} (h : AllR g n L) : RiseR L := by
  obtain ⟨ks, hn, hm, _, rfl⟩ := h
  unfold RiseR
  rw [List.pairwise_map]
  have h1 : (ks.mergeSort leB).Pairwise (fun a b => leB a b = true) := List.pairwise_mergeSort (fun a b c h1 h2 => by
    simp only [leB, decide_eq_true_eq] at h1 h2 ⊢
    exact List.le_trans h1 h2) (fun a b => by
    simp only [leB, Bool.or_eq_true, decide_eq_true_eq]
    exact List.le_total a b) ks
  have h2 : (ks.mergeSort leB).Nodup := (List.mergeSort_perm ks leB).nodup_iff.2 hn
  refine (h1.and h2).imp fun {a b} hab => ?_
  simp only [bs_arr]
  exact lt_of_le_ne (by simpa [leB] using hab.1) hab.2
theorem AllR.memr {g : List UInt8 → Int} {n : Nat} {L : List Ch} (h : AllR g n L) : MemR g L := by
  intro x
  refine ⟨fun hx => h.mem hx, fun hx => ?_⟩
  obtain ⟨ks, hn, hm, _, rfl⟩ := h
  refine List.mem_map.2 ⟨bs x.1, (List.mergeSort_perm ks leB).mem_iff.2 ((hm _).2 (by rw [hx.1]; exact hx.2)), ?_⟩
  rw [arr_bs, hx.1]
theorem allR_of {g : List UInt8 → Int} {L : List Ch} (hr : RiseR L) (hm : MemR g L) : AllR g L.length L := by
  have hs : (L.map fun x => bs x.1).Pairwise (fun a b => a < b) := List.pairwise_map.2 hr
  have hnd : (L.map fun x => bs x.1).Nodup := hs.imp fun {a b} h e => by subst e; exact List.lt_irrefl a h
  refine ⟨L.map fun x => bs x.1, hnd, fun k => ?_, by simp, ?_⟩
  · rw [List.mem_map]
    constructor
    · rintro ⟨x, hx, rfl⟩
      have := (hm x).1 hx
      rw [this.1]; exact this.2
    · intro hk
      exact ⟨(⟨k.toArray⟩, g k), (hm _).2 ⟨by rw [bs_arr], hk⟩, bs_arr k⟩
  · have h1 : (L.map fun x => bs x.1).mergeSort leB = L.map fun x => bs x.1 := List.mergeSort_of_pairwise (hs.imp fun {a b} h => by simpa [leB] using List.le_of_lt h)
    rw [h1, List.map_map]
    symm
    refine (List.map_congr_left fun x hx => ?_).trans (List.map_id L)
    simp only [Function.comp, id]
    rw [arr_bs, ((hm x).1 hx).1]

/-- the list with a change, as the document makes it -/
def withFrom (c : Ch) : Bool → List Ch → List Ch
  | laid, [] => if laid then [] else [c]
  | laid, x :: r => (if laid = false ∧ bs c.1 < bs x.1 then [c] else []) ++ ((if bs x.1 = bs c.1 then [] else [x]) ++ withFrom c (laid || decide (bs c.1 < bs x.1)) r)
def withR (L : List Ch) (c : Ch) : List Ch := withFrom c (c.2 == 0) L
theorem withFrom_true (c : Ch) : ∀ L : List Ch, withFrom c true L = L.filter (fun x => decide (bs x.1 ≠ bs c.1))
  | [] => rfl
  | x :: r => by
    unfold withFrom
    simp only [Bool.true_eq_false, false_and, if_false, List.nil_append, Bool.true_or, withFrom_true c r, List.filter_cons]
    by_cases e : bs x.1 = bs c.1 <;> simp [e]
theorem withFrom_false (c : Ch) : ∀ L : List Ch, RiseR L → RiseR (withFrom c false L) ∧ ∀ x, x ∈ withFrom c false L ↔ (x = c ∨ (x ∈ L ∧ bs x.1 ≠ bs c.1))
  | [], _ => by simp [withFrom, RiseR]
  | y :: r, h => by
    obtain ⟨hy, hr⟩ := List.pairwise_cons.1 h
    obtain ⟨i1, i2⟩ := withFrom_false c r hr
    unfold withFrom
    by_cases hlt : bs c.1 < bs y.1
    · have hne : bs y.1 ≠ bs c.1 := fun e => by rw [e] at hlt; exact List.lt_irrefl _ hlt
      simp only [hlt, and_self, if_true, if_neg hne, decide_true, Bool.false_or, withFrom_true]
      have hrc : ∀ x ∈ r, bs x.1 ≠ bs c.1 := fun x hx e => by
        have := List.lt_trans hlt (hy x hx)
        rw [e] at this
        exact List.lt_irrefl _ this
      have hf : r.filter (fun x => decide (bs x.1 ≠ bs c.1)) = r := List.filter_eq_self.2 fun x hx => by simpa using hrc x hx
      rw [hf]
      constructor
      · refine List.pairwise_cons.2 ⟨fun x hx => ?_, h⟩
        rcases List.mem_cons.1 hx with rfl | hx
        · exact hlt
        · exact List.lt_trans hlt (hy x hx)
      · intro x
        simp only [List.cons_append, List.nil_append, List.mem_cons]
        constructor
        · rintro (e | e | e)
          · exact .inl e
          · exact .inr ⟨.inl e, by rw [e]; exact hne⟩
          · exact .inr ⟨.inr e, hrc x e⟩
        · rintro (e | ⟨e | e, _⟩)
          · exact .inl e
          · exact .inr (.inl e)
          · exact .inr (.inr e)
    · simp only [hlt, and_false, if_false, List.nil_append, decide_false, Bool.false_or]
      by_cases e : bs y.1 = bs c.1
      · rw [if_pos e, List.nil_append]
        refine ⟨i1, fun x => (i2 x).trans ?_⟩
        constructor
        · rintro (h | ⟨h, h'⟩)
          · exact .inl h
          · exact .inr ⟨List.mem_cons_of_mem _ h, h'⟩
        · rintro (h | ⟨h, h'⟩)
          · exact .inl h
          · rcases List.mem_cons.1 h with rfl | h
            · exact absurd e h'
            · exact .inr ⟨h, h'⟩
      · rw [if_neg e]
        have hyc : bs y.1 < bs c.1 := lt_of_le_ne (List.not_lt.1 hlt) e
        constructor
        · refine List.pairwise_cons.2 ⟨fun x hx => ?_, i1⟩
          rcases (i2 x).1 hx with rfl | ⟨h, _⟩
          · exact hyc
          · exact hy x h
        · intro x
          show x ∈ y :: withFrom c false r ↔ _
          rw [List.mem_cons, i2]
          constructor
          · rintro (rfl | h | ⟨h, h'⟩)
            · exact .inr ⟨List.mem_cons_self .., e⟩
            · exact .inl h
            · exact .inr ⟨List.mem_cons_of_mem _ h, h'⟩
          · rintro (h | ⟨h, h'⟩)
            · exact .inr (.inl h)
            · rcases List.mem_cons.1 h with rfl | h
              · exact .inl rfl
              · exact .inr (.inr ⟨h, h'⟩)
theorem withR_all {g : List UInt8 → Int} {n : Nat} {L : List Ch} (h : AllR g n L) (c : Ch) : AllR (setR g (bs c.1) c.2) (withR L c).length (withR L c) := by
  have hr := h.rise
  have hm := h.memr
  have key : RiseR (withR L c) ∧ ∀ x, x ∈ withR L c ↔ ((x = c ∧ c.2 ≠ 0) ∨ (x ∈ L ∧ bs x.1 ≠ bs c.1)) := by
    unfold withR
    by_cases h0 : c.2 = 0
    · rw [h0, show ((0 : Int) == 0) = true from rfl, withFrom_true]
      refine ⟨List.Pairwise.sublist List.filter_sublist hr, fun x => ?_⟩
      rw [List.mem_filter]
      simp
    · have : (c.2 == 0) = false := beq_eq_false_iff_ne.2 h0
      rw [this]
      obtain ⟨h1, h2⟩ := withFrom_false c L hr
      refine ⟨h1, fun x => (h2 x).trans ?_⟩
      simp [h0]
  refine allR_of key.1 fun x => ?_
  rw [key.2, hm]
  simp only [setR]
  by_cases e : bs x.1 = bs c.1
  · rw [if_pos e]
    constructor
    · rintro (⟨rfl, h⟩ | ⟨_, h⟩)
      · exact ⟨rfl, h⟩
      · exact absurd e h
    · rintro ⟨h1, h2⟩
      refine .inl ⟨?_, by rw [h1]; exact h2⟩
      obtain ⟨x1, x2⟩ := x
      obtain ⟨c1, c2⟩ := c
      simp only at e h1 ⊢
      rw [← arr_bs x1, e, arr_bs, h1]
  · rw [if_neg e]
    constructor
    · rintro (⟨rfl, _⟩ | ⟨h, _⟩)
      · exact absurd rfl e
      · exact h
    · exact fun h => .inr ⟨h, e⟩
/-- the first thing wrong with changes, their number not looked at -/
def errFrom (g : List UInt8 → Int) : (List UInt8 → Bool) → List Ch → Int
  | _, [] => 0
  | A, x :: r => if chgErr g A x.1 x.2 ≠ 0 then chgErr g A x.1 x.2 else errFrom g (addA A (bs x.1)) r
def cntFrom (g : List UInt8 → Int) : Int → List Ch → Int
  | c, [] => c
  | c, x :: r => cntFrom g (c + growR g x.1 x.2) r
theorem chkFrom_err (g : List UInt8 → Int) : ∀ (l : List Ch) (A : List UInt8 → Bool) (c : Int), errFrom g A l ≠ 0 → chkFrom g A c l = errFrom g A l
  | [], A, c, h => absurd rfl h
  | x :: r, A, c, h => by
    unfold errFrom at h
    unfold chkFrom errFrom
    by_cases e : chgErr g A x.1 x.2 = 0
    · rw [if_neg (not_not_intro e)] at h ⊢
      rw [if_neg (not_not_intro e)]
      exact chkFrom_err g r _ _ h
    · rw [if_pos e, if_pos e]
theorem chkFrom_cnt (g : List UInt8 → Int) : ∀ (l : List Ch) (A : List UInt8 → Bool) (c : Int), errFrom g A l = 0 → chkFrom g A c l = if 64 < cntFrom g c l then 3 else 0
  | [], A, c, _ => rfl
  | x :: r, A, c, h => by
    unfold errFrom at h
    unfold chkFrom cntFrom
    by_cases e : chgErr g A x.1 x.2 = 0
    · rw [if_neg (not_not_intro e)] at h ⊢
      exact chkFrom_cnt g r _ _ h
    · rw [if_pos e] at h; exact absurd h e
theorem cnt_news (g : List UInt8 → Int) : ∀ (l : List Ch) (A : List UInt8 → Bool) (c : Int) (q : (List UInt8 → Int) × Nat), errFrom g A l = 0 → CntR q.1 q.2 → (∀ k, A k = false → q.1 k = g k) → (q.2 : Int) = c → ((applyR q (newsR g l)).2 : Int) = cntFrom g c l
  | [], A, c, q, _, _, _, hq => hq
  | x :: r, A, c, q, h, hc, hA, hq => by
    unfold errFrom at h
    by_cases e : chgErr g A x.1 x.2 = 0
    · rw [if_neg (by simpa using e)] at h
      obtain ⟨h1, h2, h3, h4⟩ := chgErr_zero e
      have hg := hA _ h3
      by_cases hx : g (bs x.1) = x.2
      · have h5 := chgErr_id e hx
        have e1 : newsR g (x :: r) = newsR g r := by simp [newsR, hx]
        have e2 : growR g x.1 x.2 = 0 := by unfold growR; rw [if_neg h5, if_neg (by rw [hx]; exact h5)]
        rw [e1]
        unfold cntFrom
        rw [e2, Int.add_zero]
        exact cnt_news g r _ c q h hc (fun k hk => by
          simp only [addA, Bool.or_eq_false_iff] at hk
          exact hA k hk.2) hq
      · have e1 : newsR g (x :: r) = x :: newsR g r := by simp [newsR, hx]
        rw [e1]
        unfold cntFrom
        have := cnt_news g r (addA A (bs x.1)) (c + growR g x.1 x.2) (stepR q x) h (hc.step x) (fun k hk' => by
          simp only [addA, Bool.or_eq_false_iff, beq_eq_false_iff_ne] at hk'
          simp only [stepR, setR, if_neg hk'.1]
          exact hA k hk'.2) (by
          simp only [stepR, growR, hg]
          by_cases h0 : x.2 = 0
          · have := hc.pos (k := bs x.1) (by rw [hg]; exact h4 h0)
            rw [if_pos h0, if_pos h0, if_neg (h4 h0)]
            omega
          · rw [if_neg h0, if_neg h0]
            by_cases hz : g (bs x.1) = 0
            · rw [if_pos hz, if_pos hz]; omega
            · rw [if_neg hz, if_neg hz]; omega)
        simpa [applyR] using this
    · rw [if_pos e] at h; exact absurd h e
theorem AllR.cntr {g : List UInt8 → Int} {n : Nat} {L : List Ch} (h : AllR g n L) : CntR g n := by
  obtain ⟨ks, h1, h2, h3, _⟩ := h
  exact ⟨ks, h1, h2, h3⟩
theorem cnt_one {g : List UInt8 → Int} {n m : Nat} (h : CntR g n) (h' : CntR g m) : n = m := by
  obtain ⟨ks, n1, m1, rfl⟩ := h
  obtain ⟨js, n2, m2, rfl⟩ := h'
  exact ((List.perm_ext_iff_of_nodup n1 n2).2 fun x => by rw [m1, m2]).length_eq
theorem fold_all : ∀ (l : List Ch) (q : (List UInt8 → Int) × Nat) (L : List Ch), AllR q.1 q.2 L → AllR (applyR q l).1 (applyR q l).2 (l.foldl withR L)
  | [], q, L, h => h
  | x :: r, q, L, h => by
    have h1 := withR_all h x
    have h2 : CntR (stepR q x).1 (stepR q x).2 := h.cntr.step x
    have h3 : (withR L x).length = (stepR q x).2 := cnt_one h1.cntr h2
    rw [h3] at h1
    exact fold_all r (stepR q x) (withR L x) h1
/-- what the document says of a Set of changes is what the program says -/
theorem set_err {g : List UInt8 → Int} {n : Nat} {l : List Ch} (h : errFrom g (fun _ => false) l ≠ 0) : chkR g n l = errFrom g (fun _ => false) l := chkFrom_err g l _ _ h
theorem set_cnt {g : List UInt8 → Int} {n : Nat} {L : List Ch} (h : AllR g n L) {l : List Ch} (e : errFrom g (fun _ => false) l = 0) : chkR g n l = if 64 < ((newsR g l).foldl withR L).length then 3 else 0 := by
  unfold chkR
  rw [chkFrom_cnt g l _ _ e]
  have h1 := cnt_news g l _ (n : Int) (g, n) e h.cntr (fun _ _ => rfl) rfl
  have h2 := (fold_all (newsR g l) (g, n) L h).len
  rw [h2]
  by_cases e2 : 64 < (applyR (g, n) (newsR g l)).2
  · rw [if_pos e2, if_pos (by omega)]
  · rw [if_neg e2, if_neg (by omega)]
end Go.Proofs.YtiafhbpklddlnaaGreatDoor

/- The document's refs: Get. -/
namespace Go.Proofs.YtiafhbpklddlnaaGreatDoor
open Go.RowKit Go.Shelf Go.Maps

attribute [local go_sem] Oper.semAt_some

/-- where a name leads, by the list -/
def getL : List Ch → ByteArray → Int
  | [], _ => 0
  | x :: r, s => if bs x.1 = bs s then x.2 else getL r s
theorem getL_drop (L : List Ch) (s : ByteArray) (k : Nat) (x : Ch) (h : L[k]? = some x) : getL (L.drop k) s = if bs x.1 = bs s then x.2 else getL (L.drop (k + 1)) s := by
  have hk := (List.getElem?_eq_some_iff.1 h).1
  rw [List.drop_eq_getElem_cons hk]
  have : L[k] = x := (List.getElem?_eq_some_iff.1 h).2
  rw [this]
  rfl
theorem getL_all {g : List UInt8 → Int} : ∀ (L : List Ch), (∀ x ∈ L, g (bs x.1) = x.2) → (s : ByteArray) → (g (bs s) ≠ 0 → ∃ x ∈ L, bs x.1 = bs s) → getL L s = g (bs s)
  | [], _, s, hs => by
    by_cases e : g (bs s) = 0
    · rw [e]; rfl
    · obtain ⟨x, hx, _⟩ := hs e; cases hx
  | x :: r, h, s, hs => by
    unfold getL
    by_cases e : bs x.1 = bs s
    · rw [if_pos e, ← e, h x (List.mem_cons_self ..)]
    · rw [if_neg e]
      refine getL_all r (fun y hy => h y (List.mem_cons_of_mem _ hy)) s (fun hg => ?_)
      obtain ⟨y, hy, e'⟩ := hs hg
      rcases List.mem_cons.1 hy with rfl | hy
      · exact absurd e' e
      · exact ⟨y, hy, e'⟩
theorem AllR.get {g : List UInt8 → Int} {n : Nat} {L : List Ch} (h : AllR g n L) (s : ByteArray) : getL L s = g (bs s) :=
  getL_all L (fun _ hx => (h.mem hx).1) s (fun hg => ⟨(s, g (bs s)), (h.memr _).2 ⟨rfl, hg⟩, rfl⟩)

set_option maxRecDepth 100000 in
set_option maxHeartbeats 4000000 in
theorem dget_any (w : World) (a : Option Addr) (n c : Nat) (L : List Ch) (hl : Chs w a n L) (hn : n ≤ 1000000) (s : ByteArray) :
    Calls Tryz.prog 30 #[.agg #[.slice a n c], .string s] w fun e w' => e = .returned (.int .u64 (getL L s)) ∧ Below w.heap.size w w' := by
  have hll := hl.1
  obtain ⟨R, hR⟩ : ∃ R, R = getL L s := ⟨_, rfl⟩
  rw [← hR]
  go_enter Tryz.func30, Tryz.ntmps30
  go_wp2
  go_loopw [10] (fun i wr => ∃ (k : Nat), k ≤ n ∧ i = .int .i64 (k : Int) ∧ Hid (R = getL (L.drop k) s ∧ Below w.heap.size w wr)) (fun i _ => n - (intOf i).toNat)
  case atStart => exact ⟨0, Nat.zero_le _, rfl, hR, by first | exact Below.refl _ _ | exact (Below.refl _ w).alloc (Nat.le_refl _) _⟩
  case round =>
    clear hR
    obtain ⟨k, hk, rfl, H⟩ := hrel
    by_cases hlt : k < n
    · obtain ⟨x, hx⟩ : ∃ x, L[k]? = some x := ⟨_, List.getElem?_eq_getElem (by omega)⟩
      obtain ⟨b1, o1, rfl, hc1⟩ := hl.2 (by omega)
      obtain ⟨t1, t2⟩ := hc1 k x hx
      have HD : Hid (R = _) := H.out.1.trans (getL_drop L s k x hx)
      have hB := H.out.2
      have q1 := (hB.cell (p := ⟨b1, o1 + k * 2, none⟩) (World.block_lt_of_cell? w _ t1)).trans t1
      have q2 := (hB.cell (p := ⟨b1, o1 + k * 2 + 1, none⟩) (World.block_lt_of_cell? w _ t2)).trans t2
      have i2 : (k : Int) < (n : Int) := by omega
      have i3 : ¬ n ≤ k := by omega
      have HB : Hid (∀ o, Below w.heap.size w (wr.alloc o)) := fun o => hB.alloc hB.size o
      clear hc1 hx t1 t2 hB H
      obtain ⟨nm, iv⟩ := x
      simp only at q1 q2 HD
      by_cases he : bs nm = bs s
      · rw [if_pos he] at HD
        have he' : nm = s := by rw [← arr_bs nm, he, arr_bs]
        subst he'
        clear he
        go_wp2
        go_ret
        exact ⟨by rw [HD.out]; rfl, HB.out _⟩
      · rw [if_neg he] at HD
        have he' : (nm.toList == s.toList) = false := beq_eq_false_iff_ne.2 (fun e => he (by rw [ByteArray.toList_eq, ByteArray.toList_eq] at e; exact e))
        clear he
        go_wp2
        go_roundw
        case rel => exact ⟨k + 1, by omega, by simp, HD.out, HB.out _⟩
        case measure => simp [intOf]; omega
    · obtain rfl : k = n := by omega
      have i2 : ¬ (k : Int) < (k : Int) := by omega
      have e0 : R = 0 := by rw [H.out.1, ← hll, List.drop_length]; rfl
      subst e0
      go_wp2
      go_ret
      exact ⟨rfl, H.out.2⟩
end Go.Proofs.YtiafhbpklddlnaaGreatDoor
