import Derived.Test.YtdjodigimhgklaaGreatDoorMD24
import Derived.Test.YtdjodigimhgklaaGreatDoorMD19
import Derived.Test.YtdjodigimhgklaaGreatDoorMD22
/- The memo's join: pairs that rise, with new ones put in. -/
namespace Go.Proofs.YtdjodigimhgklaaGreatDoor
open Go.RowKit Go.Shelf Go.Maps

attribute [local go_sem] Oper.semAt_some

/-- pairs that rise, with new ones put in -/
def mergeM : List Pr → List Pr → List Pr
  | old, [] => old
  | old, p :: r => old.take (cntP old p.1) ++ p :: mergeM (old.drop (cntP old p.1)) r
theorem mergeM_len : ∀ (old news : List Pr), (mergeM old news).length = old.length + news.length
  | old, [] => rfl
  | old, p :: r => by
    have := cntP_le old p.1
    rw [mergeM, List.length_append, List.length_cons, mergeM_len, List.length_take, List.length_drop, List.length_cons]
    omega
theorem mergeM_mem : ∀ (old news : List Pr) (q : Pr), q ∈ mergeM old news ↔ q ∈ old ∨ q ∈ news
  | old, [], q => by simp [mergeM]
  | old, p :: r, q => by
    rw [mergeM, List.mem_append, List.mem_cons, mergeM_mem]
    have h1 : q ∈ old ↔ q ∈ old.take (cntP old p.1) ∨ q ∈ old.drop (cntP old p.1) := by
      conv => lhs; rw [← List.take_append_drop (cntP old p.1) old]
      exact List.mem_append
    rw [h1, List.mem_cons]
    constructor
    · rintro (h | h | h | h) <;> simp [h]
    · rintro ((h | h) | h | h) <;> simp [h]
theorem cnt_split {l : List Pr} {x : Nat} (h : Ris l) : (∀ q ∈ l.take (cntP l x), q.1 < x) ∧ (∀ q ∈ l.drop (cntP l x), x ≤ q.1) := by
  induction l with
  | nil => exact ⟨fun q hq => by simp at hq, fun q hq => by simp at hq⟩
  | cons p r ih =>
    have h' := List.pairwise_cons.1 h
    by_cases hp : p.1 < x
    · have e : cntP (p :: r) x = cntP r x + 1 := by
        unfold cntP
        rw [List.countP_cons_of_pos (by simp; omega)]
      rw [e, List.take_succ_cons, List.drop_succ_cons]
      have := ih h'.2
      refine ⟨fun q hq => ?_, this.2⟩
      rcases List.mem_cons.1 hq with rfl | hq
      · exact hp
      · exact this.1 q hq
    · have e : cntP (p :: r) x = 0 := by
        unfold cntP
        rw [List.countP_eq_zero]
        intro q hq
        rcases List.mem_cons.1 hq with rfl | hq
        · simp; omega
        · have := h'.1 q hq
          simp; omega
      rw [e]
      refine ⟨fun q hq => by simp at hq, fun q hq => ?_⟩
      rw [List.drop_zero] at hq
      rcases List.mem_cons.1 hq with rfl | hq
      · omega
      · have := h'.1 q hq; omega
theorem mergeM_ris : ∀ (old news : List Pr), Ris old → Ris news → (∀ p ∈ news, lookP old p.1 = none) → Ris (mergeM old news)
  | old, [], ho, _, _ => ho
  | old, p :: r, ho, hn, hd => by
    have hn' := List.pairwise_cons.1 hn
    obtain ⟨s1, s2⟩ := cnt_split (x := p.1) ho
    have hp := (look_none old p.1).1 (hd p (List.mem_cons_self ..))
    have s3 : ∀ q ∈ old.drop (cntP old p.1), p.1 < q.1 := fun q hq => by
      have := s2 q hq
      have := hp q (List.mem_of_mem_drop hq)
      omega
    have hm : ∀ q ∈ mergeM (old.drop (cntP old p.1)) r, p.1 < q.1 := fun q hq => by
      rcases (mergeM_mem _ _ q).1 hq with hq | hq
      · exact s3 q hq
      · exact hn'.1 q hq
    rw [mergeM]
    refine List.pairwise_append.2 ⟨List.Pairwise.sublist (List.take_sublist _ _) ho, List.pairwise_cons.2 ⟨hm, mergeM_ris _ r (List.Pairwise.sublist (List.drop_sublist _ _) ho) hn'.2 fun q hq => ?_⟩, fun q1 h1 q2 h2 => ?_⟩
    · exact (look_none _ _).2 fun z hz => (look_none old q.1).1 (hd q (List.mem_cons_of_mem _ hq)) z (List.mem_of_mem_drop hz)
    · have := s1 q1 h1
      rcases List.mem_cons.1 h2 with rfl | h2
      · exact this
      · have := hm q2 h2
        omega
theorem mergeM_look {old news : List Pr} (ho : Ris old) (hn : Ris news) (hd : ∀ p ∈ news, lookP old p.1 = none) (x : Nat) : lookP (mergeM old news) x = (lookP old x).or (lookP news x) := by
  have hm := mergeM_ris old news ho hn hd
  cases h1 : lookP old x with
  | some y => exact ris_mem_look hm ((mergeM_mem old news (x, y)).2 (.inl (look_mem h1)))
  | none =>
    cases h2 : lookP news x with
    | some y => exact ris_mem_look hm ((mergeM_mem old news (x, y)).2 (.inr (look_mem h2)))
    | none =>
      refine (look_none _ _).2 fun p hp => ?_
      rcases (mergeM_mem old news p).1 hp with hp | hp
      · exact (look_none _ _).1 h1 p hp
      · exact (look_none _ _).1 h2 p hp
theorem mergeM_ok {old news : List Pr} (ho : PrOk old) (hn : PrOk news) : PrOk (mergeM old news) := fun p hp => by
  rcases (mergeM_mem old news p).1 hp with hp | hp
  · exact ho p hp
  · exact hn p hp
theorem vstep_appL (w : World) {ops : Array Oper} {o : Oper} {a : Act} {K : Act → World → Prop} {Q : Exit → Act → World → Prop} {E : Prop} (hgd : o.guard = none) (s x : Operand)
    (ho : o.op = .call { callee := .builtin .append, args := #[s, x], argTypes := #[36, 36] }) (base n : Nat) (hbase : base ≤ w.heap.size)
    (v : Value) (k : List Pr) (hs : a.eval s = v) (hown : w.ownsRow base 39 2 v n (prCells k)) (ad : Option Addr) (m c : Nat) (l : List Pr) (hx : a.eval x = .slice ad m c) (hb : Prs w ad m l) (hnil : ad = none → m = 0 ∧ c = 0) (hm : (n + m) * 16 ≤ 140737488355328)
    (hK : ∀ ad' c' w', w'.ownsRow base 39 2 (.slice ad' (n + m) c') (n + m) (prCells (k ++ l)) → Below base w w' → K (a.put o.dst (.slice ad' (n + m) c')) w') :
    if Region.wanted o (yielded ops a.tmps) = true then Oper.wp Tryz.prog o a w K Q else E := by
  have hw : Region.wanted o (yielded ops a.tmps) = true := by simp [Region.wanted, hgd]
  rw [if_pos hw]
  obtain ⟨i0, hi, hz0, hz1, hz2⟩ := info_parts infoPr
  cases ad with
  | none =>
    obtain ⟨rfl, rfl⟩ := hnil rfl
    have hl : l = [] := List.eq_nil_of_length_eq_zero hb.1
    subst hl
    obtain ⟨ad', c', rfl, hc', _⟩ := row_shapeV hown
    have hr := run_append_owned_none (P := Tryz.prog) (w := w) base 36 o.type 39 i0 2 Tryz.underlying36 hi _ n _ hown
    unfold Oper.wp execOp
    simp only [ho, resolve, invoke, builtin, Sem.run_bind, Sem.run_pure, Result.andThen_ok, List.map_toArray, List.map_cons, List.map_nil, hs, hx, hr]
    exact hK ad' c' w (by simpa using hown) (Below.refl _ _)
  | some ad =>
    obtain ⟨v', w', hr, h2, h3, h4, h5⟩ := run_append_own_at (P := Tryz.prog) w base 36 o.type 39 i0 _ 2 16 Tryz.underlying36 hi hz0 hz1 hz2 rfl (by omega) v n _ hown ad m c (prCells l) (by rw [prCells_len, hb.1]) (fun j u hj => by
      have hl := hb.1
      by_cases hm0 : 0 < m
      · obtain ⟨b, off, e, hc⟩ := hb.2 hm0
        cases e
        rw [Addr.add_lit]
        exact prs_news l off hc j u hj
      · have : l = [] := List.eq_nil_of_length_eq_zero (by omega)
        subst this
        simp [prCells] at hj) (prCells_one l) (by unfold maxLen; omega) hm hbase
    obtain ⟨ad', c', rfl, hc', _⟩ := row_shapeV h2
    unfold Oper.wp execOp
    simp only [ho, resolve, invoke, builtin, Sem.run_bind, Sem.run_pure, Result.andThen_ok, List.map_toArray, List.map_cons, List.map_nil, hs, hx, hr]
    exact hK ad' c' w' (by rw [prCells_append]; exact h2) ((Below.refl base w).grown h3 hbase (fun k hk => (hown.lt k hk).1))
theorem prV_take {W : World} {a : Option Addr} {n c : Nat} {l : List Pr} (h : PrV W a n c l) (k : Nat) (hk : k ≤ n) : PrV W a k c (l.take k) :=
  ⟨prs_take h.prs k hk, fun e => by have := h.nil e; omega, by have := h.cap; omega⟩
/-- what a slice is behind s[k:] -/
def cutA (a : Option Addr) (k c : Nat) : Option Addr := if c - k = 0 then a else a.map fun x => x.add (k * 2)
theorem prV_drop {W : World} {a : Option Addr} {n c : Nat} {l : List Pr} (h : PrV W a n c l) (k : Nat) (hk : k ≤ n) : PrV W (cutA a k c) (n - k) (c - k) (l.drop k) := by
  have hc := h.cap
  refine ⟨⟨by rw [List.length_drop, h.prs.1], fun h0 => ?_⟩, fun e => ?_, by omega⟩
  · obtain ⟨b, o, e, hcl⟩ := h.prs.2 (by omega)
    refine ⟨b, o + k * 2, ?_, fun j p hj => ?_⟩
    · unfold cutA
      rw [if_neg (by omega), e]
      exact congrArg some (Addr.add_lit ..)
    · have := hcl (k + j) p (by rw [List.getElem?_drop] at hj; exact hj)
      rw [show o + (k + j) * 2 = o + k * 2 + j * 2 by omega] at this
      exact this
  · unfold cutA at e
    split at e
    · have := h.nil e
      omega
    · have : a = none := by cases a with | none => rfl | some x => cases e
      have := h.nil this
      omega
theorem vstep_appLg (w : World) {ops : Array Oper} {o : Oper} {a : Act} {K : Act → World → Prop} {Q : Exit → Act → World → Prop} {E : Prop} (hgd : o.guard = none) (s x : Operand)
    (ho : o.op = .call { callee := .builtin .append, args := #[s, x], argTypes := #[36, 36] }) (base n : Nat) (hbase : base ≤ w.heap.size)
    (v : Value) (k : List Pr) (hs : a.eval s = v) (hown : w.ownsRow base 39 2 v n (prCells k)) (ad : Option Addr) (m c : Nat) (l : List Pr) (hx : a.eval x = .slice ad m c) (hb : Prs w ad m l) (hnil : ad = none → m = 0 ∧ c = 0) (hm : (n + m) * 16 ≤ 140737488355328)
    (hK : ∀ ad' c' w', w'.ownsRow base 39 2 (.slice ad' (n + m) c') (n + m) (prCells (k ++ l)) → w.grownBy w' v.ownBlock → K (a.put o.dst (.slice ad' (n + m) c')) w') :
    if Region.wanted o (yielded ops a.tmps) = true then Oper.wp Tryz.prog o a w K Q else E := by
  have hw : Region.wanted o (yielded ops a.tmps) = true := by simp [Region.wanted, hgd]
  rw [if_pos hw]
  obtain ⟨i0, hi, hz0, hz1, hz2⟩ := info_parts infoPr
  cases ad with
  | none =>
    obtain ⟨rfl, rfl⟩ := hnil rfl
    have hl : l = [] := List.eq_nil_of_length_eq_zero hb.1
    subst hl
    obtain ⟨ad', c', rfl, hc', _⟩ := row_shapeV hown
    have hr := run_append_owned_none (P := Tryz.prog) (w := w) base 36 o.type 39 i0 2 Tryz.underlying36 hi _ n _ hown
    unfold Oper.wp execOp
    simp only [ho, resolve, invoke, builtin, Sem.run_bind, Sem.run_pure, Result.andThen_ok, List.map_toArray, List.map_cons, List.map_nil, hs, hx, hr]
    exact hK ad' c' w (by simpa using hown) ⟨rfl, rfl, rfl, Nat.le_refl _, fun _ _ _ => rfl⟩
  | some ad =>
    obtain ⟨v', w', hr, h2, h3, h4, h5⟩ := run_append_own_at (P := Tryz.prog) w base 36 o.type 39 i0 _ 2 16 Tryz.underlying36 hi hz0 hz1 hz2 rfl (by omega) v n _ hown ad m c (prCells l) (by rw [prCells_len, hb.1]) (fun j u hj => by
      have hl := hb.1
      by_cases hm0 : 0 < m
      · obtain ⟨b, off, e, hc⟩ := hb.2 hm0
        cases e
        rw [Addr.add_lit]
        exact prs_news l off hc j u hj
      · have : l = [] := List.eq_nil_of_length_eq_zero (by omega)
        subst this
        simp [prCells] at hj) (prCells_one l) (by unfold maxLen; omega) hm hbase
    obtain ⟨ad', c', rfl, hc', _⟩ := row_shapeV h2
    unfold Oper.wp execOp
    simp only [ho, resolve, invoke, builtin, Sem.run_bind, Sem.run_pure, Result.andThen_ok, List.map_toArray, List.map_cons, List.map_nil, hs, hx, hr]
    exact hK ad' c' w' (by rw [prCells_append]; exact h2) h3
theorem Prs.low1 {w w' : World} {g : Nat} {n : Nat} {l : List Pr} {row : Option Nat} (h : Prs w (some ⟨g, 0, none⟩) n l) (hg : w.grownBy w' row) (hr : row ≠ some g) : Prs w' (some ⟨g, 0, none⟩) n l := by
  refine ⟨h.1, fun h0 => ?_⟩
  obtain ⟨b, o, e, hc⟩ := h.2 h0
  cases e
  refine ⟨g, 0, rfl, fun j x hx => ?_⟩
  have h1 := hc j x hx
  have hlt := World.block_lt_of_cell? w _ h1.1
  have hb := hg.block g hlt (fun e => hr e.symm)
  simpa only [World.cell?, hb] using h1

set_option maxRecDepth 100000 in
set_option maxHeartbeats 4000000 in
theorem yjoin_any (w : World) (a a2 : Option Addr) (n c m c2 : Nat) (old news : List Pr) (hl : PrV w a n c old) (hm : PrV w a2 m c2 news) (hr : Ris old) (hn : n ≤ 1000000) (hn2 : m ≤ 1000000) :
    Calls Tryz.prog 81 #[.slice a n c, .slice a2 m c2] w fun e w' => ∃ ad c', e = .returned (.slice ad (n + m) c') ∧ w'.ownsRow w.heap.size 39 2 (.slice ad (n + m) c') (n + m) (prCells (mergeM old news)) ∧ Below w.heap.size w w' := by
  have hmx : Tryz.prog.follows .mixedOrders = true := by kernel_rfl
  have HL : Hid (PrV w a n c old ∧ PrV w a2 m c2 news ∧ old.length = n ∧ news.length = m ∧ Ris old) := ⟨hl, hm, hl.prs.1, hm.prs.1, hr⟩
  clear hl hm hr
  go_enter Tryz.func81, Tryz.ntmps81
  obtain ⟨i0, hi, hz0, hz1, hz2⟩ := info_parts infoPr
  have hu := Tryz.underlying36
  go_wp2_with (at_make; refine wpList_make_own _ rfl _ _ 36 rfl w.heap.size 39 i0 _ 2 hu hi hz0 hz1 _ _ _ (n + m) rfl (by first | rfl | (congr 1)) (by omega) (by rw [hz2]; omega) (by unfold maxLen; omega) (Nat.le_refl _) ?_; intro w1 hown1 hg1; have H1 : Hid (w1.ownsRow w.heap.size 39 2 (.slice (some ⟨w.heap.size, 0, none⟩) 0 (n + m)) 0 (prCells []) ∧ Below w.heap.size w w1) := ⟨hown1, (Below.refl _ _).grown hg1 (Nat.le_refl _) (by simp)⟩; clear hown1 hg1)
  clear hi hz0 hz1 hz2 hu
  go_loopw [0, 5, 18] (fun v0 v5 i wr => ∃ (k : Nat) (oa : Option Addr) (on oc : Nat) (aa : Option Addr) (an ac : Nat), k ≤ m ∧ v0 = .slice oa on oc ∧ v5 = .slice aa an ac ∧ i = .int .i64 (k : Int) ∧ on ≤ n ∧ an ≤ n + k - on ∧ Hid (∃ (A : List Pr) (O : List Pr), (∀ Y, Below w.heap.size w Y → PrV Y oa on oc O) ∧ Ris O ∧ wr.ownsRow w.heap.size 39 2 (.slice aa an ac) an (prCells A) ∧ Below w.heap.size w wr ∧ mergeM old news = A ++ mergeM O (news.drop k))) (fun _ _ i _ => m - (intOf i).toNat)
  case atStart => exact ⟨0, a, n, c, _, 0, _, Nat.zero_le _, rfl, rfl, rfl, Nat.le_refl _, by omega, [], old, fun Y hY => HL.out.1.kept hY, HL.out.2.2.2.2, H1.out.1, H1.out.2, rfl⟩
  case round =>
    clear H1
    obtain ⟨k, oa, on, oc, aa, an, ac, hk, rfl, rfl, rfl, hon, han, H⟩ := hrel
    obtain ⟨A, O, hO, hRO, hrow, hBw, hmg⟩ := H.out
    by_cases hlt : k < m
    · obtain ⟨⟨x, y⟩, hx⟩ : ∃ x, news[k]? = some x := ⟨_, List.getElem?_eq_getElem (by rw [HL.out.2.2.2.1]; exact hlt)⟩
      obtain ⟨b1, o1, rfl, hc1⟩ := (HL.out.2.1.kept hBw).prs.2 (by omega)
      obtain ⟨t1, t2⟩ := hc1 k _ hx
      simp only at t1 t2
      have i1 : (k : Int) < (m : Int) := by omega
      have i2 : ¬ m ≤ k := by omega
      have hba : Below w.heap.size w (wr.alloc (.cells #[.int .u64 (x : Int), .int .u64 (y : Int)] 39)) := hBw.alloc hBw.size _
      have hbx := BoxV.new wr (x : Int) (y : Int)
      have hbc := hbx.cell.1
      have hfd := yfind_any (wr.alloc (.cells #[.int .u64 (x : Int), .int .u64 (y : Int)] 39)) oa on oc O (hO _ hba).prs hRO x (by omega)
      obtain ⟨Pk, hPk⟩ : ∃ Pk, Pk = cntP O x := ⟨_, rfl⟩
      rw [← hPk] at hfd
      have hpn : Pk ≤ on := by rw [hPk, ← (hO w (Below.refl _ _)).prs.1]; exact cntP_le O x
      have hoc := (hO w (Below.refl _ _)).cap
      generalize (lookP O x).isSome = fb at *
      have HO : Hid ((∀ Y, Below w.heap.size w Y → PrV Y oa on oc O) ∧ Ris O ∧ mergeM old news = A ++ (O.take Pk ++ (x, y) :: mergeM (O.drop Pk) (news.drop (k + 1)))) := ⟨hO, hRO, by rw [hmg, drop_getV hx, mergeM, ← hPk]⟩
      have HR : Hid (wr.ownsRow w.heap.size 39 2 (.slice aa an ac) an (prCells A) ∧ BoxV (wr.alloc (.cells #[.int .u64 (x : Int), .int .u64 (y : Int)] 39)) wr.heap.size (x : Int) (y : Int) ∧ Below w.heap.size w (wr.alloc (.cells #[.int .u64 (x : Int), .int .u64 (y : Int)] 39))) := ⟨hrow, hbx, hba⟩
      clear hc1 hx hO hRO hrow hmg H hPk hba hbx
      go_upto_region 6 with (go_at_call 65; refine hfd.mono ?_; clear hfd; rintro e W4 ⟨rfl, hB4⟩)
      have H4 : Hid ((W4.drew).ownsRow w.heap.size 39 2 (.slice aa an ac) an (prCells A) ∧ PrV W4.drew oa Pk oc (O.take Pk) ∧ BoxV W4.drew wr.heap.size (x : Int) (y : Int) ∧ Below w.heap.size w W4.drew ∧ wr.heap.size < W4.heap.size) := by
        have hB5 : Below wr.heap.size wr W4 := ((Below.refl _ wr).alloc (Nat.le_refl _) _).trans (hB4.mono (by simp))
        have hBw4 : Below w.heap.size w W4.drew := vb_drew (HR.out.2.2.trans (hB4.mono HR.out.2.2.size))
        refine ⟨row_movedV (row_keptV HR.out.1 hB5) (fun r _ => rfl), prV_take (HO.out.1 _ hBw4) Pk hpn, (hB4.block _ (by simp)).trans HR.out.2.1, hBw4, ?_⟩
        have := hB4.size
        rw [World.size_alloc] at this
        omega
      have HNb : Hid ((Value.slice aa an ac).ownBlock ≠ some wr.heap.size) := fun e => by have := (row_blockV HR.out.1 _ e).2.1; omega
      have HNc : Hid ((Value.slice aa an ac).ownBlock ≠ some W4.heap.size) := fun e => by have := (row_blockV HR.out.1 _ e).2.1; have := H4.out.2.2.2.2; omega
      clear HR hB4 hbc t1 t2
      have i5 : (Pk : Int) ≤ (oc : Int) := by omega
      have i6 : (0 : Int) ≤ (Pk : Int) := by omega
      refine wp_region_G (S := SB 6 (fun Y => BoxV Y wr.heap.size (x : Int) (y : Int)) (fun _ => True)) hmx ?_
      have hSB : SB 6 (fun Y => BoxV Y wr.heap.size (x : Int) (y : Int)) (fun _ => True) (Array.replicate 9 false) W4.drew := SB.on H4.out.2.2.1 trivial
      refine wpAnyG_takeP (i := 0) (v := ?_) rfl (by kernel_rfl) (by kernel_rfl) (by kernel_rfl) (fun _ _ _ h => h) rfl (Or.inl ⟨by rfl, ?_⟩) (by assumption) ?_
      rotate_left
      · intro Y _; go_simp; try with_reducible rfl
      intro hSB0
      try simp only [Act.put, List.getElem_toArray, List.getElem_cons_zero, List.setIfInBounds_toArray, List.set_cons_zero, List.set_cons_succ]
      refine wpAnyG_takeP (i := 1) (v := ?_) rfl (by kernel_rfl) (by kernel_rfl) (by kernel_rfl) (fun _ _ _ h => h) rfl (Or.inl ⟨by rfl, ?_⟩) (by assumption) ?_
      rotate_left
      · intro Y _; go_simp; try with_reducible rfl
      intro hSB1
      try simp only [Act.put, List.getElem_toArray, List.getElem_cons_zero, List.getElem_cons_succ, List.setIfInBounds_toArray, List.set_cons_zero, List.set_cons_succ]
      refine wpAnyG_takeP (i := 2) (v := ?_) rfl (by kernel_rfl) (by kernel_rfl) (by kernel_rfl) (fun _ _ _ h => h) rfl (Or.inl ⟨by rfl, ?_⟩) (by assumption) ?_
      rotate_left
      · intro Y _; go_simp; try with_reducible rfl
      intro hSB2
      try simp only [Act.put, List.getElem_toArray, List.getElem_cons_zero, List.getElem_cons_succ, List.setIfInBounds_toArray, List.set_cons_zero, List.set_cons_succ]
      refine wpAnyG_takeP (i := 3) (v := ?_) rfl (by kernel_rfl) (by kernel_rfl) (by kernel_rfl) (fun _ _ _ h => h) rfl (Or.inl ⟨by rfl, ?_⟩) (by assumption) ?_
      rotate_left
      · intro Y _; go_simp; try with_reducible rfl
      intro hSB3
      try simp only [Act.put, List.getElem_toArray, List.getElem_cons_zero, List.getElem_cons_succ, List.setIfInBounds_toArray, List.set_cons_zero, List.set_cons_succ]
      refine wpAnyG_takeB (i := 5) (b := 6) (v := ?_) rfl (by kernel_rfl) (by kernel_rfl) (by kernel_rfl) (fun _ _ _ h => h) rfl (by kernel_rfl) (by rfl) (by kernel_rfl) (Or.inl ⟨by rfl, ?_⟩) (by assumption) ?_
      rotate_left
      · intro Y hY; have cbx := hY.1.cell; obtain ⟨y1, y2⟩ := cbx; go_simp; try with_reducible rfl
      intro hSB5
      try simp only [Act.put, List.getElem_toArray, List.getElem_cons_zero, List.getElem_cons_succ, List.setIfInBounds_toArray, List.set_cons_zero, List.set_cons_succ]
      refine wpAnyG_two (i := 4) (j := 6) (by kernel_rfl) rfl rfl (fun K hK => ?_) (fun K hK => ?_)
      · refine vstep_appLg _ (by rfl) _ _ (by rfl) w.heap.size an H4.out.2.2.2.1.size _ A (by rfl) H4.out.1 oa Pk oc (O.take Pk) (by rfl) H4.out.2.1.prs H4.out.2.1.nil (by omega) ?_
        intro a5 c5 W5 hown5 hg5
        have hbx5 : BoxV W5 wr.heap.size (x : Int) (y : Int) := (hg5.block _ (by have := H4.out.2.2.1.lt; exact this) (fun e => HNb.out e.symm)).trans H4.out.2.2.1
        have hB5 : Below w.heap.size w W5 := H4.out.2.2.2.1.grown hg5 H4.out.2.2.2.1.size (fun k hk => (row_blockV H4.out.1 k hk).1)
        refine hK.out _ _ (SB.on hbx5 trivial) (fun hSB4 => ?_)
        clear hK K
        try simp only [Act.put, List.getElem_toArray, List.getElem_cons_zero, List.getElem_cons_succ, List.setIfInBounds_toArray, List.set_cons_zero, List.set_cons_succ]
        refine wpAnyG_one (i := 6) (by kernel_rfl) rfl (fun K hK => ?_)
        go_simp
        refine hK.out _ _ (SB.off (by rfl) trivial) (fun hSB6 => ?_)
        clear hK K
        try simp only [Act.put, List.getElem_toArray, List.getElem_cons_zero, List.getElem_cons_succ, List.setIfInBounds_toArray, List.set_cons_zero, List.set_cons_succ]
        refine wpAnyG_one (i := 7) (by kernel_rfl) rfl (fun K hK => ?_)
        refine vstep_appP _ (by rfl) _ _ (by rfl) w.heap.size (an + Pk) (by have := hB5.size; simp; omega) _ (A ++ O.take Pk) (by rfl) (row_keptV hown5 ((Below.refl _ W5).alloc (Nat.le_refl _) (.cells #[.int .u64 (x : Int), .int .u64 (y : Int)] 39))) W5.heap.size (x, y) (by rfl) (prs_one W5 x y) (by omega) ?_
        intro a7 c7 W7 hown7 hB7
        refine hK.out _ _ (SB.off (by rfl) trivial) (fun hSB7 => ?_)
        clear hK K
        try simp only [Act.put, List.getElem_toArray, List.getElem_cons_zero, List.getElem_cons_succ, List.setIfInBounds_toArray, List.set_cons_zero, List.set_cons_succ]
        have HB7 : Hid (Below w.heap.size w W7) := (hB5.alloc hB5.size (.cells #[.int .u64 (x : Int), .int .u64 (y : Int)] 39)).trans hB7
        refine wpAnyG_takeP (i := 8) (v := ?_) rfl (by kernel_rfl) (by kernel_rfl) (by kernel_rfl) (fun _ _ _ h => h) rfl (Or.inl ⟨by rfl, ?_⟩) (by assumption) ?_
        rotate_left
        · intro Y _; go_simp; try with_reducible rfl
        intro hSB8
        try simp only [Act.put, List.getElem_toArray, List.getElem_cons_zero, List.getElem_cons_succ, List.setIfInBounds_toArray, List.set_cons_zero, List.set_cons_succ]
        refine wpAnyG_done (by kernel_rfl) ?_ _
        clear hSB hSB0 hSB1 hSB2 hSB3 hSB5 hSB4 hSB6 hSB7 hSB8
        have HW7 : Hid (W7.ownsRow w.heap.size 39 2 (.slice a7 (an + Pk + 1) c7) (an + Pk + 1) (prCells (A ++ O.take Pk ++ [(x, y)]))) := hown7
        clear hown7 hB7 hown5 hg5 hB5 H4 HNb HNc hbx5
        cases oa with
        | none =>
          obtain ⟨h1, h2⟩ := HO.out.1 w (Below.refl _ _) |>.nil rfl
          subst h1
          subst h2
          obtain rfl : Pk = 0 := by omega
          have HZ : Hid (∃ (A : List Pr) (O : List Pr), (∀ Y, Below w.heap.size w Y → PrV Y (none) (0) (0) O) ∧ Ris O ∧ W7.ownsRow w.heap.size 39 2 (.slice a7 (an + 0 + 1) c7) (an + 0 + 1) (prCells A) ∧ Below w.heap.size w W7 ∧ mergeM old news = A ++ mergeM O (news.drop (k + 1))) := ⟨A ++ O.take 0 ++ [(x, y)], O.drop 0, fun Y hY => by have := prV_drop (HO.out.1 Y hY) 0 (Nat.le_refl _); simpa [cutA] using this, List.Pairwise.sublist (List.drop_sublist _ _) HO.out.2.1, HW7.out, HB7.out, by rw [HO.out.2.2, List.append_assoc, List.append_assoc]; rfl⟩
          clear HW7 HB7 HO
          go_wp2
          go_roundw
          case rel => exact ⟨k + 1, none, 0, 0, a7, an + 0 + 1, c7, by omega, rfl, rfl, by go_num, by omega, by omega, HZ.out⟩
          case measure => simp [intOf]; omega
        | some ao =>
          obtain ⟨ob, oo, os⟩ := ao
          have j1 : (Pk : Int) ≤ (on : Int) := by omega
          have j2 : (on : Int) ≤ (oc : Int) := by omega
          by_cases hz : Pk = oc
          · obtain rfl : on = Pk := by omega
            subst hz
            have HZ : Hid (∃ (A : List Pr) (O : List Pr), (∀ Y, Below w.heap.size w Y → PrV Y (some ⟨ob, oo, os⟩) (0) (0) O) ∧ Ris O ∧ W7.ownsRow w.heap.size 39 2 (.slice a7 (an + on + 1) c7) (an + on + 1) (prCells A) ∧ Below w.heap.size w W7 ∧ mergeM old news = A ++ mergeM O (news.drop (k + 1))) := ⟨A ++ O.take on ++ [(x, y)], O.drop on, fun Y hY => by have := prV_drop (HO.out.1 Y hY) on (Nat.le_refl _); simpa [cutA] using this, List.Pairwise.sublist (List.drop_sublist _ _) HO.out.2.1, HW7.out, HB7.out, by rw [HO.out.2.2, List.append_assoc, List.append_assoc]; rfl⟩
            clear HW7 HB7 HO
            go_wp2
            go_roundw
            case rel => exact ⟨k + 1, some ⟨ob, oo, os⟩, 0, 0, a7, an + on + 1, c7, by omega, rfl, rfl, by go_num, by omega, by omega, HZ.out⟩
            case measure => simp [intOf]; omega
          · have HZ0 : Hid True := trivial
            have HZ : Hid (∃ (A : List Pr) (O : List Pr), (∀ Y, Below w.heap.size w Y → PrV Y (some (Addr.add ⟨ob, oo, os⟩ (Pk * 2))) (on - Pk) (oc - Pk) O) ∧ Ris O ∧ W7.ownsRow w.heap.size 39 2 (.slice a7 (an + Pk + 1) c7) (an + Pk + 1) (prCells A) ∧ Below w.heap.size w W7 ∧ mergeM old news = A ++ mergeM O (news.drop (k + 1))) := ⟨A ++ O.take Pk ++ [(x, y)], O.drop Pk, fun Y hY => by have := prV_drop (HO.out.1 Y hY) Pk (by omega); rw [cutA, if_neg (by omega)] at this; exact this, List.Pairwise.sublist (List.drop_sublist _ _) HO.out.2.1, HW7.out, HB7.out, by rw [HO.out.2.2, List.append_assoc, List.append_assoc]; rfl⟩
            clear HW7 HB7 HO
            go_wp2
            go_roundw
            case rel => exact ⟨k + 1, some (Addr.add ⟨ob, oo, os⟩ (Pk * 2)), on - Pk, oc - Pk, a7, an + Pk + 1, c7, by omega, rfl, rfl, by go_num, by omega, by omega, HZ.out⟩
            case measure => simp [intOf]; omega
      · go_simp
        have hBa : Below w.heap.size w ((W4.drew).alloc (.cells #[.int .u64 (x : Int), .int .u64 (y : Int)] 39)) := H4.out.2.2.2.1.alloc H4.out.2.2.2.1.size _
        refine hK.out _ _ (SB.off (by rfl) trivial) (fun hSB6 => ?_)
        clear hK K
        try simp only [Act.put, List.getElem_toArray, List.getElem_cons_zero, List.getElem_cons_succ, List.setIfInBounds_toArray, List.set_cons_zero, List.set_cons_succ]
        refine wpAnyG_one (i := 4) (by kernel_rfl) rfl (fun K hK => ?_)
        refine vstep_appLg _ (by rfl) _ _ (by rfl) w.heap.size an hBa.size _ A (by rfl) (row_keptV H4.out.1 ((Below.refl _ W4.drew).alloc (Nat.le_refl _) (.cells #[.int .u64 (x : Int), .int .u64 (y : Int)] 39))) oa Pk oc (O.take Pk) (by rfl) (H4.out.2.1.kept ((Below.refl _ W4.drew).alloc (Nat.le_refl _) (.cells #[.int .u64 (x : Int), .int .u64 (y : Int)] 39))).prs H4.out.2.1.nil (by omega) ?_
        intro a5 c5 W5 hown5 hg5
        have hp5 : Prs W5 (some ⟨W4.heap.size, 0, none⟩) 1 [(x, y)] := (prs_one W4.drew x y).low1 hg5 (fun e => HNc.out e)
        have hB5 : Below w.heap.size w W5 := hBa.grown hg5 hBa.size (fun k hk => (row_blockV H4.out.1 k hk).1)
        refine hK.out _ _ (SB.off (by rfl) trivial) (fun hSB4 => ?_)
        clear hK K
        try simp only [Act.put, List.getElem_toArray, List.getElem_cons_zero, List.getElem_cons_succ, List.setIfInBounds_toArray, List.set_cons_zero, List.set_cons_succ]
        refine wpAnyG_one (i := 7) (by kernel_rfl) rfl (fun K hK => ?_)
        refine vstep_appP _ (by rfl) _ _ (by rfl) w.heap.size (an + Pk) hB5.size _ (A ++ O.take Pk) (by rfl) hown5 W4.heap.size (x, y) (by rfl) hp5 (by omega) ?_
        intro a7 c7 W7 hown7 hB7
        refine hK.out _ _ (SB.off (by rfl) trivial) (fun hSB7 => ?_)
        clear hK K
        try simp only [Act.put, List.getElem_toArray, List.getElem_cons_zero, List.getElem_cons_succ, List.setIfInBounds_toArray, List.set_cons_zero, List.set_cons_succ]
        have HB7 : Hid (Below w.heap.size w W7) := hB5.trans hB7
        refine wpAnyG_takeP (i := 8) (v := ?_) rfl (by kernel_rfl) (by kernel_rfl) (by kernel_rfl) (fun _ _ _ h => h) rfl (Or.inl ⟨by rfl, ?_⟩) (by assumption) ?_
        rotate_left
        · intro Y _; go_simp; try with_reducible rfl
        intro hSB8
        try simp only [Act.put, List.getElem_toArray, List.getElem_cons_zero, List.getElem_cons_succ, List.setIfInBounds_toArray, List.set_cons_zero, List.set_cons_succ]
        refine wpAnyG_done (by kernel_rfl) ?_ _
        clear hSB hSB0 hSB1 hSB2 hSB3 hSB5 hSB4 hSB6 hSB7 hSB8
        have HW7 : Hid (W7.ownsRow w.heap.size 39 2 (.slice a7 (an + Pk + 1) c7) (an + Pk + 1) (prCells (A ++ O.take Pk ++ [(x, y)]))) := hown7
        clear hown7 hB7 hown5 hg5 hB5 H4 HNb HNc hBa hp5
        cases oa with
        | none =>
          obtain ⟨h1, h2⟩ := HO.out.1 w (Below.refl _ _) |>.nil rfl
          subst h1
          subst h2
          obtain rfl : Pk = 0 := by omega
          have HZ : Hid (∃ (A : List Pr) (O : List Pr), (∀ Y, Below w.heap.size w Y → PrV Y (none) (0) (0) O) ∧ Ris O ∧ W7.ownsRow w.heap.size 39 2 (.slice a7 (an + 0 + 1) c7) (an + 0 + 1) (prCells A) ∧ Below w.heap.size w W7 ∧ mergeM old news = A ++ mergeM O (news.drop (k + 1))) := ⟨A ++ O.take 0 ++ [(x, y)], O.drop 0, fun Y hY => by have := prV_drop (HO.out.1 Y hY) 0 (Nat.le_refl _); simpa [cutA] using this, List.Pairwise.sublist (List.drop_sublist _ _) HO.out.2.1, HW7.out, HB7.out, by rw [HO.out.2.2, List.append_assoc, List.append_assoc]; rfl⟩
          clear HW7 HB7 HO
          go_wp2
          go_roundw
          case rel => exact ⟨k + 1, none, 0, 0, a7, an + 0 + 1, c7, by omega, rfl, rfl, by go_num, by omega, by omega, HZ.out⟩
          case measure => simp [intOf]; omega
        | some ao =>
          obtain ⟨ob, oo, os⟩ := ao
          have j1 : (Pk : Int) ≤ (on : Int) := by omega
          have j2 : (on : Int) ≤ (oc : Int) := by omega
          by_cases hz : Pk = oc
          · obtain rfl : on = Pk := by omega
            subst hz
            have HZ : Hid (∃ (A : List Pr) (O : List Pr), (∀ Y, Below w.heap.size w Y → PrV Y (some ⟨ob, oo, os⟩) (0) (0) O) ∧ Ris O ∧ W7.ownsRow w.heap.size 39 2 (.slice a7 (an + on + 1) c7) (an + on + 1) (prCells A) ∧ Below w.heap.size w W7 ∧ mergeM old news = A ++ mergeM O (news.drop (k + 1))) := ⟨A ++ O.take on ++ [(x, y)], O.drop on, fun Y hY => by have := prV_drop (HO.out.1 Y hY) on (Nat.le_refl _); simpa [cutA] using this, List.Pairwise.sublist (List.drop_sublist _ _) HO.out.2.1, HW7.out, HB7.out, by rw [HO.out.2.2, List.append_assoc, List.append_assoc]; rfl⟩
            clear HW7 HB7 HO
            go_wp2
            go_roundw
            case rel => exact ⟨k + 1, some ⟨ob, oo, os⟩, 0, 0, a7, an + on + 1, c7, by omega, rfl, rfl, by go_num, by omega, by omega, HZ.out⟩
            case measure => simp [intOf]; omega
          · have HZ0 : Hid True := trivial
            have HZ : Hid (∃ (A : List Pr) (O : List Pr), (∀ Y, Below w.heap.size w Y → PrV Y (some (Addr.add ⟨ob, oo, os⟩ (Pk * 2))) (on - Pk) (oc - Pk) O) ∧ Ris O ∧ W7.ownsRow w.heap.size 39 2 (.slice a7 (an + Pk + 1) c7) (an + Pk + 1) (prCells A) ∧ Below w.heap.size w W7 ∧ mergeM old news = A ++ mergeM O (news.drop (k + 1))) := ⟨A ++ O.take Pk ++ [(x, y)], O.drop Pk, fun Y hY => by have := prV_drop (HO.out.1 Y hY) Pk (by omega); rw [cutA, if_neg (by omega)] at this; exact this, List.Pairwise.sublist (List.drop_sublist _ _) HO.out.2.1, HW7.out, HB7.out, by rw [HO.out.2.2, List.append_assoc, List.append_assoc]; rfl⟩
            clear HW7 HB7 HO
            go_wp2
            go_roundw
            case rel => exact ⟨k + 1, some (Addr.add ⟨ob, oo, os⟩ (Pk * 2)), on - Pk, oc - Pk, a7, an + Pk + 1, c7, by omega, rfl, rfl, by go_num, by omega, by omega, HZ.out⟩
            case measure => simp [intOf]; omega
    · obtain rfl : k = m := by omega
      have hd : news.drop k = [] := List.drop_of_length_le (by rw [HL.out.2.2.2.1]; exact Nat.le_refl _)
      rw [hd, mergeM] at hmg
      have i1 : ¬ (k : Int) < (k : Int) := by omega
      have hlen : an + on = n + k := by
        have h1 := mergeM_len old news
        rw [hmg, List.length_append, HL.out.2.2.1, HL.out.2.2.2.1, (hO w (Below.refl _ _)).prs.1] at h1
        have h2 := hrow.1
        rw [prCells_len] at h2
        omega
      have HZ : Hid (PrV wr oa on oc O ∧ wr.ownsRow w.heap.size 39 2 (.slice aa an ac) an (prCells A) ∧ Below w.heap.size w wr ∧ mergeM old news = A ++ O ∧ an + on = n + k) := ⟨hO wr hBw, hrow, hBw, hmg, hlen⟩
      clear hO hRO hrow hBw hmg H hd hlen
      go_wp2_with (at_builtin; refine wpList_appV rfl _ _ rfl w.heap.size an on oc (.slice aa an ac) A O oa rfl rfl HZ.out.2.1 HZ.out.1.prs HZ.out.1.nil (by omega) HZ.out.2.2.1.size ?_; intro a6 c6 w6 _ hown6 hB6; have H6 : Hid (w6.ownsRow w.heap.size 39 2 (.slice a6 (an + on) c6) (an + on) (prCells (A ++ O)) ∧ Below w.heap.size w w6) := ⟨hown6, HZ.out.2.2.1.trans hB6⟩; clear hown6 hB6)
      go_ret
      rw [HZ.out.2.2.2.1, ← HZ.out.2.2.2.2]
      exact ⟨_, _, rfl, H6.out.1, H6.out.2⟩
end Go.Proofs.YtdjodigimhgklaaGreatDoor
