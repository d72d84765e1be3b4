import Derived.Test.YtggnglgehobglaaGreatDoorN16
import Derived.Deep.RegionHeld
/- A Map in memory; the walks of its image and source. -/
namespace Go.Proofs.YtggnglgehobglaaGreatDoor
open Go.RowKit Go.Shelf Go.Maps

attribute [local go_sem] Oper.semAt_some

/-- all rules have paths -/
def FOk (F : List Ru) : Prop := ∀ r ∈ F, isP r.2.1 = true ∧ isP r.2.2 = true
theorem isP_len {l : List UInt8} (h : isP l = true) : l.length ≤ 200 := ((isP_iff l).1 h).1
theorem tabL_mem : ∀ (F : List Ru) (l : List UInt8) (r : Ru), tabL F l = some r → r ∈ F ∧ r.2.1 = l := by
  intro F
  have key : ∀ (F : List Ru) (g : Tb) (l : List UInt8) (r : Ru), F.foldl (fun g r => setT g r.2.1 r) g l = some r → (r ∈ F ∧ r.2.1 = l) ∨ g l = some r := by
    intro F
    induction F with
    | nil => intro g l r h; exact .inr h
    | cons x F ih =>
      intro g l r h
      rw [List.foldl_cons] at h
      rcases ih _ _ _ h with h1 | h1
      · exact .inl ⟨List.mem_cons_of_mem _ h1.1, h1.2⟩
      · unfold setT at h1
        split at h1
        · rename_i e
          cases h1
          exact .inl ⟨by simp, e.symm⟩
        · exact .inr h1
  intro l r h
  rcases key F _ l r h with h1 | h1
  · exact h1
  · cases h1
theorem lastT_mem (g : Tb) (ls : List (List UInt8)) : lastT g ls = noR ∨ ∃ l ∈ ls, g l = some (lastT g ls) := by
  have key : ∀ (ls : List (List UInt8)) (a : Ru), ls.foldl (fun a l => (g l).getD a) a = a ∨ ∃ l ∈ ls, g l = some (ls.foldl (fun a l => (g l).getD a) a) := by
    intro ls
    induction ls with
    | nil => intro a; exact .inl rfl
    | cons x ls ih =>
      intro a
      rw [List.foldl_cons]
      cases h : g x with
      | none =>
        rcases ih a with e | ⟨l, hl, e⟩
        · exact .inl e
        · exact .inr ⟨l, by simp [hl], e⟩
      | some r =>
        rcases ih r with e | ⟨l, hl, e⟩
        · exact .inr ⟨x, by simp, by rw [h]; exact congrArg some e.symm⟩
        · exact .inr ⟨l, by simp [hl], e⟩
  exact key ls noR
theorem ruleT_mem (F : List Ru) (l : List UInt8) : ruleT (tabL F) l = noR ∨ ruleT (tabL F) l ∈ F := by
  unfold ruleT
  cases h : tabL F l with
  | some r => exact .inr (tabL_mem F l r h).1
  | none =>
    rcases lastT_mem (tabL F) (begL l) with e | ⟨k, _, e⟩
    · exact .inl e
    · exact .inr (tabL_mem F k _ e).1
theorem ruleT_ok {F : List Ru} (h : FOk F) (l : List UInt8) : isP (ruleT (tabL F) l).2.1 = true ∧ isP (ruleT (tabL F) l).2.2 = true := by
  rcases ruleT_mem F l with e | e
  · rw [e]; exact ⟨isP_nil, isP_nil⟩
  · exact h _ e
/-- block m is a Map of these rules -/
structure MpAt (w : World) (m : Nat) (F : List Ru) : Prop where
  ex : ∃ a n c b, w.cell? ⟨m, 0, none⟩ = some (.slice a n c) ∧ w.cell? ⟨m, 1, none⟩ = some (.map (some b)) ∧ Rus w a n F ∧ n ≤ c ∧ TbAt w b (tabL F) n ∧ n ≤ 1000 ∧ (a = none → n = 0 ∧ c = 0)
  ok : FOk F
theorem MpAt.below {w w' : World} {m : Nat} {F : List Ru} (h : MpAt w m F) (hB : Below w.heap.size w w') : MpAt w' m F := by
  obtain ⟨a, n, c, b, c0, c1, h1, h2, h3, h4⟩ := h.ex
  exact ⟨⟨a, n, c, b, (hB.cell (p := ⟨m, 0, none⟩) (World.block_lt_of_cell? w _ c0)).trans c0, (hB.cell (p := ⟨m, 1, none⟩) (World.block_lt_of_cell? w _ c1)).trans c1, h1.kept hB, h2, h3.below hB, h4⟩, h.ok⟩
/-- To of a rule, as this layer takes it -/
def tgtR (r : Ru) : List UInt8 := if r.1 = 1 then r.2.1 else r.2.2
/-- the image of a row -/
def imgL (F : List Ru) (l : List UInt8) : Option (List UInt8) := if letsK (ruleT (tabL F) l).1 then some (joinR (tgtR (ruleT (tabL F) l)) ((restP l (ruleT (tabL F) l).2.1).getD [])) else none
theorem movB_R (r : Ru) (s : ByteArray) : movB r.1 (mk r.2.1) (mk r.2.2) s = mk (joinR (tgtR r) ((restP (bs s) r.2.1).getD [])) := by
  unfold movB joinB
  congr 1
  have e1 : bs (tgt r.1 (mk r.2.1) (mk r.2.2)) = tgtR r := by
    unfold tgt tgtR
    split <;> rw [bs_mk]
  have e2 : bs (restS s (mk r.2.1)) = (restP (bs s) r.2.1).getD [] := by unfold restS; rw [bs_mk, bs_mk]
  rw [e1, e2]
set_option maxRecDepth 100000 in
theorem image_any (w : World) (m : Nat) (F : List Ru) (s : ByteArray) (hM : MpAt w m F) (hs : s.size ≤ 400000) :
    Calls Tryz.prog 25 #[.pointer (some ⟨m, 0, none⟩), .string s] w fun e w' => e = .returned (.tuple #[.string (mk ((imgL F (bs s)).getD [])), .bool (imgL F (bs s)).isSome]) ∧ Below w.heap.size w w' := by
  obtain ⟨a, n, c, b, c0, c1, h1, h2, h3, h4⟩ := hM.ex
  have hru := trule_any w b (tabL F) n s h3 (by unfold maxLen; omega)
  have hok := ruleT_ok hM.ok (bs s)
  have hmv := movB_R (ruleT (tabL F) (bs s)) s
  have HI : Hid (imgL F (bs s) = if letsK (ruleT (tabL F) (bs s)).1 then some (joinR (tgtR (ruleT (tabL F) (bs s))) ((restP (bs s) (ruleT (tabL F) (bs s)).2.1).getD [])) else none) := rfl
  generalize imgL F (bs s) = I at *
  generalize ruleT (tabL F) (bs s) = r at *
  obtain ⟨k, f, t⟩ := r
  simp only at hok hmv HI
  obtain ⟨f', hf'⟩ : ∃ f', f' = mk f := ⟨_, rfl⟩
  obtain ⟨t', ht'⟩ : ∃ t', t' = mk t := ⟨_, rfl⟩
  rw [show ruV (k, f, t) = rv k f' t' by rw [hf', ht']] at hru
  have hfs : f'.size ≤ 500000 := by rw [hf', ← bs_len, bs_mk]; have := isP_len hok.1; omega
  have hts : t'.size ≤ 500000 := by rw [ht', ← bs_len, bs_mk]; have := isP_len hok.2; omega
  have hfr : rightB (bs f') = true := by rw [hf', bs_mk]; exact right_path f hok.1
  have hmo := fun W => moved_any k f' t' s W hfs hts (by omega) hfr
  have hle := fun W => lets_any k f' t' W
  rw [← hf', ← ht'] at hmv
  rw [hmv] at hmo
  generalize joinR (tgtR (k, f, t)) ((restP (bs s) f).getD []) = J at *
  clear hmv hf' ht' h1 h2 h3 h4 hM c0 hfs hts hfr hok
  cases hl : letsK k with
  | true =>
    rw [hl] at hle
    have HI2 : Hid (I = some J) := by show _ = _; rw [HI.out, hl]; rfl
    clear HI hl
    go_enter Tryz.func25, Tryz.ntmps25
    go_wp2_with fail
    refine hru.mono ?_
    clear hru c1
    rintro e w1 ⟨rfl, hB1⟩
    have HB1 : Hid (Below w.heap.size w w1) := hB1
    have HBx : Hid (BoxR (w1.alloc (.cells #[.int .i64 k, .string f', .string t'] 31)) w1.heap.size k f' t' ∧ Below w.heap.size w (w1.alloc (.cells #[.int .i64 k, .string f', .string t'] 31))) := ⟨BoxR.new w1 k f' t', hB1.alloc hB1.size _⟩
    clear hB1
    go_upto_region 2 with fail
    generalize w1.alloc (.cells #[.int .i64 k, .string f', .string t'] 31) = w2 at *
    obtain ⟨d0, d1, d2⟩ := HBx.out.1.cell
    go_wp2_with fail
    refine (hle _).mono ?_
    clear hle d0 d1 d2
    rintro e w3 ⟨rfl, hB3⟩
    obtain ⟨d0, d1, d2⟩ := (HBx.out.1.below hB3 HBx.out.1.lt).cell
    have HB3 : Hid (Below w.heap.size w w3) := HBx.out.2.trans (hB3.mono HBx.out.2.size)
    clear hB3
    go_wp2_with fail
    refine (hmo _).mono ?_
    clear hmo d0 d1 d2
    rintro e w4 ⟨rfl, hB4⟩
    have HB4 : Hid (Below w.heap.size w w4) := HB3.out.trans (hB4.mono HB3.out.size)
    clear hB4
    go_wp2
    go_ret2
    exact ⟨by rw [HI2.out]; rfl, HB4.out⟩
  | false =>
    rw [hl] at hle
    have HI2 : Hid (I = none) := by show _ = _; rw [HI.out, hl]; rfl
    clear HI hl hmo
    go_enter Tryz.func25, Tryz.ntmps25
    go_wp2_with fail
    refine hru.mono ?_
    clear hru c1
    rintro e w1 ⟨rfl, hB1⟩
    have HB1 : Hid (Below w.heap.size w w1) := hB1
    have HBx : Hid (BoxR (w1.alloc (.cells #[.int .i64 k, .string f', .string t'] 31)) w1.heap.size k f' t' ∧ Below w.heap.size w (w1.alloc (.cells #[.int .i64 k, .string f', .string t'] 31))) := ⟨BoxR.new w1 k f' t', hB1.alloc hB1.size _⟩
    clear hB1
    go_upto_region 2 with fail
    generalize w1.alloc (.cells #[.int .i64 k, .string f', .string t'] 31) = w2 at *
    obtain ⟨d0, d1, d2⟩ := HBx.out.1.cell
    go_wp2_with fail
    refine (hle _).mono ?_
    clear hle d0 d1 d2
    rintro e w3 ⟨rfl, hB3⟩
    have HB3 : Hid (Below w.heap.size w w3) := HBx.out.2.trans (hB3.mono HBx.out.2.size)
    clear hB3
    go_wp2
    go_ret2
    exact ⟨by rw [HI2.out]; rfl, HB3.out⟩
end Go.Proofs.YtggnglgehobglaaGreatDoor

/- Regions that draw their order: what must hold of the memory may hang on which operations have come up. -/
namespace Go.Proofs.YtggnglgehobglaaGreatDoor

section
variable {P : Program} {ops : Array Oper} {Q : Exit → Act → World → Prop} {md : Region.Mode} {S : Array Bool → World → Prop}

def wpAnyG (P : Program) (md : Region.Mode) (ops : Array Oper) (Q : Exit → Act → World → Prop) (S : Array Bool → World → Prop) : Nat → Array Bool → Act → World → Prop
  | 0, listed, a, w => Region.ready md ops listed = [] ∧ Q .normal a w
  | fuel + 1, listed, a, w =>
    (Region.ready md ops listed = [] → Q .normal a w) ∧
    ∀ i ∈ Region.ready md ops listed, wpOp P ops Q i (fun a' w' => S (listed.setIfInBounds i true) w' ∧ wpAnyG P md ops Q S fuel (listed.setIfInBounds i true) a' w') a w
theorem wpAny_of_G : ∀ (fuel : Nat) (listed : Array Bool) (a : Act) (w : World), wpAnyG P md ops Q S fuel listed a w → wpAny P md ops Q fuel listed a w
  | 0, _, _, _, h => h
  | fuel + 1, _, _, _, h => ⟨h.1, fun i hi => wpOp_mono (fun a' w' h' => wpAny_of_G fuel _ a' w' h'.2) (h.2 i hi)⟩

/-- An operation may be taken first, if it yields its value in every world that meets T; T holds as long as the operation b, which waits for it, has not come up. -/
theorem wpAnyG_first {i b : Nat} {oi ob : Oper} {v : Value} {T : World → Prop} (hi : ops[i]? = some oi) (hsel : ∀ (j : Nat) (o : Oper) cs b, ops[j]? = some o → o.op ≠ .select cs b)
    (hQ : ∀ c a w, Q (.panic c) (a.put oi.dst v) w → Q (.panic c) a w) (hT : ∀ L w, L.getD b true = false → S L w → T w)
    (hSi : ∀ L w, L.getD b true = false → S L w → S (L.setIfInBounds i true) w) (hSu : ∀ L w, L.getD b true = false → S (L.setIfInBounds i true) w → S L w) (hb : ops[b]? = some ob) (hbw : ∃ e ∈ ob.after, Region.binds md e = true ∧ e.on = i) (hbi : b ≠ i) :
    ∀ (fuel : Nat) (listed : Array Bool) (a : Act) (w : World), listed.getD b true = false →
      (∀ j oj, ops[j]? = some oj → j ≠ i → listed.getD j true = false → (∀ e ∈ oj.after, Region.binds md e = true → e.on ≠ i) → oi.apart ops oj = true) →
      i ∈ Region.ready md ops listed → YieldsIf P ops T oi v a → S listed w →
      wpAnyG P md ops Q S fuel (listed.setIfInBounds i true) (a.put oi.dst v) w → wpAnyG P md ops Q S (fuel + 1) listed a w := by
  intro fuel
  induction fuel with
  | zero =>
    intro listed a w hlb _ hr hy hS H
    refine ⟨fun h => (by rw [h] at hr; cases hr), fun j hj => ?_⟩
    by_cases hji : j = i
    · subst hji; exact hy.wpOp hi (hT _ _ hlb hS) ⟨hSi _ _ hlb hS, H⟩
    · have := ready_mono hj hji
      rw [H.1] at this
      cases this
  | succ fuel ih =>
    intro listed a w hlb hfree hr hy hS H
    refine ⟨fun h => (by rw [h] at hr; cases hr), fun j hj => ?_⟩
    by_cases hji : j = i
    · subst hji; exact hy.wpOp hi (hT _ _ hlb hS) ⟨hSi _ _ hlb hS, H⟩
    · have h1 := H.2 j (ready_mono hj hji)
      obtain ⟨hjun, oj, hoj, hall⟩ := mem_ready.1 hj
      have hnot : ∀ e ∈ oj.after, Region.binds md e = true → e.on ≠ i := fun e he hbd heq => by
        have h1 := hall e he hbd
        have h0 := (mem_ready.1 hr).1
        rw [heq] at h1
        rcases Nat.lt_or_ge i listed.size with h' | h'
        · simp [h'] at h0 h1; rw [h0] at h1; cases h1
        · simp [Array.getElem?_eq_none h'] at h1
      have hjb : j ≠ b := fun e => by
        subst e
        obtain ⟨e, he, hbd, heq⟩ := hbw
        rw [hb] at hoj
        cases hoj
        exact hnot e he hbd heq
      have hlb' : (listed.setIfInBounds j true).getD b true = false := by rw [getD_set_ne true hjb]; exact hlb
      have h2 := wpOp_putIf hoj (hfree j oj hoj hji hjun hnot) (fun cs b => hsel i oi cs b hi) (fun cs b => hsel j oj cs b hoj) hQ hy h1
      have hfree' : ∀ k ok, ops[k]? = some ok → k ≠ i → (listed.setIfInBounds j true).getD k true = false →
          (∀ e ∈ ok.after, Region.binds md e = true → e.on ≠ i) → oi.apart ops ok = true := fun k ok hk hki hun hno => by
        refine hfree k ok hk hki ?_ hno
        by_cases hjk : j = k
        · subst hjk; exact hjun
        · rw [getD_set_ne true hjk] at hun; exact hun
      refine wpOp_mono (fun a' w' h3 => ?_) h2
      have hSS : S (listed.setIfInBounds j true) w' := by
        have h4 := h3.2.1
        rw [Array.setIfInBounds_comm _ _ (Ne.symm hji)] at h4
        exact hSu _ _ hlb' h4
      refine ⟨hSS, ih (listed.setIfInBounds j true) a' w' hlb' hfree' (ready_mono hr (Ne.symm hji)) h3.1 hSS ?_⟩
      rw [Array.setIfInBounds_comm _ _ hji]
      exact h3.2.2
theorem wpAnyG_ready {rs : List Nat} {fuel : Nat} {listed : Array Bool} {a : Act} {w : World} (hr : Region.ready md ops listed = rs) (hne : rs ≠ [])
    (h : ∀ i ∈ rs, wpOp P ops Q i (fun a' w' => S (listed.setIfInBounds i true) w' ∧ wpAnyG P md ops Q S fuel (listed.setIfInBounds i true) a' w') a w) : wpAnyG P md ops Q S (fuel + 1) listed a w :=
  ⟨fun h0 => absurd (hr ▸ h0) hne, hr ▸ h⟩
theorem wpAnyG_one {i : Nat} {o : Oper} {fuel : Nat} {listed : Array Bool} {a : Act} {w : World} (hr : Region.ready md ops listed = [i]) (ho : ops[i]? = some o)
    (h : ∀ K' : Act → World → Prop, Shut (∀ a w, S (listed.setIfInBounds i true) w → (S (listed.setIfInBounds i true) w → wpAnyG P md ops Q S fuel (listed.setIfInBounds i true) a w) → K' a w) → if Region.wanted o (yielded ops a.tmps) = true then Oper.wp P o a w K' Q else K' (a.put o.dst undef) w) : wpAnyG P md ops Q S (fuel + 1) listed a w :=
  wpAnyG_ready hr (by simp) fun j hj => by
    simp at hj
    subst hj
    exact wpOp_step ho (fun K' hK => h K' (fun a w hS hW => hK a w ⟨hS, hW hS⟩))
theorem wpAnyG_done {listed : Array Bool} {a : Act} {w : World} (hr : Region.ready md ops listed = []) (h : Q .normal a w) :
    ∀ fuel, wpAnyG P md ops Q S fuel listed a w
  | 0 => ⟨hr, h⟩
  | _ + 1 => ⟨fun _ => h, by rw [hr]; simp⟩
theorem wp_region_G {id : Nat} {a : Act} {w : World} (hm : P.follows .mixedOrders = true)
    (h : wpAnyG P .any ops Q S ops.size (Array.replicate ops.size false) a w.drew) : (Code.region id ops true).wp P Q a w :=
  wp_region_any hm (wpAny_of_G _ _ _ _ h)
/-- memory that holds T0, and T as long as the operation b has not come up -/
def SB (b : Nat) (T T0 : World → Prop) : Array Bool → World → Prop := fun L w => (L.getD b true = false → T w) ∧ T0 w
theorem SB.set {b i : Nat} {T T0 : World → Prop} {L : Array Bool} {w : World} (h : i ≠ b) : SB b T T0 (L.setIfInBounds i true) w ↔ SB b T T0 L w := by
  unfold SB
  rw [getD_set_ne true h]
/-- number i is taken first: it yields its value in every world that meets T and T0, and b waits for it -/
theorem wpAnyG_takeB {i b : Nat} {oi ob : Oper} {v : Value} {T T0 : World → Prop} {fuel : Nat} {listed : Array Bool} {a : Act} {w : World} (hi : ops[i]? = some oi)
    (hs : Region.noSelect ops = true) (hf : Region.free md ops listed i = true) (hr : (Region.ready md ops listed).contains i = true)
    (hQ : ∀ c a w, Q (.panic c) (a.put oi.dst v) w → Q (.panic c) a w) (hb : ops[b]? = some ob) (hbw : (ob.after.any fun e => Region.binds md e && e.on == i) = true) (hne : (i != b) = true) (hl : (listed.getD b true) = false)
    (hy : YieldsIf P ops (fun W => T W ∧ T0 W) oi v a) (hS : SB b T T0 listed w)
    (h : SB b T T0 (listed.setIfInBounds i true) w → wpAnyG P md ops Q (SB b T T0) fuel (listed.setIfInBounds i true) (a.put oi.dst v) w) : wpAnyG P md ops Q (SB b T T0) (fuel + 1) listed a w := by
  have hib : i ≠ b := by simpa using hne
  refine wpAnyG_first (T := fun W => T W ∧ T0 W) (b := b) hi (Region.noSelect_spec hs) hQ (fun L w hL hS => ⟨hS.1 hL, hS.2⟩) (fun L w _ hS => (SB.set hib).2 hS) (fun L w _ hS => (SB.set hib).1 hS) hb ?_ (Ne.symm hib) fuel listed a w hl (Region.free_spec hi hf) (by simpa using hr) hy hS (h ((SB.set hib).2 hS))
  simp only [Array.any_eq_true'] at hbw
  obtain ⟨e, he, h2⟩ := hbw
  simp only [Bool.and_eq_true, beq_iff_eq] at h2
  exact ⟨e, he, h2.1, h2.2⟩
/-- number i is taken first: it yields its value in every world that meets T0 -/
theorem wpAnyG_firstP {i b : Nat} {oi : Oper} {v : Value} {T T0 : World → Prop} (hib : i ≠ b) (hi : ops[i]? = some oi) (hsel : ∀ (j : Nat) (o : Oper) cs b, ops[j]? = some o → o.op ≠ .select cs b)
    (hQ : ∀ c a w, Q (.panic c) (a.put oi.dst v) w → Q (.panic c) a w) :
    ∀ (fuel : Nat) (listed : Array Bool) (a : Act) (w : World),
      (∀ j oj, ops[j]? = some oj → j ≠ i → listed.getD j true = false → (∀ e ∈ oj.after, Region.binds md e = true → e.on ≠ i) → oi.apart ops oj = true) →
      i ∈ Region.ready md ops listed → YieldsIf P ops T0 oi v a → SB b T T0 listed w →
      wpAnyG P md ops Q (SB b T T0) fuel (listed.setIfInBounds i true) (a.put oi.dst v) w → wpAnyG P md ops Q (SB b T T0) (fuel + 1) listed a w := by
  intro fuel
  induction fuel with
  | zero =>
    intro listed a w _ hr hy hS H
    refine ⟨fun h => (by rw [h] at hr; cases hr), fun j hj => ?_⟩
    by_cases hji : j = i
    · subst hji; exact hy.wpOp hi hS.2 ⟨(SB.set hib).2 hS, H⟩
    · have := ready_mono hj hji
      rw [H.1] at this
      cases this
  | succ fuel ih =>
    intro listed a w hfree hr hy hS H
    refine ⟨fun h => (by rw [h] at hr; cases hr), fun j hj => ?_⟩
    by_cases hji : j = i
    · subst hji; exact hy.wpOp hi hS.2 ⟨(SB.set hib).2 hS, H⟩
    · have h1 := H.2 j (ready_mono hj hji)
      obtain ⟨hjun, oj, hoj, hall⟩ := mem_ready.1 hj
      have hnot : ∀ e ∈ oj.after, Region.binds md e = true → e.on ≠ i := fun e he hbd heq => by
        have h1 := hall e he hbd
        have h0 := (mem_ready.1 hr).1
        rw [heq] at h1
        rcases Nat.lt_or_ge i listed.size with h' | h'
        · simp [h'] at h0 h1; rw [h0] at h1; cases h1
        · simp [Array.getElem?_eq_none h'] at h1
      have h2 := wpOp_putIf hoj (hfree j oj hoj hji hjun hnot) (fun cs b => hsel i oi cs b hi) (fun cs b => hsel j oj cs b hoj) hQ hy h1
      have hfree' : ∀ k ok, ops[k]? = some ok → k ≠ i → (listed.setIfInBounds j true).getD k true = false →
          (∀ e ∈ ok.after, Region.binds md e = true → e.on ≠ i) → oi.apart ops ok = true := fun k ok hk hki hun hno => by
        refine hfree k ok hk hki ?_ hno
        by_cases hjk : j = k
        · subst hjk; exact hjun
        · rw [getD_set_ne true hjk] at hun; exact hun
      refine wpOp_mono (fun a' w' h3 => ?_) h2
      have hSS : SB b T T0 (listed.setIfInBounds j true) w' := by
        have h4 := h3.2.1
        rw [Array.setIfInBounds_comm _ _ (Ne.symm hji)] at h4
        exact (SB.set hib).1 h4
      refine ⟨hSS, ih (listed.setIfInBounds j true) a' w' hfree' (ready_mono hr (Ne.symm hji)) h3.1 hSS ?_⟩
      rw [Array.setIfInBounds_comm _ _ hji]
      exact h3.2.2
theorem wpAnyG_takeP {i b : Nat} {oi : Oper} {v : Value} {T T0 : World → Prop} {fuel : Nat} {listed : Array Bool} {a : Act} {w : World} (hi : ops[i]? = some oi)
    (hs : Region.noSelect ops = true) (hf : Region.free md ops listed i = true) (hr : (Region.ready md ops listed).contains i = true)
    (hQ : ∀ c a w, Q (.panic c) (a.put oi.dst v) w → Q (.panic c) a w) (hne : (i != b) = true)
    (hy : YieldsIf P ops T0 oi v a) (hS : SB b T T0 listed w)
    (h : SB b T T0 (listed.setIfInBounds i true) w → wpAnyG P md ops Q (SB b T T0) fuel (listed.setIfInBounds i true) (a.put oi.dst v) w) : wpAnyG P md ops Q (SB b T T0) (fuel + 1) listed a w :=
  wpAnyG_firstP (by simpa using hne) hi (Region.noSelect_spec hs) hQ fuel listed a w (Region.free_spec hi hf) (by simpa using hr) hy hS (h ((SB.set (by simpa using hne)).2 hS))
theorem SB.on {b : Nat} {T T0 : World → Prop} {L : Array Bool} {w : World} (h1 : T w) (h2 : T0 w) : SB b T T0 L w := ⟨fun _ => h1, h2⟩
theorem SB.off {b : Nat} {T T0 : World → Prop} {L : Array Bool} {w : World} (hL : L.getD b true = true) (h : T0 w) : SB b T T0 L w := ⟨(fun h' => by rw [hL] at h'; cases h'), h⟩
end
end Go.Proofs.YtggnglgehobglaaGreatDoor
