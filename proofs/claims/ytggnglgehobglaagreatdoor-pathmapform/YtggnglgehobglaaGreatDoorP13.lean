import Derived.Deep.RegionHeld
import Derived.Test.YtggnglgehobglaaGreatDoorP12
/- Regions that draw their order: what must hold of the memory may hang on which operations have come up. -/
namespace Go.Proofs.YtggnglgehobglaaGreatDoor

section
variable {P : Program} {ops : Array Oper} {Q : Exit → Act → World → Prop} {md : Region.Mode} {S : Array Bool → World → Prop}

def wpAnyG (P : Program) (md : Region.Mode) (ops : Array Oper) (Q : Exit → Act → World → Prop) (S : Array Bool → World → Prop) : Nat → Array Bool → Act → World → Prop
  | 0, listed, a, w => Region.ready md ops listed = [] ∧ Q .normal a w
  | fuel + 1, listed, a, w =>
    (Region.ready md ops listed = [] → Q .normal a w) ∧
    ∀ i ∈ Region.ready md ops listed, wpOp P ops Q i (fun a' w' => S (listed.setIfInBounds i true) w' ∧ wpAnyG P md ops Q S fuel (listed.setIfInBounds i true) a' w') a w
theorem wpAny_of_G : ∀ (fuel : Nat) (listed : Array Bool) (a : Act) (w : World), wpAnyG P md ops Q S fuel listed a w → wpAny P md ops Q fuel listed a w
  | 0, _, _, _, h => h
  | fuel + 1, _, _, _, h => ⟨h.1, fun i hi => wpOp_mono (fun a' w' h' => wpAny_of_G fuel _ a' w' h'.2) (h.2 i hi)⟩

/-- An operation may be taken first, if it yields its value in every world that meets T; T holds as long as the operation b, which waits for it, has not come up. -/
theorem wpAnyG_first {i b : Nat} {oi ob : Oper} {v : Value} {T : World → Prop} (hi : ops[i]? = some oi) (hsel : ∀ (j : Nat) (o : Oper) cs b, ops[j]? = some o → o.op ≠ .select cs b)
    (hQ : ∀ c a w, Q (.panic c) (a.put oi.dst v) w → Q (.panic c) a w) (hT : ∀ L w, L.getD b true = false → S L w → T w)
    (hSi : ∀ L w, L.getD b true = false → S L w → S (L.setIfInBounds i true) w) (hSu : ∀ L w, L.getD b true = false → S (L.setIfInBounds i true) w → S L w) (hb : ops[b]? = some ob) (hbw : ∃ e ∈ ob.after, Region.binds md e = true ∧ e.on = i) (hbi : b ≠ i) :
    ∀ (fuel : Nat) (listed : Array Bool) (a : Act) (w : World), listed.getD b true = false →
      (∀ j oj, ops[j]? = some oj → j ≠ i → listed.getD j true = false → (∀ e ∈ oj.after, Region.binds md e = true → e.on ≠ i) → oi.apart ops oj = true) →
      i ∈ Region.ready md ops listed → YieldsIf P ops T oi v a → S listed w →
      wpAnyG P md ops Q S fuel (listed.setIfInBounds i true) (a.put oi.dst v) w → wpAnyG P md ops Q S (fuel + 1) listed a w := by
  intro fuel
  induction fuel with
  | zero =>
    intro listed a w hlb _ hr hy hS H
    refine ⟨fun h => (by rw [h] at hr; cases hr), fun j hj => ?_⟩
    by_cases hji : j = i
    · subst hji; exact hy.wpOp hi (hT _ _ hlb hS) ⟨hSi _ _ hlb hS, H⟩
    · have := ready_mono hj hji
      rw [H.1] at this
      cases this
  | succ fuel ih =>
    intro listed a w hlb hfree hr hy hS H
    refine ⟨fun h => (by rw [h] at hr; cases hr), fun j hj => ?_⟩
    by_cases hji : j = i
    · subst hji; exact hy.wpOp hi (hT _ _ hlb hS) ⟨hSi _ _ hlb hS, H⟩
    · have h1 := H.2 j (ready_mono hj hji)
      obtain ⟨hjun, oj, hoj, hall⟩ := mem_ready.1 hj
      have hnot : ∀ e ∈ oj.after, Region.binds md e = true → e.on ≠ i := fun e he hbd heq => by
        have h1 := hall e he hbd
        have h0 := (mem_ready.1 hr).1
        rw [heq] at h1
        rcases Nat.lt_or_ge i listed.size with h' | h'
        · simp [h'] at h0 h1; rw [h0] at h1; cases h1
        · simp [Array.getElem?_eq_none h'] at h1
      have hjb : j ≠ b := fun e => by
        subst e
        obtain ⟨e, he, hbd, heq⟩ := hbw
        rw [hb] at hoj
        cases hoj
        exact hnot e he hbd heq
      have hlb' : (listed.setIfInBounds j true).getD b true = false := by rw [getD_set_ne true hjb]; exact hlb
      have h2 := wpOp_putIf hoj (hfree j oj hoj hji hjun hnot) (fun cs b => hsel i oi cs b hi) (fun cs b => hsel j oj cs b hoj) hQ hy h1
      have hfree' : ∀ k ok, ops[k]? = some ok → k ≠ i → (listed.setIfInBounds j true).getD k true = false →
          (∀ e ∈ ok.after, Region.binds md e = true → e.on ≠ i) → oi.apart ops ok = true := fun k ok hk hki hun hno => by
        refine hfree k ok hk hki ?_ hno
        by_cases hjk : j = k
        · subst hjk; exact hjun
        · rw [getD_set_ne true hjk] at hun; exact hun
      refine wpOp_mono (fun a' w' h3 => ?_) h2
      have hSS : S (listed.setIfInBounds j true) w' := by
        have h4 := h3.2.1
        rw [Array.setIfInBounds_comm _ _ (Ne.symm hji)] at h4
        exact hSu _ _ hlb' h4
      refine ⟨hSS, ih (listed.setIfInBounds j true) a' w' hlb' hfree' (ready_mono hr (Ne.symm hji)) h3.1 hSS ?_⟩
      rw [Array.setIfInBounds_comm _ _ hji]
      exact h3.2.2
theorem wpAnyG_ready {rs : List Nat} {fuel : Nat} {listed : Array Bool} {a : Act} {w : World} (hr : Region.ready md ops listed = rs) (hne : rs ≠ [])
    (h : ∀ i ∈ rs, wpOp P ops Q i (fun a' w' => S (listed.setIfInBounds i true) w' ∧ wpAnyG P md ops Q S fuel (listed.setIfInBounds i true) a' w') a w) : wpAnyG P md ops Q S (fuel + 1) listed a w :=
  ⟨fun h0 => absurd (hr ▸ h0) hne, hr ▸ h⟩
theorem wpAnyG_one {i : Nat} {o : Oper} {fuel : Nat} {listed : Array Bool} {a : Act} {w : World} (hr : Region.ready md ops listed = [i]) (ho : ops[i]? = some o)
    (h : ∀ K' : Act → World → Prop, Shut (∀ a w, S (listed.setIfInBounds i true) w → (S (listed.setIfInBounds i true) w → wpAnyG P md ops Q S fuel (listed.setIfInBounds i true) a w) → K' a w) → if Region.wanted o (yielded ops a.tmps) = true then Oper.wp P o a w K' Q else K' (a.put o.dst undef) w) : wpAnyG P md ops Q S (fuel + 1) listed a w :=
  wpAnyG_ready hr (by simp) fun j hj => by
    simp at hj
    subst hj
    exact wpOp_step ho (fun K' hK => h K' (fun a w hS hW => hK a w ⟨hS, hW hS⟩))
theorem wpAnyG_done {listed : Array Bool} {a : Act} {w : World} (hr : Region.ready md ops listed = []) (h : Q .normal a w) :
    ∀ fuel, wpAnyG P md ops Q S fuel listed a w
  | 0 => ⟨hr, h⟩
  | _ + 1 => ⟨fun _ => h, by rw [hr]; simp⟩
theorem wp_region_G {id : Nat} {a : Act} {w : World} (hm : P.follows .mixedOrders = true)
    (h : wpAnyG P .any ops Q S ops.size (Array.replicate ops.size false) a w.drew) : (Code.region id ops true).wp P Q a w :=
  wp_region_any hm (wpAny_of_G _ _ _ _ h)
/-- memory that holds T0, and T as long as the operation b has not come up -/
def SB (b : Nat) (T T0 : World → Prop) : Array Bool → World → Prop := fun L w => (L.getD b true = false → T w) ∧ T0 w
theorem SB.set {b i : Nat} {T T0 : World → Prop} {L : Array Bool} {w : World} (h : i ≠ b) : SB b T T0 (L.setIfInBounds i true) w ↔ SB b T T0 L w := by
  unfold SB
  rw [getD_set_ne true h]
/-- number i is taken first: it yields its value in every world that meets T and T0, and b waits for it -/
theorem wpAnyG_takeB {i b : Nat} {oi ob : Oper} {v : Value} {T T0 : World → Prop} {fuel : Nat} {listed : Array Bool} {a : Act} {w : World} (hi : ops[i]? = some oi)
    (hs : Region.noSelect ops = true) (hf : Region.free md ops listed i = true) (hr : (Region.ready md ops listed).contains i = true)
    (hQ : ∀ c a w, Q (.panic c) (a.put oi.dst v) w → Q (.panic c) a w) (hb : ops[b]? = some ob) (hbw : (ob.after.any fun e => Region.binds md e && e.on == i) = true) (hne : (i != b) = true) (hl : (listed.getD b true) = false)
    (hy : YieldsIf P ops (fun W => T W ∧ T0 W) oi v a) (hS : SB b T T0 listed w)
    (h : SB b T T0 (listed.setIfInBounds i true) w → wpAnyG P md ops Q (SB b T T0) fuel (listed.setIfInBounds i true) (a.put oi.dst v) w) : wpAnyG P md ops Q (SB b T T0) (fuel + 1) listed a w := by
  have hib : i ≠ b := by simpa using hne
  refine wpAnyG_first (T := fun W => T W ∧ T0 W) (b := b) hi (Region.noSelect_spec hs) hQ (fun L w hL hS => ⟨hS.1 hL, hS.2⟩) (fun L w _ hS => (SB.set hib).2 hS) (fun L w _ hS => (SB.set hib).1 hS) hb ?_ (Ne.symm hib) fuel listed a w hl (Region.free_spec hi hf) (by simpa using hr) hy hS (h ((SB.set hib).2 hS))
  simp only [Array.any_eq_true'] at hbw
  obtain ⟨e, he, h2⟩ := hbw
  simp only [Bool.and_eq_true, beq_iff_eq] at h2
  exact ⟨e, he, h2.1, h2.2⟩
/-- number i is taken first: it yields its value in every world that meets T0 -/
theorem wpAnyG_firstP {i b : Nat} {oi : Oper} {v : Value} {T T0 : World → Prop} (hib : i ≠ b) (hi : ops[i]? = some oi) (hsel : ∀ (j : Nat) (o : Oper) cs b, ops[j]? = some o → o.op ≠ .select cs b)
    (hQ : ∀ c a w, Q (.panic c) (a.put oi.dst v) w → Q (.panic c) a w) :
    ∀ (fuel : Nat) (listed : Array Bool) (a : Act) (w : World),
      (∀ j oj, ops[j]? = some oj → j ≠ i → listed.getD j true = false → (∀ e ∈ oj.after, Region.binds md e = true → e.on ≠ i) → oi.apart ops oj = true) →
      i ∈ Region.ready md ops listed → YieldsIf P ops T0 oi v a → SB b T T0 listed w →
      wpAnyG P md ops Q (SB b T T0) fuel (listed.setIfInBounds i true) (a.put oi.dst v) w → wpAnyG P md ops Q (SB b T T0) (fuel + 1) listed a w := by
  intro fuel
  induction fuel with
  | zero =>
    intro listed a w _ hr hy hS H
    refine ⟨fun h => (by rw [h] at hr; cases hr), fun j hj => ?_⟩
    by_cases hji : j = i
    · subst hji; exact hy.wpOp hi hS.2 ⟨(SB.set hib).2 hS, H⟩
    · have := ready_mono hj hji
      rw [H.1] at this
      cases this
  | succ fuel ih =>
    intro listed a w hfree hr hy hS H
    refine ⟨fun h => (by rw [h] at hr; cases hr), fun j hj => ?_⟩
    by_cases hji : j = i
    · subst hji; exact hy.wpOp hi hS.2 ⟨(SB.set hib).2 hS, H⟩
    · have h1 := H.2 j (ready_mono hj hji)
      obtain ⟨hjun, oj, hoj, hall⟩ := mem_ready.1 hj
      have hnot : ∀ e ∈ oj.after, Region.binds md e = true → e.on ≠ i := fun e he hbd heq => by
        have h1 := hall e he hbd
        have h0 := (mem_ready.1 hr).1
        rw [heq] at h1
        rcases Nat.lt_or_ge i listed.size with h' | h'
        · simp [h'] at h0 h1; rw [h0] at h1; cases h1
        · simp [Array.getElem?_eq_none h'] at h1
      have h2 := wpOp_putIf hoj (hfree j oj hoj hji hjun hnot) (fun cs b => hsel i oi cs b hi) (fun cs b => hsel j oj cs b hoj) hQ hy h1
      have hfree' : ∀ k ok, ops[k]? = some ok → k ≠ i → (listed.setIfInBounds j true).getD k true = false →
          (∀ e ∈ ok.after, Region.binds md e = true → e.on ≠ i) → oi.apart ops ok = true := fun k ok hk hki hun hno => by
        refine hfree k ok hk hki ?_ hno
        by_cases hjk : j = k
        · subst hjk; exact hjun
        · rw [getD_set_ne true hjk] at hun; exact hun
      refine wpOp_mono (fun a' w' h3 => ?_) h2
      have hSS : SB b T T0 (listed.setIfInBounds j true) w' := by
        have h4 := h3.2.1
        rw [Array.setIfInBounds_comm _ _ (Ne.symm hji)] at h4
        exact (SB.set hib).1 h4
      refine ⟨hSS, ih (listed.setIfInBounds j true) a' w' hfree' (ready_mono hr (Ne.symm hji)) h3.1 hSS ?_⟩
      rw [Array.setIfInBounds_comm _ _ hji]
      exact h3.2.2
theorem wpAnyG_takeP {i b : Nat} {oi : Oper} {v : Value} {T T0 : World → Prop} {fuel : Nat} {listed : Array Bool} {a : Act} {w : World} (hi : ops[i]? = some oi)
    (hs : Region.noSelect ops = true) (hf : Region.free md ops listed i = true) (hr : (Region.ready md ops listed).contains i = true)
    (hQ : ∀ c a w, Q (.panic c) (a.put oi.dst v) w → Q (.panic c) a w) (hne : (i != b) = true)
    (hy : YieldsIf P ops T0 oi v a) (hS : SB b T T0 listed w)
    (h : SB b T T0 (listed.setIfInBounds i true) w → wpAnyG P md ops Q (SB b T T0) fuel (listed.setIfInBounds i true) (a.put oi.dst v) w) : wpAnyG P md ops Q (SB b T T0) (fuel + 1) listed a w :=
  wpAnyG_firstP (by simpa using hne) hi (Region.noSelect_spec hs) hQ fuel listed a w (Region.free_spec hi hf) (by simpa using hr) hy hS (h ((SB.set (by simpa using hne)).2 hS))
theorem SB.on {b : Nat} {T T0 : World → Prop} {L : Array Bool} {w : World} (h1 : T w) (h2 : T0 w) : SB b T T0 L w := ⟨fun _ => h1, h2⟩
theorem SB.off {b : Nat} {T T0 : World → Prop} {L : Array Bool} {w : World} (hL : L.getD b true = true) (h : T0 w) : SB b T T0 L w := ⟨(fun h' => by rw [hL] at h'; cases h'), h⟩
end
end Go.Proofs.YtggnglgehobglaaGreatDoor

/- The walk of a Map's source. -/
namespace Go.Proofs.YtggnglgehobglaaGreatDoor
open Go.RowKit Go.Shelf Go.Maps

attribute [local go_sem] Oper.semAt_some

/-- the row of which another one is the image: by the first rule that lets rows through, and in whose To it lies -/
def srcR (F : List Ru) : List Ru → List UInt8 → Option (List UInt8)
  | [], _ => none
  | r :: rs, i => if letsK r.1 then
      (match restP i (tgtR r) with
      | none => srcR F rs i
      | some left => if letsK (ruleT (tabL F) (joinR r.2.1 left)).1 then some (joinR r.2.1 left) else none)
    else srcR F rs i
def srcL (F : List Ru) (i : List UInt8) : Option (List UInt8) := srcR F F i
theorem srcR_drop (F : List Ru) (k : Nat) (r : Ru) (i : List UInt8) (h : F[k]? = some r) : srcR F (F.drop k) i = if letsK r.1 then
      (match restP i (tgtR r) with
      | none => srcR F (F.drop (k + 1)) i
      | some left => if letsK (ruleT (tabL F) (joinR r.2.1 left)).1 then some (joinR r.2.1 left) else none)
    else srcR F (F.drop (k + 1)) i := by
  obtain ⟨hk, rfl⟩ := List.getElem?_eq_some_iff.1 h
  rw [List.drop_eq_getElem_cons hk]
  rfl
theorem tgtR_isP {r : Ru} (h : isP r.2.1 = true ∧ isP r.2.2 = true) : isP (tgtR r) = true := by
  unfold tgtR
  split
  · exact h.1
  · exact h.2
theorem joinR_len (p q : List UInt8) : (joinR p q).length ≤ p.length + q.length + 1 := by
  unfold joinR
  split
  · rw [List.length_append]; omega
  · rw [List.length_append, List.length_cons]; omega
theorem restP_getD (p q : List UInt8) : ((restP p q).getD []).length ≤ p.length := by
  cases h : restP p q with
  | none => exact Nat.zero_le _
  | some r => exact restP_len p q r h
theorem imgL_len {F : List Ru} (hF : FOk F) {l x : List UInt8} (h : imgL F l = some x) (hl : l.length ≤ 200) : x.length ≤ 1000000 := by
  unfold imgL at h
  split at h
  · have h1 := isP_len (tgtR_isP (ruleT_ok hF l))
    have h2 := restP_getD l (ruleT (tabL F) l).2.1
    have h3 := joinR_len (tgtR (ruleT (tabL F) l)) ((restP l (ruleT (tabL F) l).2.1).getD [])
    have h4 := congrArg List.length (Option.some.inj h)
    omega
  · cases h
theorem srcR_len {F : List Ru} : ∀ (rs : List Ru), FOk rs → ∀ {l x : List UInt8}, srcR F rs l = some x → l.length ≤ 200 → x.length ≤ 1000000
  | [], _, _, _, h, _ => by cases h
  | r :: rs, hF, l, x, h, hl => by
    have ih := srcR_len (F := F) rs (fun y hy => hF y (List.mem_cons_of_mem _ hy)) (l := l) (x := x)
    simp only [srcR] at h
    split at h
    · split at h
      · exact ih h hl
      · rename_i left hleft
        split at h
        · have h4 := congrArg List.length (Option.some.inj h)
          have h1 := isP_len (hF r (by simp)).1
          have h2 := restP_len l (tgtR r) left hleft
          have h3 := joinR_len r.2.1 left
          omega
        · cases h
    · exact ih h hl
theorem srcL_len {F : List Ru} (hF : FOk F) {l x : List UInt8} (h : srcL F l = some x) (hl : l.length ≤ 200) : x.length ≤ 1000000 := srcR_len F hF h hl
set_option maxRecDepth 100000 in
set_option maxHeartbeats 4000000 in
theorem source_any (w : World) (m : Nat) (F : List Ru) (s : ByteArray) (hM : MpAt w m F) (hs : s.size ≤ 300000) :
    Calls Tryz.prog 26 #[.pointer (some ⟨m, 0, none⟩), .string s] w fun e w' => e = .returned (.tuple #[.string (mk ((srcL F (bs s)).getD [])), .bool (srcL F (bs s)).isSome]) ∧ Below w.heap.size w w' := by
  obtain ⟨a, n, c, b, c0, c1, h1, h2, h3, h4⟩ := hM.ex
  have HM : Hid (MpAt w m F ∧ Rus w a n F ∧ TbAt w b (tabL F) n ∧ w.cell? ⟨m, 1, none⟩ = some (.map (some b))) := ⟨hM, h1, h3, c1⟩
  obtain ⟨E, hE⟩ : ∃ E, E = srcL F (bs s) := ⟨_, rfl⟩
  rw [← hE]
  have HE0 : Hid (E = srcR F (F.drop 0) (bs s)) := by show _ = _; rw [hE]; rfl
  have hn1 := h4.1
  clear hE hM h1 h2 h3 h4 c1
  go_enter Tryz.func26, Tryz.ntmps26
  go_wp2
  clear c0
  go_loopw [16] (fun v wr => ∃ k : Nat, k ≤ n ∧ v = .int .i64 (k : Int) ∧ Hid (Below w.heap.size w wr ∧ E = srcR F (F.drop k) (bs s))) (fun v _ => n - (intOf v).toNat)
  case atStart => exact ⟨0, Nat.zero_le _, rfl, Below.refl _ _, HE0.out⟩
  case round =>
    clear HE0
    obtain ⟨k, hk, rfl, H⟩ := hrel
    by_cases hlt : k < n
    · obtain ⟨r, hr⟩ : ∃ r, F[k]? = some r := ⟨_, List.getElem?_eq_getElem (by rw [HM.out.2.1.1]; exact hlt)⟩
      obtain ⟨b1, o1, hae, hc1⟩ := (HM.out.2.1.kept H.out.1).2 (by omega)
      subst hae
      obtain ⟨q0, q1, q2⟩ := hc1 k r hr
      have hrok := HM.out.1.ok r (List.mem_of_getElem? hr)
      have hsd := srcR_drop F k r (bs s) hr
      have hE := H.out.2.trans hsd
      obtain ⟨f', hf'⟩ : ∃ f', f' = mk r.2.1 := ⟨_, rfl⟩
      obtain ⟨t', ht'⟩ : ∃ t', t' = mk r.2.2 := ⟨_, rfl⟩
      obtain ⟨kk, hkk⟩ : ∃ kk, kk = r.1 := ⟨_, rfl⟩
      rw [← hf'] at q1
      rw [← ht'] at q2
      rw [← hkk] at q0 hE
      have hfb : bs f' = r.2.1 := by rw [hf', bs_mk]
      have hTg : bs (tgt kk f' t') = tgtR r := by
        rw [hkk, hf', ht']
        unfold tgt tgtR
        split <;> rw [bs_mk]
      have hTp := tgtR_isP hrok
      have hTs : (tgt kk f' t').size ≤ 200 := by rw [← bs_len, hTg]; exact isP_len hTp
      have hfs : f'.size ≤ 200 := by rw [← bs_len, hfb]; exact isP_len hrok.1
      have hle := fun W => lets_any kk f' t' W
      have hta := fun W => target_any kk f' t' W
      have hre := fun W => mrest_any s (tgt kk f' t') W (by omega) (by omega) (by rw [hTg]; exact right_path _ hTp)
      have HR : Hid (restS s (tgt kk f' t') = mk ((restP (bs s) (tgtR r)).getD []) ∧ restB s (tgt kk f' t') = (restP (bs s) (tgtR r)).isSome) := ⟨by unfold restS; rw [hTg], by unfold restB; rw [hTg]⟩
      have hRs := restS_size s (tgt kk f' t')
      have i5 : (k : Int) < (n : Int) := by omega
      have i6 : ¬ n ≤ k := by omega
      have HBx : Hid (BoxR (wr.alloc (.cells #[.int .i64 kk, .string f', .string t'] 31)) wr.heap.size kk f' t' ∧ Below w.heap.size w (wr.alloc (.cells #[.int .i64 kk, .string f', .string t'] 31))) := ⟨BoxR.new wr kk f' t', H.out.1.alloc H.out.1.size _⟩
      have HEE : Hid (E = if letsK kk then (match restP (bs s) (tgtR r) with | none => srcR F (F.drop (k + 1)) (bs s) | some left => if letsK (ruleT (tabL F) (joinR r.2.1 left)).1 then some (joinR r.2.1 left) else none) else srcR F (F.drop (k + 1)) (bs s)) := hE
      have HFB : Hid (bs f' = r.2.1) := hfb
      clear hc1 hr hrok hsd hE hf' ht' hkk hTg hTp hfb H
      go_upto_region 4 with fail
      generalize wr.alloc (.cells #[.int .i64 kk, .string f', .string t'] 31) = w2 at *
      generalize wr.heap.size = bx at *
      obtain ⟨d0, d1, d2⟩ := HBx.out.1.cell
      clear q0 q1 q2
      go_wp2_with fail
      refine (hle _).mono ?_
      clear hle
      rintro e w3 ⟨rfl, hB3⟩
      have HB3 : Hid (BoxR w3 bx kk f' t' ∧ Below w.heap.size w w3) := ⟨HBx.out.1.below hB3 HBx.out.1.lt, HBx.out.2.trans (hB3.mono HBx.out.2.size)⟩
      clear hB3 HBx d0 d1 d2
      cases hl : letsK kk with
      | false =>
        have HN : Hid (E = srcR F (F.drop (k + 1)) (bs s)) := by show _ = _; rw [HEE.out, hl]; rfl
        clear HEE hta hre HR
        go_wp2
        go_roundw
        case rel => exact ⟨k + 1, by omega, by simp, HB3.out.2, HN.out⟩
        case measure => simp [intOf]; omega
      | true =>
        have HE2 : Hid (E = (match restP (bs s) (tgtR r) with | none => srcR F (F.drop (k + 1)) (bs s) | some left => if letsK (ruleT (tabL F) (joinR r.2.1 left)).1 then some (joinR r.2.1 left) else none)) := by show _ = _; rw [HEE.out, hl]; rfl
        clear HEE
        obtain ⟨d0, d1, d2⟩ := HB3.out.1.cell
        go_wp2_with fail
        refine (hta _).mono ?_
        clear hta d0 d1 d2
        rintro e w4 ⟨rfl, hB4⟩
        have HB4 : Hid (BoxR w4 bx kk f' t' ∧ Below w.heap.size w w4) := ⟨HB3.out.1.below hB4 HB3.out.1.lt, HB3.out.2.trans (hB4.mono HB3.out.2.size)⟩
        clear hB4 HB3
        generalize tgt kk f' t' = T at *
        go_wp2_with fail
        refine (hre _).mono ?_
        clear hre
        rintro e w5 ⟨rfl, hB5⟩
        have HB5 : Hid (BoxR w5 bx kk f' t' ∧ Below w.heap.size w w5) := ⟨HB4.out.1.below hB5 HB4.out.1.lt, HB4.out.2.trans (hB5.mono HB4.out.2.size)⟩
        clear hB5 HB4
        generalize hRS : restS s T = RS at *
        generalize hRB : restB s T = RB at *
        have hRBe := HR.out.2
        cases hrp : restP (bs s) (tgtR r) with
        | none =>
          have HN : Hid (E = srcR F (F.drop (k + 1)) (bs s)) := by show _ = _; rw [HE2.out, hrp]
          rw [hrp] at hRBe
          simp only [Option.isSome_none] at hRBe
          subst hRBe
          clear HE2 HR hRS hRB hrp
          go_wp2
          go_roundw
          case rel => exact ⟨k + 1, by omega, by simp, HB5.out.2, HN.out⟩
          case measure => simp [intOf]; omega
        | some left =>
          have HE3 : Hid (E = if letsK (ruleT (tabL F) (joinR r.2.1 left)).1 then some (joinR r.2.1 left) else none) := by show _ = _; rw [HE2.out, hrp]
          rw [hrp] at hRBe
          simp only [Option.isSome_some] at hRBe
          have hRSe := HR.out.1
          rw [hrp] at hRSe
          simp only [Option.getD_some] at hRSe
          subst hRBe
          have hjo := fun W => mjoin_any f' RS W (by omega) (by omega)
          have hJ : joinB f' RS = mk (joinR r.2.1 left) := by unfold joinB; rw [HFB.out, hRSe, bs_mk]
          have hJs := joinB_size f' RS
          rw [hJ] at hjo hJs
          obtain ⟨J, hJJ⟩ : ∃ J, J = mk (joinR r.2.1 left) := ⟨_, rfl⟩
          rw [← hJJ] at hjo hJs
          have hJb : bs J = joinR r.2.1 left := by rw [hJJ, bs_mk]
          have hru := fun W hT => trule_any W b (tabL F) n J hT (by unfold maxLen; omega)
          rw [hJb] at hru
          rw [← hJb] at HE3
          have HJ : Hid (mk (bs J) = J) := mk_bs J
          rw [hJb] at HE3
          have HJb : Hid (bs J = joinR r.2.1 left) := hJb
          generalize ruleT (tabL F) (joinR r.2.1 left) = rr at *
          obtain ⟨k2, f2, t2⟩ := rr
          obtain ⟨f2', hf2'⟩ : ∃ f2', f2' = mk f2 := ⟨_, rfl⟩
          obtain ⟨t2', ht2'⟩ : ∃ t2', t2' = mk t2 := ⟨_, rfl⟩
          rw [show ruV (k2, f2, t2) = rv k2 f2' t2' by rw [hf2', ht2']] at hru
          have hle2 := fun W => lets_any k2 f2' t2' W
          obtain ⟨d0, d1, d2⟩ := HB5.out.1.cell
          clear HE2 HR hRS hRB hrp hRSe hJ hJJ hJb hf2' ht2'
          simp only at HE3
          go_wp2_with fail
          refine (hjo _).mono ?_
          clear hjo d0 d1 d2
          rintro e w6 ⟨rfl, rfl⟩
          have hT6 := HM.out.2.2.1.below HB5.out.2
          have c1 := (HB5.out.2.cell (p := ⟨m, 1, none⟩) (World.block_lt_of_cell? w _ HM.out.2.2.2)).trans HM.out.2.2.2
          have hru6 := hru _ hT6
          clear hru hT6
          go_wp2_with fail
          refine hru6.mono ?_
          clear hru6 c1
          rintro e w7 ⟨rfl, hB7⟩
          have HB7 : Hid (Below w.heap.size w w7) := HB5.out.2.trans (hB7.mono HB5.out.2.size)
          clear hB7
          go_wp2_with fail
          refine (hle2 _).mono ?_
          clear hle2
          rintro e w8 ⟨rfl, hB8⟩
          have HB8 : Hid (Below w.heap.size w w8) := HB7.out.trans (hB8.mono HB7.out.size)
          clear hB8
          cases hl2 : letsK k2 with
          | true =>
            have HX : Hid (E = some (joinR r.2.1 left)) := by show _ = _; rw [HE3.out, hl2]; rfl
            clear HE3
            go_wp2
            go_ret2
            exact ⟨by rw [HX.out, Option.getD_some, ← HJb.out, HJ.out]; rfl, HB8.out⟩
          | false =>
            have HX : Hid (E = none) := by show _ = _; rw [HE3.out, hl2]; rfl
            clear HE3
            go_wp2
            go_ret2
            exact ⟨by rw [HX.out]; rfl, HB8.out⟩
    · obtain rfl : k = n := by omega
      have i5 : ¬ (k : Int) < (k : Int) := by omega
      have HX : Hid (E = none ∧ Below w.heap.size w wr) := ⟨by rw [H.out.2, List.drop_of_length_le (by rw [HM.out.2.1.1]; exact Nat.le_refl _)]; rfl, H.out.1⟩
      clear H
      go_wp2
      go_ret2
      exact ⟨by rw [HX.out.1]; rfl, HX.out.2⟩
end Go.Proofs.YtggnglgehobglaaGreatDoor
