import Derived.Test.YtggnglgehobglaaGreatDoorP26
/- What Inverse and Compose make, plain. -/
namespace Go.Proofs.YtggnglgehobglaaGreatDoor

/-- agreeing on rows of names is agreeing -/
theorem agH_agrF {F : List Ru} (hF : FOk F) (hU : FrU F) (hA : AgH (hT (tabL F))) : AgrF F := fun r hr s hs lr ls => by
  have key : ∀ q ∈ F, letsK q.1 = true → hT (tabL F) (frN q) = some (some (toN q)) := fun q hq lq => by
    have := hT_key (fOk_tok hF) ((tabL_iff hU q.2.1 q).2 ⟨hq, rfl⟩)
    unfold cls at this
    rw [if_pos lq] at this
    exact this
  have h := fun d => hA (frN r) (frN s) (toN r) (toN s) d (key r hr lr) (key s hs ls)
  rw [← glue_fr r, ← glue_fr s, ← glue_to r, ← glue_to s, restP_glue _ _ (frN_good (hF r hr)) (frN_good (hF s hs)), restP_glue _ _ (toN_good (hF r hr)) (toN_good (hF s hs))]
  by_cases h1 : frN s <+: frN r
  · obtain ⟨d, hd⟩ := h1
    have h2 := (h d).1 hd.symm
    rw [← hd, h2, if_pos (List.prefix_append _ _), if_pos (List.prefix_append _ _), List.drop_left, List.drop_left]
  · have h2 : ¬ toN s <+: toN r := fun ⟨d, hd⟩ => h1 ⟨d, ((h d).2 hd.symm).symm⟩
    rw [if_neg h1, if_neg h2]
/-- the source, on rows of names -/
theorem src_im {F : List Ru} (hF : FOk F) (hU : FormU F) {X : Rw} (hX : Good X) : (∀ A, imN (hT (tabL F)) A = some X → srcL F (glue X) = some (glue A)) ∧ ∀ l, srcL F (glue X) = some l → ∃ A, Good A ∧ l = glue A ∧ imN (hT (tabL F)) A = some X := by
  have hA := agH_agrF hF hU.fr hU.agr
  refine ⟨fun A h => ?_, fun l h => ?_⟩
  · have hg := im_goodA hU.tok hX h
    exact there_back hF hA hg (by rw [hU.img hg, h]; rfl)
  · have hb := back_there hF hA hX h
    obtain ⟨r, hr, lr, d, rfl, rfl, _⟩ := src_some F (fun _ h => h) hF hX h
    have hd : Good d := fun n hn => hX n (List.mem_append.2 (.inr hn))
    have hg : Good (frN r ++ d) := (frN_good (hF r hr)).app hd
    refine ⟨_, hg, rfl, ?_⟩
    rw [hU.img hg] at hb
    cases e : imN (hT (tabL F)) (frN r ++ d) with
    | none => rw [e] at hb; cases hb
    | some Y =>
      rw [e] at hb
      have h1 : glue Y = glue (toN r ++ d) := Option.some.inj hb
      have := congrArg parts h1
      rw [parts_glue _ (im_good hU.tok hg e), parts_glue _ hX] at this
      rw [this]
/-! the way back -/
/-- a row of names that is a path -/
def PthN (X : Rw) : Prop := Good X ∧ isP (glue X) = true
theorem PthN.init {X : Rw} {n : List UInt8} (h : PthN (X ++ [n])) : PthN X := by
  obtain ⟨hg, h⟩ := h
  have hX : Good X := fun y hy => hg y (by simp [hy])
  refine ⟨hX, ?_⟩
  rw [isP_glue _ hg] at h
  rw [isP_glue _ hX]
  have : (glue X).length ≤ (glue (X ++ [n])).length := by
    by_cases e : X = []
    · subst e; rw [glue_nil]; exact Nat.zero_le _
    · rw [glue_append X [n] e (by simp), List.length_append]; omega
  rw [List.length_append] at h
  omega
/-- what Inverse sets for a rule -/
def bkR (F : List Ru) (r : Ru) : Option Ru := if letsK r.1 = true then some (3, tgtR r, r.2.1) else if isP (movR (uprT (tabL F) r.2.1) r.2.1) = true then some (2, movR (uprT (tabL F) r.2.1) r.2.1, []) else none
def bkL (F : List Ru) : List Ru := F.filterMap (bkR F)
theorem up_shape {α : Type} {h : Ht α} {A X : List α} (e : upI h A = some X) : ∃ B n Z, A = B ++ [n] ∧ X = Z ++ [n] ∧ imN h B = some Z := by
  rcases snoc_cases A with rfl | ⟨B, n, rfl⟩
  · cases e
  · rw [upI_snoc] at e
    cases hi : imN h B with
    | none => rw [hi] at e; cases e
    | some Z =>
      rw [hi] at e
      exact ⟨B, n, Z, rfl, (Option.some.inj e).symm, hi⟩
/-- where a rule stands in the table that leads back -/
def imO {α : Type} (h : Ht α) (A : List α) (X : List α) : Prop := h A = some (some X) ∨ (h A = some none ∧ upI h A = some X)
theorem imO_inj {α : Type} {h : Ht α} (ha : AgH h) {A B X : List α} (hA : imO h A X) (hB : imO h B X) : A = B := by
  have key : ∀ A B, imN h A = some X → upI h B = some X → A = B := fun A B h1 h2 => by
    obtain ⟨B', n, Z, rfl, rfl, hi⟩ := up_shape h2
    exact (ha.inj h1 hi [n]).2 rfl
  have own : ∀ A, h A = some (some X) → imN h A = some X := fun A e => by rw [imN_up, e]; rfl
  rcases hA with h1 | ⟨_, h1⟩
  · rcases hB with h2 | ⟨_, h2⟩
    · exact ha.inj0 (own A h1) (own B h2)
    · exact key A B (own A h1) h2
  · rcases hB with h2 | ⟨_, h2⟩
    · exact (key B A (own B h2) h1).symm
    · obtain ⟨A', n, Z, rfl, rfl, hi⟩ := up_shape h1
      obtain ⟨B', m, Z', rfl, e, hi'⟩ := up_shape h2
      obtain ⟨rfl, e2⟩ := List.append_inj' e rfl
      cases e2
      rw [ha.inj0 hi hi']
section
variable {F : List Ru} (hF : FOk F) (hU : FormU F)
include hU
theorem hT_mem {r : Ru} (hr : r ∈ F) : hT (tabL F) (frN r) = some (cls r) := hT_key hU.tok ((tabL_iff hU.fr r.2.1 r).2 ⟨hr, rfl⟩)
include hF
theorem drop_up {r : Ru} (hr : r ∈ F) (hl : letsK r.1 = false) : ∃ Y, upI (hT (tabL F)) (frN r) = some Y ∧ movR (uprT (tabL F) r.2.1) r.2.1 = glue Y ∧ Good Y := by
  have h1 := hU.fo _ _ (hT_mem hU hr)
  rw [cls_some, hl] at h1
  cases e : upI (hT (tabL F)) (frN r) with
  | none => rw [e] at h1; exact absurd rfl h1
  | some Y =>
    have := upr_mov hU.tok (frN_good (hF r hr)) e
    rw [glue_fr] at this
    exact ⟨Y, rfl, this⟩
theorem bk_key {r q : Ru} (hr : r ∈ F) (hq : bkR F r = some q) : imO (hT (tabL F)) (frN r) (frN q) ∧ isP q.2.1 = true ∧ isP q.2.2 = true ∧ KdR q := by
  have h1 := hT_mem hU hr
  unfold bkR at hq
  by_cases hl : letsK r.1 = true
  · rw [if_pos hl] at hq
    have e : (3, tgtR r, r.2.1) = q := Option.some.inj hq
    rw [← e]
    refine ⟨.inl ?_, tgtR_isP (hF r hr), (hF r hr).1, .inl rfl⟩
    rw [h1]
    unfold cls
    rw [if_pos hl]; rfl
  · rw [if_neg hl] at hq
    obtain ⟨Y, e1, e2, e3⟩ := drop_up hF hU hr (by simpa using hl)
    rw [e2] at hq
    by_cases hp : isP (glue Y) = true
    · rw [if_pos hp] at hq
      have e : (2, glue Y, []) = q := Option.some.inj hq
      rw [← e]
      refine ⟨.inr ⟨?_, ?_⟩, hp, isP_nil, .inr ⟨.inr rfl, rfl⟩⟩
      · rw [h1]
        unfold cls
        rw [if_neg hl]
      · rw [e1]
        show some Y = some (parts (glue Y))
        rw [parts_glue Y e3]
    · rw [if_neg hp] at hq; cases hq
theorem bk_frU : FrU (bkL F) := by
  unfold FrU bkL
  rw [List.pairwise_filterMap]
  refine hU.fr.imp_of_mem ?_
  intro r s hr hs hne q hq q' hq' e
  have h1 := (bk_key hF hU hr hq).1
  have h2 := (bk_key hF hU hs hq').1
  have e2 : frN q = frN q' := by unfold frN; rw [e]
  rw [e2] at h1
  have := imO_inj hU.agr h1 h2
  exact hne (by rw [← glue_fr r, this, glue_fr])
theorem bk_fOk : FOk (bkL F) := fun q hq => by
  obtain ⟨r, hr, e⟩ := List.mem_filterMap.1 hq
  exact ⟨(bk_key hF hU hr e).2.1, (bk_key hF hU hr e).2.2.1⟩
theorem bk_back : BackH (hT (tabL F)) PthN (hT (tabL (bkL F))) := by
  have htk := fOk_tok (bk_fOk hF hU)
  have hbU := bk_frU hF hU
  refine ⟨fun A T => ⟨fun h => ?_, fun h => ?_⟩, fun Y => ⟨fun h => ?_, fun ⟨A, h, hu, hp⟩ => ?_⟩⟩
  · obtain ⟨r, hr, hc, rfl, _⟩ := hT_some hU.tok h
    have hm := (tabL_mem F _ r hr).1
    by_cases hl : letsK r.1 = true
    · unfold cls at hc
      rw [if_pos hl] at hc
      cases hc
      have hq : (3, tgtR r, r.2.1) ∈ bkL F := List.mem_filterMap.2 ⟨r, hm, by unfold bkR; rw [if_pos hl]⟩
      exact hT_key htk ((tabL_iff hbU (tgtR r) _).2 ⟨hq, rfl⟩)
    · unfold cls at hc
      rw [if_neg hl] at hc; cases hc
  · obtain ⟨q, hq, hc, rfl, _⟩ := hT_some htk h
    obtain ⟨r, hr, e⟩ := List.mem_filterMap.1 (tabL_mem _ _ q hq).1
    unfold bkR at e
    by_cases hl : letsK r.1 = true
    · rw [if_pos hl] at e
      have e' : (3, tgtR r, r.2.1) = q := Option.some.inj e
      rw [← e'] at hc ⊢
      have hc' : A = frN r := (Option.some.inj hc).symm
      rw [hc', hT_mem hU hr]
      unfold cls
      rw [if_pos hl]; rfl
    · rw [if_neg hl] at e
      split at e
      · have e' : _ = q := Option.some.inj e
        rw [← e'] at hc
        cases hc
      · cases e
  · obtain ⟨q, hq, hc, rfl, _⟩ := hT_some htk h
    obtain ⟨r, hr, e⟩ := List.mem_filterMap.1 (tabL_mem _ _ q hq).1
    obtain ⟨h1, h2, _⟩ := bk_key hF hU hr e
    rcases h1 with h1 | ⟨h1, h3⟩
    · have hl : letsK r.1 = true := by
        rw [← cls_some, Option.some.inj ((hT_mem hU hr).symm.trans h1)]; rfl
      unfold bkR at e
      rw [if_pos hl] at e
      have e' : (3, tgtR r, r.2.1) = q := Option.some.inj e
      rw [← e'] at hc
      cases hc
    · exact ⟨frN r, h1, h3, isP_good h2, by rw [glue_fr]; exact h2⟩
  · obtain ⟨r, hr, hc, rfl, _⟩ := hT_some hU.tok h
    have hm := (tabL_mem F _ r hr).1
    have hl : letsK r.1 = false := by rw [← cls_some, hc]; rfl
    obtain ⟨Y', e1, e2, e3⟩ := drop_up hF hU hm hl
    rw [hu] at e1
    cases e1
    have hq : (2, glue Y, []) ∈ bkL F := List.mem_filterMap.2 ⟨r, hm, by unfold bkR; rw [if_neg (by rw [hl]; decide), e2, if_pos hp.2]⟩
    have := hT_key htk ((tabL_iff hbU (glue Y) _).2 ⟨hq, rfl⟩)
    rw [parts_glue Y e3] at this
    exact this
theorem bk_formU {ks : List (List UInt8)} (hK : KeyL (tabL (bkL F)) ks) : FormU (formT (tabL (bkL F)) ks) ∧ FOk (formT (tabL (bkL F)) ks) := by
  have hok := bk_fOk hF hU
  refine ⟨form_formU (fOk_tok hok) (fun x q hq => ?_) ((bk_back hF hU).agr hU.agr) hK, formT_ok hok ks hK⟩
  obtain ⟨r, hr, e⟩ := List.mem_filterMap.1 (tabL_mem _ x q hq).1
  exact (bk_key hF hU hr e).2.2.2
/-- the images of what leads back are the sources -/
theorem bk_image {ks : List (List UInt8)} (hK : KeyL (tabL (bkL F)) ks) {l : List UInt8} (hl : isP l = true) : imgL (formT (tabL (bkL F)) ks) l = srcL F l := by
  have hb := bk_back hF hU
  obtain ⟨hV, hVo⟩ := bk_formU hF hU hK
  have hX := isP_good hl
  have him := hb.im hU.agr (fun X n h => h.init) (parts l) ⟨hX, by rw [glue_parts]; exact hl⟩
  have e1 : imgL (formT (tabL (bkL F)) ks) l = (imN (hT (tabL (bkL F))) (parts l)).map glue := by
    have := hV.img hX
    rw [glue_parts] at this
    rw [this, show hT (tabL (formT (tabL (bkL F)) ks)) = foH (hT (tabL (bkL F))) from funext (form_fo (fOk_tok (bk_fOk hF hU)) hK), fo_im (hb.agr hU.agr)]
  obtain ⟨s1, s2⟩ := src_im hF hU hX
  rw [glue_parts] at s1 s2
  rw [e1]
  cases e : imN (hT (tabL (bkL F))) (parts l) with
  | some A => exact (s1 A ((him A).1 e)).symm
  | none =>
    cases e2 : srcL F l with
    | none => rfl
    | some l' =>
      obtain ⟨A, _, _, h3⟩ := s2 l' e2
      rw [(him A).2 h3] at e
      cases e
/-- where no rule is left out -/
theorem bk_twice {ks kt : List (List UInt8)} (hK : KeyL (tabL (bkL F)) ks) (hT' : KeyL (tabL (bkL (formT (tabL (bkL F)) ks))) kt) (hall : ∀ r ∈ F, (bkR F r).isSome = true) : formT (tabL (bkL (formT (tabL (bkL F)) ks))) kt = F := by
  have hb := bk_back hF hU
  obtain ⟨hV, hVo⟩ := bk_formU hF hU hK
  obtain ⟨hW, hWo⟩ := bk_formU hVo hV hT'
  refine hW.eq hU (fun A => ?_)
  rw [show hT (tabL (formT (tabL (bkL (formT (tabL (bkL F)) ks))) kt)) = foH (hT (tabL (bkL (formT (tabL (bkL F)) ks)))) from funext (form_fo (fOk_tok (bk_fOk hVo hV)) hT'), fo_im ((bk_back hVo hV).agr hV.agr)]
  refine hb.twice hU.agr (form_fo (fOk_tok (bk_fOk hF hU)) hK) (bk_back hVo hV) (fun A Y h hu => ?_) (fun A s h => ?_) A
  · obtain ⟨r, hr, hc, rfl, _⟩ := hT_some hU.tok h
    have hm := (tabL_mem F _ r hr).1
    have hl : letsK r.1 = false := by rw [← cls_some, hc]; rfl
    obtain ⟨Y', e1, e2, e3⟩ := drop_up hF hU hm hl
    rw [hu] at e1
    cases e1
    refine ⟨e3, ?_⟩
    have := hall r hm
    unfold bkR at this
    rw [if_neg (by rw [hl]; decide), e2] at this
    by_cases hp : isP (glue Y) = true
    · exact hp
    · rw [if_neg hp] at this; cases this
  · obtain ⟨r, hr, _, rfl, hg⟩ := hT_some hU.tok h
    exact ⟨hg, by rw [glue_fr]; exact (hF r (tabL_mem F _ r hr).1).1⟩
end
theorem nodup_le : ∀ (l k : List (List UInt8)), l.Nodup → (∀ x ∈ l, x ∈ k) → l.length ≤ k.length
  | [], _, _, _ => Nat.zero_le _
  | x :: l, k, hn, hs => by
    obtain ⟨h1, h2⟩ := List.nodup_cons.1 hn
    have hx := hs x (by simp)
    have := nodup_le l (k.erase x) h2 (fun y hy => (List.mem_erase_of_ne (fun e => h1 (by rw [← e]; exact hy))).2 (hs y (by simp [hy])))
    rw [List.length_erase_of_mem hx] at this
    have := List.length_pos_of_mem hx
    simp only [List.length_cons]
    omega
theorem key_len {G : List Ru} {ks : List (List UInt8)} (hK : KeyL (tabL G) ks) : ks.length ≤ G.length := by
  have := nodup_le ks (G.map fun r => r.2.1) hK.nd (fun x hx => by
    obtain ⟨r, hr⟩ := Option.isSome_iff_exists.1 ((hK.mem x).1 hx)
    obtain ⟨h1, h2⟩ := tabL_mem G x r hr
    exact List.mem_map.2 ⟨r, h1, h2⟩)
  rw [List.length_map] at this
  exact this
theorem filterMap_all {α β : Type} (f : α → Option β) : ∀ l : List α, l.length ≤ (l.filterMap f).length → ∀ x ∈ l, (f x).isSome = true
  | [], _, x, hx => by cases hx
  | a :: l, h, x, hx => by
    have hle := List.length_filterMap_le f l
    cases e : f a with
    | none =>
      rw [List.filterMap_cons_none e] at h
      simp only [List.length_cons] at h
      omega
    | some b =>
      rw [List.filterMap_cons_some e] at h
      simp only [List.length_cons] at h
      rcases List.mem_cons.1 hx with rfl | hx
      · rw [e]; rfl
      · exact filterMap_all f l (by omega) x hx
theorem bk_all {F : List Ru} {ks : List (List UInt8)} (hK : KeyL (tabL (bkL F)) ks) (h : (formT (tabL (bkL F)) ks).length = F.length) : ∀ r ∈ F, (bkR F r).isSome = true := by
  refine filterMap_all _ F ?_
  have h1 := formT_len (tabL (bkL F)) ks
  have h2 := key_len hK
  show F.length ≤ (bkL F).length
  omega
/-! one behind the other -/
def thR (F G : List Ru) (x : List UInt8) : Ru := match (imgL F x).bind (imgL G) with
  | none => (2, x, [])
  | some y => (3, x, y)
def thL (F G : List Ru) : List Ru := F.map (fun r => thR F G r.2.1) ++ G.filterMap (fun r => (srcL F r.2.1).map (thR F G))
theorem thR_from (F G : List Ru) (x : List UInt8) : (thR F G x).2.1 = x := by
  unfold thR
  split <;> rfl
theorem thR_kd (F G : List Ru) (x : List UInt8) : KdR (thR F G x) := by
  unfold thR
  split
  · exact .inr ⟨.inr rfl, rfl⟩
  · exact .inl rfl
theorem th_mem {F G : List Ru} {q : Ru} (h : q ∈ thL F G) : q = thR F G q.2.1 := by
  unfold thL at h
  rcases List.mem_append.1 h with h | h
  · obtain ⟨r, _, rfl⟩ := List.mem_map.1 h
    rw [thR_from]
  · obtain ⟨r, _, e⟩ := List.mem_filterMap.1 h
    cases e2 : srcL F r.2.1 with
    | none => rw [e2] at e; cases e
    | some x =>
      rw [e2] at e
      have e' : thR F G x = q := Option.some.inj e
      rw [← e', thR_from]
theorem bind_im {F G : List Ru} (hF : FormU F) (hG : FormU G) {A : Rw} (hA : Good A) : (imgL F (glue A)).bind (imgL G) = (thnI (hT (tabL F)) (hT (tabL G)) A).map glue ∧ ∀ Y, thnI (hT (tabL F)) (hT (tabL G)) A = some Y → Good Y := by
  rw [hF.img hA]
  unfold thnI
  cases e : imN (hT (tabL F)) A with
  | none => exact ⟨rfl, fun Y h => by cases h⟩
  | some X =>
    have hX := im_good hF.tok hA e
    exact ⟨hG.img hX, fun Y h => im_good hG.tok hX h⟩
theorem thR_cls {F G : List Ru} (hF : FormU F) (hG : FormU G) {A : Rw} (hA : Good A) : cls (thR F G (glue A)) = thnI (hT (tabL F)) (hT (tabL G)) A := by
  obtain ⟨h1, h2⟩ := bind_im hF hG hA
  unfold thR
  rw [h1]
  cases e : thnI (hT (tabL F)) (hT (tabL G)) A with
  | none => rfl
  | some Y =>
    show some (parts (glue Y)) = some Y
    rw [parts_glue Y (h2 Y e)]
theorem th_tok {F G : List Ru} (hFo : FOk F) (hGo : FOk G) (hF : FormU F) (hG : FormU G) : TOk (tabL (thL F G)) := fun x q h => by
  obtain ⟨h1, h2⟩ := tabL_mem _ _ _ h
  have hx : Good (parts x) := by
    rw [← h2]
    unfold thL at h1
    rcases List.mem_append.1 h1 with h | h
    · obtain ⟨r, hr, rfl⟩ := List.mem_map.1 h
      rw [thR_from]
      exact isP_good (hFo r hr).1
    · obtain ⟨r, hr, e⟩ := List.mem_filterMap.1 h
      cases e2 : srcL F r.2.1 with
      | none => rw [e2] at e; cases e
      | some y =>
        rw [e2] at e
        have e' : thR F G y = q := Option.some.inj e
        rw [← glue_parts r.2.1] at e2
        obtain ⟨A, hA, rfl, _⟩ := (src_im hFo hF (isP_good (hGo r hr).1)).2 y e2
        rw [← e', thR_from, parts_glue A hA]
        exact hA
  refine ⟨h2, hx, fun hl => ?_⟩
  have h3 := th_mem h1
  rw [h2] at h3
  have h4 := thR_cls hF hG hx
  rw [glue_parts, ← h3] at h4
  unfold cls at h4
  rw [if_pos hl] at h4
  exact (bind_im hF hG hx).2 _ h4.symm
theorem th_then {F G : List Ru} (hFo : FOk F) (hGo : FOk G) (hF : FormU F) (hG : FormU G) : ThenH (hT (tabL F)) (hT (tabL G)) (hT (tabL (thL F G))) := by
  have htk := th_tok hFo hGo hF hG
  have there : ∀ A : Rw, Good A → thR F G (glue A) ∈ thL F G → (hT (tabL (thL F G)) A).isSome = true := fun A hA h => by
    obtain ⟨s, _, e, _⟩ := tabL_key _ _ h
    rw [thR_from] at e
    rw [hT_good _ hA, e]; rfl
  refine ⟨fun A s h => ?_, fun A h => ?_, fun A X h1 h2 => ?_⟩
  · obtain ⟨q, hq, hc, _, hA⟩ := hT_some htk h
    obtain ⟨h1, h2⟩ := tabL_mem _ _ _ hq
    have h3 := th_mem h1
    rw [h2] at h3
    rw [← hc, h3, thR_cls hF hG hA]
  · obtain ⟨s, hs⟩ := Option.isSome_iff_exists.1 h
    obtain ⟨r, hr, _, _, hA⟩ := hT_some hF.tok hs
    obtain ⟨hm, he⟩ := tabL_mem F _ r hr
    exact there A hA (List.mem_append.2 (.inl (List.mem_map.2 ⟨r, hm, by rw [he]⟩)))
  · obtain ⟨s, hs⟩ := Option.isSome_iff_exists.1 h2
    obtain ⟨r, hr, _, _, hX⟩ := hT_some hG.tok hs
    obtain ⟨hm, he⟩ := tabL_mem G _ r hr
    have hA := im_goodA hF.tok hX h1
    exact there A hA (List.mem_append.2 (.inr (List.mem_filterMap.2 ⟨r, hm, by rw [he, (src_im hFo hF hX).1 A h1]; rfl⟩)))
theorem th_formU {F G : List Ru} (hFo : FOk F) (hGo : FOk G) (hF : FormU F) (hG : FormU G) {ks : List (List UInt8)} (hK : KeyL (tabL (thL F G)) ks) : FormU (formT (tabL (thL F G)) ks) ∧ ∀ A, imN (hT (tabL (formT (tabL (thL F G)) ks))) A = thnI (hT (tabL F)) (hT (tabL G)) A := by
  have htk := th_tok hFo hGo hF hG
  have hth := th_then hFo hGo hF hG
  have ha := hth.agr hF.agr hG.agr
  refine ⟨form_formU htk (fun x q hq => ?_) ha hK, fun A => ?_⟩
  · rw [th_mem (tabL_mem _ _ _ hq).1]
    exact thR_kd F G _
  · rw [show hT (tabL (formT (tabL (thL F G)) ks)) = foH (hT (tabL (thL F G))) from funext (form_fo htk hK), fo_im ha, hth.im]
/-! the Map that keeps all -/
def trvL : List Ru := [(1, [], [])]
theorem trv_h (A : Rw) : hT (tabL trvL) A = if A = [] then some (some []) else none := by
  by_cases e : A = []
  · subst e; rfl
  · rw [if_neg e]
    unfold hT
    by_cases h : parts (glue A) = A
    · rw [if_pos h]
      have : tabL trvL (glue A) = none := by
        show (if glue A = [] then _ else none) = none
        rw [if_neg]
        intro e2
        rw [e2] at h
        exact e h.symm
      rw [this]; rfl
    · rw [if_neg h]
theorem trv_im (A : Rw) : imN (hT (tabL trvL)) A = some A := by
  refine snoc_ind (P := fun A => imN (hT (tabL trvL)) A = some A) ?_ ?_ A
  · rw [imN_nil, trv_h, if_pos rfl]; rfl
  · intro A n ih
    rw [imN_snoc, trv_h, if_neg (by simp), ih]; rfl
theorem trv_ok : FOk trvL := fun r hr => by
  have e : r = (1, [], []) := by simpa [trvL] using hr
  rw [e]
  exact ⟨isP_nil, isP_nil⟩
theorem trv_formU : FormU trvL := by
  refine ⟨fOk_tok trv_ok, List.pairwise_singleton _ _, List.pairwise_singleton _ _, fun r hr => ?_, fun A s h => ?_, fun A B T U d h1 h2 => ?_⟩
  · have e : r = (1, [], []) := by simpa [trvL] using hr
    rw [e]; rfl
  · rw [trv_h] at h
    by_cases e : A = []
    · subst e
      rw [if_pos rfl] at h
      cases h
      simp [upI_nil]
    · rw [if_neg e] at h; cases h
  · rw [trv_h] at h1 h2
    by_cases e : A = []
    · by_cases e2 : B = []
      · rw [if_pos e] at h1
        rw [if_pos e2] at h2
        cases h1
        cases h2
        rw [e, e2]
      · rw [if_neg e2] at h2; cases h2
    · rw [if_neg e] at h1; cases h1
end Go.Proofs.YtggnglgehobglaaGreatDoor
