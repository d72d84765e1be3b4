import Derived.Test.YtggnglgehobglaaL17
/- A Map in memory; the walks of its image and source. -/
namespace Go.Proofs.Ytggnglgehobglaa
open Go.RowKit Go.Shelf Go.Maps

attribute [local go_sem] Oper.semAt_some

/-- all rules have paths -/
def FOk (F : List Ru) : Prop := ∀ r ∈ F, isP r.2.1 = true ∧ isP r.2.2 = true
theorem isP_len {l : List UInt8} (h : isP l = true) : l.length ≤ 200 := ((isP_iff l).1 h).1
theorem tabL_mem : ∀ (F : List Ru) (l : List UInt8) (r : Ru), tabL F l = some r → r ∈ F ∧ r.2.1 = l := by
  intro F
  have key : ∀ (F : List Ru) (g : Tb) (l : List UInt8) (r : Ru), F.foldl (fun g r => setT g r.2.1 r) g l = some r → (r ∈ F ∧ r.2.1 = l) ∨ g l = some r := by
    intro F
    induction F with
    | nil => intro g l r h; exact .inr h
    | cons x F ih =>
      intro g l r h
      rw [List.foldl_cons] at h
      rcases ih _ _ _ h with h1 | h1
      · exact .inl ⟨List.mem_cons_of_mem _ h1.1, h1.2⟩
      · unfold setT at h1
        split at h1
        · rename_i e
          cases h1
          exact .inl ⟨by simp, e.symm⟩
        · exact .inr h1
  intro l r h
  rcases key F _ l r h with h1 | h1
  · exact h1
  · cases h1
theorem lastT_mem (g : Tb) (ls : List (List UInt8)) : lastT g ls = noR ∨ ∃ l ∈ ls, g l = some (lastT g ls) := by
  have key : ∀ (ls : List (List UInt8)) (a : Ru), ls.foldl (fun a l => (g l).getD a) a = a ∨ ∃ l ∈ ls, g l = some (ls.foldl (fun a l => (g l).getD a) a) := by
    intro ls
    induction ls with
    | nil => intro a; exact .inl rfl
    | cons x ls ih =>
      intro a
      rw [List.foldl_cons]
      cases h : g x with
      | none =>
        rcases ih a with e | ⟨l, hl, e⟩
        · exact .inl e
        · exact .inr ⟨l, by simp [hl], e⟩
      | some r =>
        rcases ih r with e | ⟨l, hl, e⟩
        · exact .inr ⟨x, by simp, by rw [h]; exact congrArg some e.symm⟩
        · exact .inr ⟨l, by simp [hl], e⟩
  exact key ls noR
theorem ruleT_mem (F : List Ru) (l : List UInt8) : ruleT (tabL F) l = noR ∨ ruleT (tabL F) l ∈ F := by
  unfold ruleT
  cases h : tabL F l with
  | some r => exact .inr (tabL_mem F l r h).1
  | none =>
    rcases lastT_mem (tabL F) (begL l) with e | ⟨k, _, e⟩
    · exact .inl e
    · exact .inr (tabL_mem F k _ e).1
theorem ruleT_ok {F : List Ru} (h : FOk F) (l : List UInt8) : isP (ruleT (tabL F) l).2.1 = true ∧ isP (ruleT (tabL F) l).2.2 = true := by
  rcases ruleT_mem F l with e | e
  · rw [e]; exact ⟨isP_nil, isP_nil⟩
  · exact h _ e
/-- block m is a Map of these rules -/
structure MpAt (w : World) (m : Nat) (F : List Ru) : Prop where
  ex : ∃ a n c b, w.cell? ⟨m, 0, none⟩ = some (.slice a n c) ∧ w.cell? ⟨m, 1, none⟩ = some (.map (some b)) ∧ Rus w a n F ∧ n ≤ c ∧ TbAt w b (tabL F) n ∧ n ≤ 1000 ∧ (a = none → n = 0 ∧ c = 0)
  ok : FOk F
theorem MpAt.below {w w' : World} {m : Nat} {F : List Ru} (h : MpAt w m F) (hB : Below w.heap.size w w') : MpAt w' m F := by
  obtain ⟨a, n, c, b, c0, c1, h1, h2, h3, h4⟩ := h.ex
  exact ⟨⟨a, n, c, b, (hB.cell (p := ⟨m, 0, none⟩) (World.block_lt_of_cell? w _ c0)).trans c0, (hB.cell (p := ⟨m, 1, none⟩) (World.block_lt_of_cell? w _ c1)).trans c1, h1.kept hB, h2, h3.below hB, h4⟩, h.ok⟩
/-- To of a rule, as this layer takes it -/
def tgtR (r : Ru) : List UInt8 := if r.1 = 1 then r.2.1 else r.2.2
/-- the image of a row -/
def imgL (F : List Ru) (l : List UInt8) : Option (List UInt8) := if letsK (ruleT (tabL F) l).1 then some (joinR (tgtR (ruleT (tabL F) l)) ((restP l (ruleT (tabL F) l).2.1).getD [])) else none
theorem movB_R (r : Ru) (s : ByteArray) : movB r.1 (mk r.2.1) (mk r.2.2) s = mk (joinR (tgtR r) ((restP (bs s) r.2.1).getD [])) := by
  unfold movB joinB
  congr 1
  have e1 : bs (tgt r.1 (mk r.2.1) (mk r.2.2)) = tgtR r := by
    unfold tgt tgtR
    split <;> rw [bs_mk]
  have e2 : bs (restS s (mk r.2.1)) = (restP (bs s) r.2.1).getD [] := by unfold restS; rw [bs_mk, bs_mk]
  rw [e1, e2]
set_option maxRecDepth 100000 in
theorem image_any (w : World) (m : Nat) (F : List Ru) (s : ByteArray) (hM : MpAt w m F) (hs : s.size ≤ 400000) :
    Calls Try.prog 27 #[.pointer (some ⟨m, 0, none⟩), .string s] w fun e w' => e = .returned (.tuple #[.string (mk ((imgL F (bs s)).getD [])), .bool (imgL F (bs s)).isSome]) ∧ Below w.heap.size w w' := by
  obtain ⟨a, n, c, b, c0, c1, h1, h2, h3, h4⟩ := hM.ex
  have hru := trule_any w b (tabL F) n s h3 (by unfold maxLen; omega)
  have hok := ruleT_ok hM.ok (bs s)
  have hmv := movB_R (ruleT (tabL F) (bs s)) s
  have HI : Hid (imgL F (bs s) = if letsK (ruleT (tabL F) (bs s)).1 then some (joinR (tgtR (ruleT (tabL F) (bs s))) ((restP (bs s) (ruleT (tabL F) (bs s)).2.1).getD [])) else none) := rfl
  generalize imgL F (bs s) = I at *
  generalize ruleT (tabL F) (bs s) = r at *
  obtain ⟨k, f, t⟩ := r
  simp only at hok hmv HI
  obtain ⟨f', hf'⟩ : ∃ f', f' = mk f := ⟨_, rfl⟩
  obtain ⟨t', ht'⟩ : ∃ t', t' = mk t := ⟨_, rfl⟩
  rw [show ruV (k, f, t) = rv k f' t' by rw [hf', ht']] at hru
  have hfs : f'.size ≤ 500000 := by rw [hf', ← bs_len, bs_mk]; have := isP_len hok.1; omega
  have hts : t'.size ≤ 500000 := by rw [ht', ← bs_len, bs_mk]; have := isP_len hok.2; omega
  have hfr : rightB (bs f') = true := by rw [hf', bs_mk]; exact right_path f hok.1
  have hmo := fun W => moved_any k f' t' s W hfs hts (by omega) hfr
  have hle := fun W => lets_any k f' t' W
  rw [← hf', ← ht'] at hmv
  rw [hmv] at hmo
  generalize joinR (tgtR (k, f, t)) ((restP (bs s) f).getD []) = J at *
  clear hmv hf' ht' h1 h2 h3 h4 hM c0 hfs hts hfr hok
  cases hl : letsK k with
  | true =>
    rw [hl] at hle
    have HI2 : Hid (I = some J) := by show _ = _; rw [HI.out, hl]; rfl
    clear HI hl
    go_enter Try.func27, Try.ntmps27
    go_wp2_with fail
    refine hru.mono ?_
    clear hru c1
    rintro e w1 ⟨rfl, hB1⟩
    have HB1 : Hid (Below w.heap.size w w1) := hB1
    have HBx : Hid (BoxR (w1.alloc (.cells #[.int .i64 k, .string f', .string t'] 41)) w1.heap.size k f' t' ∧ Below w.heap.size w (w1.alloc (.cells #[.int .i64 k, .string f', .string t'] 41))) := ⟨BoxR.new w1 k f' t', hB1.alloc hB1.size _⟩
    clear hB1
    go_upto_region 2 with fail
    generalize w1.alloc (.cells #[.int .i64 k, .string f', .string t'] 41) = w2 at *
    obtain ⟨d0, d1, d2⟩ := HBx.out.1.cell
    go_wp2_with fail
    refine (hle _).mono ?_
    clear hle d0 d1 d2
    rintro e w3 ⟨rfl, hB3⟩
    obtain ⟨d0, d1, d2⟩ := (HBx.out.1.below hB3 HBx.out.1.lt).cell
    have HB3 : Hid (Below w.heap.size w w3) := HBx.out.2.trans (hB3.mono HBx.out.2.size)
    clear hB3
    go_wp2_with fail
    refine (hmo _).mono ?_
    clear hmo d0 d1 d2
    rintro e w4 ⟨rfl, hB4⟩
    have HB4 : Hid (Below w.heap.size w w4) := HB3.out.trans (hB4.mono HB3.out.size)
    clear hB4
    go_wp2
    go_ret2
    exact ⟨by rw [HI2.out]; rfl, HB4.out⟩
  | false =>
    rw [hl] at hle
    have HI2 : Hid (I = none) := by show _ = _; rw [HI.out, hl]; rfl
    clear HI hl hmo
    go_enter Try.func27, Try.ntmps27
    go_wp2_with fail
    refine hru.mono ?_
    clear hru c1
    rintro e w1 ⟨rfl, hB1⟩
    have HB1 : Hid (Below w.heap.size w w1) := hB1
    have HBx : Hid (BoxR (w1.alloc (.cells #[.int .i64 k, .string f', .string t'] 41)) w1.heap.size k f' t' ∧ Below w.heap.size w (w1.alloc (.cells #[.int .i64 k, .string f', .string t'] 41))) := ⟨BoxR.new w1 k f' t', hB1.alloc hB1.size _⟩
    clear hB1
    go_upto_region 2 with fail
    generalize w1.alloc (.cells #[.int .i64 k, .string f', .string t'] 41) = w2 at *
    obtain ⟨d0, d1, d2⟩ := HBx.out.1.cell
    go_wp2_with fail
    refine (hle _).mono ?_
    clear hle d0 d1 d2
    rintro e w3 ⟨rfl, hB3⟩
    have HB3 : Hid (Below w.heap.size w w3) := HBx.out.2.trans (hB3.mono HBx.out.2.size)
    clear hB3
    go_wp2
    go_ret2
    exact ⟨by rw [HI2.out]; rfl, HB3.out⟩
end Go.Proofs.Ytggnglgehobglaa
