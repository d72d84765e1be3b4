import Derived.Test.YtiafhbpklddlnaaGreatDoorE24
/- The walk of Set. -/
namespace Go.Proofs.YtiafhbpklddlnaaGreatDoor
open Go.RowKit Go.Maps

attribute [local go_sem] Oper.semAt_some

theorem pathSpot_short {l : List UInt8} (h : (pathSpot l).1 = 0) : l.length ≤ 200 := by
  by_cases e : 200 < l.length
  · unfold pathSpot at h; rw [if_pos e] at h; simp at h
  · omega
theorem chgErr_short {g : List UInt8 → Int} {A : List UInt8 → Bool} {s : ByteArray} {i : Int} (h : chgErr g A s i = 0) : s.size ≤ 200 := by
  by_cases e : (pathSpot (bs s)).1 = 0
  · have := pathSpot_short e; rw [bs_len] at this; exact this
  · unfold chgErr at h; rw [if_pos e] at h; omega
theorem chkFrom_short (g : List UInt8 → Int) : ∀ (l : List Ch) (A : List UInt8 → Bool) (c : Int), chkFrom g A c l = 0 → ∀ x ∈ l, x.1.size ≤ 200
  | [], _, _, _, x, hx => by cases hx
  | y :: r, A, c, h, x, hx => by
    unfold chkFrom at h
    by_cases e : chgErr g A y.1 y.2 = 0
    · rw [if_neg (by simpa using e)] at h
      rcases List.mem_cons.1 hx with rfl | hx
      · exact chgErr_short e
      · exact chkFrom_short g r _ _ h x hx
    · rw [if_pos e] at h; exact absurd h e
theorem chsB_len (l : List Ch) (h : ∀ x ∈ l, x.1.size ≤ 200) : (chsB l).length ≤ l.length * 218 := by
  induction l with
  | nil => simp [chsB]
  | cons x r ih =>
    have h1 := ih (fun y hy => h y (List.mem_cons_of_mem _ hy))
    have h2 := h x (List.mem_cons_self ..)
    have h3 := short_len x.1.size
    have h4 : x.1.data.toList.length = x.1.size := by simp
    have h5 : (chsB (x :: r)).length = (chB x).length + (chsB r).length := by simp [chsB]
    have h6 : (chB x).length = (short x.1.size).length + x.1.size + 8 := by simp only [chB, List.length_append, wide_len8, h4]
    simp only [List.length_cons]
    omega
theorem encR_len (l : List Ch) (h : ∀ x ∈ l, x.1.size ≤ 200) (hl : l.length ≤ 1000) : (encR l).length ≤ 262144 := by
  have h1 := chsB_len l h
  have h2 := short_len l.length
  unfold encR
  rw [List.length_append]
  omega
theorem newsR_sub (g : List UInt8 → Int) (l : List Ch) : ∀ x ∈ newsR g l, x ∈ l := fun _ hx => (List.mem_filter.1 hx).1

theorem rset_nil (w : World) (v : Value) : Calls Tryz.prog 9 #[.pointer none, v] w fun e w' => e = .returned (.int .i64 1) ∧ w' = w := by
  go_enter Tryz.func9, Tryz.ntmps9
  go_wp2
  go_ret
  exact ⟨rfl, rfl⟩
/-- changes that may not be made -/
theorem rset_bad (w : World) (r d j b : Nat) (M : DataW Value) (rs : List (List UInt8)) (g : List UInt8 → Int) (n sz : Nat) (cut : Bool) (FJ F : Nat → Prop) (h : RfAt w r d j b M rs g n sz cut FJ F) (a : Option Addr) (m c : Nat) (l : List Ch) (hl : Chs w a m l) (hs : ShortR l) (hm : m ≤ 1000000000000) (hn : n ≤ 1000000000000) (he : chkR g n l ≠ 0) :
    Calls Tryz.prog 9 #[.pointer (some ⟨r, 0, none⟩), .slice a m c] w fun e w' => e = .returned (.int .i64 (chkR g n l)) ∧ Below w.heap.size w w' := by
  have hx := check_all w r d j b M rs g n sz cut FJ F h a m c l hl hs hm hn
  have he' : (chkR g n l == 0) = false := beq_eq_false_iff_ne.2 he
  clear h hl he
  generalize chkR g n l = er at *
  go_enter Tryz.func9, Tryz.ntmps9
  go_wp2_with (go_at_call 23; refine hx.mono ?_; clear hx; rintro e w1 ⟨rfl, h1⟩)
  go_ret
  exact ⟨rfl, h1⟩
/-- changes that say nothing new -/
theorem rset_same (w : World) (r d j b : Nat) (M : DataW Value) (rs : List (List UInt8)) (g : List UInt8 → Int) (n sz : Nat) (cut : Bool) (FJ F : Nat → Prop) (h : RfAt w r d j b M rs g n sz cut FJ F) (a : Option Addr) (m c : Nat) (l : List Ch) (hl : Chs w a m l) (hs : ShortR l) (hm : m ≤ 1000000000000) (hn : n ≤ 1000000000000) (he : chkR g n l = 0) (hN : newsR g l = []) :
    Calls Tryz.prog 9 #[.pointer (some ⟨r, 0, none⟩), .slice a m c] w fun e w' => e = .returned (.int .i64 0) ∧ Below w.heap.size w w' := by
  have hx := check_all w r d j b M rs g n sz cut FJ F h a m c l hl hs hm hn
  rw [he] at hx
  have hy : ∀ W, Below w.heap.size w W → Calls Tryz.prog 25 #[.pointer (some ⟨r, 0, none⟩), .slice a m c] W fun e w' => ∃ ad cp, e = .returned (.slice ad 0 cp) ∧ Below w.heap.size w w' := fun W hW => by
    refine (news_any W r d j b M rs g n sz cut FJ F (h.below hW) a m c l (hl.kept hW) hs hm).mono ?_
    rintro e w' ⟨ad, cp, rfl, _, hB⟩
    exact ⟨ad, cp, by rw [hN]; rfl, hW.trans (hB.mono hW.size)⟩
  clear h hl
  go_enter Tryz.func9, Tryz.ntmps9
  go_wp2_with first
    | (go_at_call 23; refine hx.mono ?_; clear hx; rintro e w1 ⟨rfl, h1⟩)
    | (go_at_call 25; refine (hy _ h1).mono ?_; clear hy; rintro e w2 ⟨ad, cp, rfl, h2⟩)
  go_ret
  exact ⟨rfl, h2⟩

theorem Chs.turn {w w' : World} {a : Option Addr} {n : Nat} {l : List Ch} {Fp : Nat → Prop} (h : Chs w a n l) (ht : Turn Fp w w') (hn : ∀ x, a = some x → ¬ Fp x.block) : Chs w' a n l :=
  ⟨h.1, fun h0 => by
    obtain ⟨b, off, e, hc⟩ := h.2 h0
    refine ⟨b, off, e, fun j x hx => ?_⟩
    obtain ⟨h1, h2⟩ := hc j x hx
    have := hn _ e
    exact ⟨ht.cell h1 this, ht.cell h2 this⟩⟩
/-- what lies behind an Append of the refs' journal -/
def WroteR (W w' : World) (r d j b : Nat) (M : DataW Value) (rs : List (List UInt8)) (g : List UInt8 → Int) (n sz : Nat) (FJ F : Nat → Prop) (S : DG) (G : Nat → Prop) (p : List UInt8) (er : Int) : Prop :=
  Turn (fun k => FJ k ∨ G k) W w' ∧ ∃ FJ' G', IsDisk w' d (S.app refNm.data.toList (recB p)).1 G' ∧ (∀ k, FJ' k → FJ k ∨ W.heap.size ≤ k) ∧ (∀ k, G' k → G k ∨ W.heap.size ≤ k) ∧ (∀ k, (F k ∨ FJ' k) → ¬ G' k) ∧
    ((er = 0 ∧ RfAt w' r d j b M (rs ++ [p]) g n (sz + (recB p).length) false FJ' (fun k => F k ∨ FJ' k)) ∨ (er ≠ 0 ∧ RfAt w' r d j b M rs g n sz (decide (er = 6)) FJ' (fun k => F k ∨ FJ' k)))
theorem rwrite_any (W : World) (r d j b : Nat) (M : DataW Value) (rs : List (List UInt8)) (g : List UInt8 → Int) (n sz : Nat) (FJ F : Nat → Prop) (h : RfAt W r d j b M rs g n sz false FJ F) (S : DG) (G : Nat → Prop) (hd : IsDisk W d S G) (hFG : ∀ k, F k → ¬ G k)
    (a : Option Addr) (m c : Nat) (l : List UInt8) (hb : Bytes W a m l) (hm : m ≤ 262144) (ha : 0 < m → ∀ x, a = some x → ¬ F x.block ∧ ¬ G x.block) (hbs : (S.bs refNm.data.toList).length ≤ 4194304) (hsz : sz ≤ (S.bs refNm.data.toList).length) (hSn : S.n ≤ 256) (hw : S.wr < 4000000000000000000) :
    Calls Tryz.prog 26 #[.pointer (some ⟨j, 0, none⟩), .slice a m c] W fun e w' => e = .returned (.int .i64 (S.app refNm.data.toList (recB l)).2) ∧ WroteR W w' r d j b M rs g n sz FJ F S G l (S.app refNm.data.toList (recB l)).2 := by
  refine (jappend_any W j d refNm rs sz FJ S G h.jr hd (fun k hk => hFG k (h.fj k hk)) a m c l hb hm (fun h0 x hx => ⟨fun hf => (ha h0 x hx).1 (h.fj _ hf), (ha h0 x hx).2⟩) (by simp [refNm, ByteArray.size, maxLen]) hbs hsz hSn hw).mono ?_
  rintro e w' ⟨he, hT, FJ', G', hd', hF', hG', hFG', hc⟩
  refine ⟨he, hT, FJ', G', hd', hF', hG', fun k hk hg => hk.elim (fun hf => (hG' k hg).elim (hFG k hf) (fun e => by have := h.lt k hf; omega)) (fun hf => hFG' k hf hg), ?_⟩
  rcases hc with ⟨h0, hJ⟩ | ⟨h0, hJ⟩
  · exact .inl ⟨h0, h.moved hT hFG hJ hF'⟩
  · exact .inr ⟨h0, h.moved hT hFG hJ hF'⟩

/-- what lies behind a Set of changes that may be made and say something new -/
def SetR (w w' : World) (r d j b : Nat) (rs : List (List UInt8)) (g : List UInt8 → Int) (n sz : Nat) (FJ F : Nat → Prop) (S : DG) (G : Nat → Prop) (l : List Ch) (er : Int) : Prop :=
  Turn (fun k => FJ k ∨ G k ∨ k = b) w w' ∧ ∃ M' FJ' G', IsDisk w' d (S.app refNm.data.toList (recB (encR l))).1 G' ∧ (∀ k, FJ' k → FJ k ∨ w.heap.size ≤ k) ∧ (∀ k, G' k → G k ∨ w.heap.size ≤ k) ∧ (∀ k, (F k ∨ FJ' k) → ¬ G' k) ∧
    ((er = 0 ∧ RfAt w' r d j b M' (rs ++ [encR l]) (applyR (g, n) l).1 (applyR (g, n) l).2 (sz + (recB (encR l)).length) false FJ' (fun k => F k ∨ FJ' k)) ∨ (er ≠ 0 ∧ RfAt w' r d j b M' rs g n sz (decide (er = 6)) FJ' (fun k => F k ∨ FJ' k)))

set_option maxRecDepth 100000 in
set_option maxHeartbeats 4000000 in
theorem rset_new (w : World) (r d j b : Nat) (M : DataW Value) (rs : List (List UInt8)) (g : List UInt8 → Int) (n sz : Nat) (FJ F : Nat → Prop) (h : RfAt w r d j b M rs g n sz false FJ F) (S : DG) (G : Nat → Prop) (hd : IsDisk w d S G) (hFG : ∀ k, F k → ¬ G k)
    (a : Option Addr) (m c : Nat) (l : List Ch) (hl : Chs w a m l) (hs : ShortR l) (hi : ∀ x ∈ l, 0 ≤ x.2 ∧ x.2 ≤ 18446744073709551615) (hm : m ≤ 1000) (hn : n ≤ 1000000000000) (he : chkR g n l = 0) (hN : newsR g l ≠ [])
    (hbs : (S.bs refNm.data.toList).length ≤ 4194304) (hsz : sz ≤ (S.bs refNm.data.toList).length) (hSn : S.n ≤ 256) (hw : S.wr < 4000000000000000000) :
    Calls Tryz.prog 9 #[.pointer (some ⟨r, 0, none⟩), .slice a m c] w fun e w' => e = .returned (.int .i64 (S.app refNm.data.toList (recB (encR (newsR g l)))).2) ∧ SetR w w' r d j b rs g n sz FJ F S G (newsR g l) (S.app refNm.data.toList (recB (encR (newsR g l)))).2 := by
  have hx := check_all w r d j b M rs g n sz false FJ F h a m c l hl hs (by omega) hn
  rw [he] at hx
  have hNl : (newsR g l).length ≤ m := by rw [← hl.1]; exact List.length_filter_le _ _
  have hNp : (newsR g l).length ≠ 0 := fun e => hN (List.eq_nil_of_length_eq_zero e)
  have hsh : ∀ x ∈ newsR g l, x.1.size ≤ 200 := fun x hx => chkFrom_short g l _ _ he x (newsR_sub g l x hx)
  have hEl := encR_len (newsR g l) hsh (by omega)
  have hNi : ∀ x ∈ newsR g l, 0 ≤ x.2 ∧ x.2 ≤ 18446744073709551615 := fun x hx => hi x (newsR_sub g l x hx)
  have hNs : ShortR (newsR g l) := fun k x hx => by have := hsh x (List.mem_of_getElem? hx); unfold maxLen; omega
  have c0 := h.c0
  have hrl := h.lt r h.fs.1
  have hbl := h.lt b h.fs.2
  have HY : Hid (∀ W, Below w.heap.size w W → Calls Tryz.prog 25 #[.pointer (some ⟨r, 0, none⟩), .slice a m c] W fun e w' => ∃ ad cp, e = .returned (.slice ad (newsR g l).length cp) ∧ Below w.heap.size w w' ∧ Chs w' ad (newsR g l).length (newsR g l) ∧ ∀ x, ad = some x → w.heap.size ≤ x.block ∧ x.block < w'.heap.size) := fun W hW => by
    refine (news_any W r d j b M rs g n sz false FJ F (h.below hW) a m c l (hl.kept hW) hs (by omega)).mono ?_
    rintro e w' ⟨ad, cp, rfl, ho, hB⟩
    refine ⟨ad, cp, rfl, hW.trans (hB.mono hW.size), own_chs ho rfl, fun x hx => ?_⟩
    subst hx
    obtain ⟨g', cap', e'⟩ : ∃ g' cap', Value.slice (some x) (newsR g l).length cp = .slice (some ⟨g', 0, none⟩) (newsR g l).length cap' := by
      rcases ho.2 with ⟨e, _⟩ | ⟨g', cap, cur, e, _⟩
      · cases e
      · exact ⟨g', cap, e⟩
    cases e'
    have := row_blockC ho g' rfl
    exact ⟨Nat.le_trans hW.size this.1, this.2⟩
  have HE : Hid (∀ W ad cp, Below w.heap.size w W → Chs W ad (newsR g l).length (newsR g l) → Calls Tryz.prog 27 #[.slice ad (newsR g l).length cp] W fun e w' => ∃ gg cp', e = .returned (.slice (some ⟨gg, 0, none⟩) (encR (newsR g l)).length cp') ∧ Bytes w' (some ⟨gg, 0, none⟩) (encR (newsR g l)).length (encR (newsR g l)) ∧ w.heap.size ≤ gg ∧ Below w.heap.size w w' ∧ Below W.heap.size W w') := fun W ad cp hW hc => by
    refine (encode_any W ad _ cp (newsR g l) hc hNi (by omega) (by omega)).mono ?_
    rintro e w' ⟨gg, cp', rfl, hb, hgg, hB⟩
    exact ⟨gg, cp', rfl, hb, Nat.le_trans hW.size hgg, hW.trans (hB.mono hW.size), hB⟩
  have hGl := hd.lt
  have HA : Hid (∀ W gg cp', Below w.heap.size w W → Bytes W (some ⟨gg, 0, none⟩) (encR (newsR g l)).length (encR (newsR g l)) → w.heap.size ≤ gg → Calls Tryz.prog 26 #[.pointer (some ⟨j, 0, none⟩), .slice (some ⟨gg, 0, none⟩) (encR (newsR g l)).length cp'] W fun e w' => e = .returned (.int .i64 (S.app refNm.data.toList (recB (encR (newsR g l)))).2) ∧ WroteR W w' r d j b M rs g n sz FJ F S G (encR (newsR g l)) (S.app refNm.data.toList (recB (encR (newsR g l)))).2) := fun W gg cp' hW hb hgg =>
    rwrite_any W r d j b M rs g n sz FJ F (h.below hW) S G (hd.below hW) hFG _ _ cp' _ hb hEl (fun _ x hx => by cases hx; exact ⟨fun hf => by have h1 := h.lt _ hf; exact absurd h1 (Nat.not_lt.2 hgg), fun hf => by have h1 := hGl _ hf; exact absurd h1 (Nat.not_lt.2 hgg)⟩) hbs hsz hSn hw
  have HAp : Hid (∀ W ad cp (FJ' G' : Nat → Prop), RfAt W r d j b M (rs ++ [encR (newsR g l)]) g n (sz + (recB (encR (newsR g l))).length) false FJ' (fun k => F k ∨ FJ' k) → Chs W ad (newsR g l).length (newsR g l) → (∀ x, ad = some x → x.block ≠ b) → Calls Tryz.prog 24 #[.pointer (some ⟨r, 0, none⟩), .slice ad (newsR g l).length cp] W fun e w' => e = .returned (.tuple #[]) ∧ Turn (fun k => k = b) W w' ∧ ∃ M', RfAt w' r d j b M' (rs ++ [encR (newsR g l)]) (applyR (g, n) (newsR g l)).1 (applyR (g, n) (newsR g l)).2 (sz + (recB (encR (newsR g l))).length) false FJ' (fun k => F k ∨ FJ' k)) := fun W ad cp FJ' G' hW hc hx =>
    apply_any W r d j b M _ g n _ false FJ' _ hW ad _ cp (newsR g l) hc hNs hNi (by omega) hn hx
  have HFl : Hid ((∀ k, F k → k < w.heap.size) ∧ (∀ k, FJ k → F k) ∧ (∀ k, G k → k < w.heap.size) ∧ b < w.heap.size ∧ F b ∧ r < w.heap.size) := ⟨h.lt, h.fj, hGl, hbl, h.fs.2, hrl⟩
  clear h hd hl hs hi hsh hNi hNs hbs hsz hFG hGl he hN hEl
  generalize (S.app refNm.data.toList (recB (encR (newsR g l)))).2 = er at *
  generalize hL : newsR g l = L at *
  generalize hEn : encR L = EN at *
  have HEn : Hid (encR L = EN) := hEn
  clear hL hEn
  generalize hK : L.length = K at *
  have i1 : ((K : Int) == 0) = false := beq_eq_false_iff_ne.2 (by omega)
  have HK : Hid (L.length = K) := hK
  clear hK
  by_cases h0 : er = 0
  · subst h0
    go_enter Tryz.func9, Tryz.ntmps9
    go_wp2_with first
      | (go_at_call 23; refine hx.mono ?_; clear hx; rintro e w1 ⟨rfl, h1⟩)
      | (go_at_call 25; refine (HY.out _ h1).mono ?_; clear HY; rintro e w2 ⟨ad, cp, rfl, h2, hc2, hx2⟩; have q0 := (h2.cell (p := ⟨r, 0, none⟩) hrl).trans c0; have H2 : Hid (Chs w2 ad K L ∧ ∀ x, ad = some x → w.heap.size ≤ x.block ∧ x.block < w2.heap.size) := ⟨hc2, hx2⟩; clear hc2 hx2)
    have HB2 : Hid (Below w.heap.size w w2.drew ∧ Chs w2.drew ad K L) := ⟨h2.trans ⟨rfl, rfl, rfl, Nat.le_refl _, fun _ _ => rfl⟩, H2.out.1⟩
    go_region_held3 (fun W => W.cell? ⟨r, 0, none⟩ = some (.pointer (some ⟨j, 0, none⟩)))
      (first
        | (go_split_ands; go_keep)
        | exact q4
        | exact q3)
      (first
        | (go_at_call 27; refine (HE.out w2.drew ad cp HB2.out.1 HB2.out.2).mono ?_; clear HE; rintro e w3 ⟨gg, cp', rfl, hb3, hg3, hB3, hB3'⟩; have q3 := (hB3.cell (p := ⟨r, 0, none⟩) hrl).trans c0; have H3 : Hid (Bytes w3 (some ⟨gg, 0, none⟩) EN.length EN ∧ w.heap.size ≤ gg ∧ Below w.heap.size w w3 ∧ Chs w3 ad K L ∧ Below w2.drew.heap.size w2.drew w3) := ⟨hb3, hg3, hB3, HB2.out.2.kept hB3', hB3'⟩; clear hb3 hg3 hB3 hB3')
        | (go_at_call 26; refine (HA.out w3 gg cp' H3.out.2.2.1 H3.out.1 H3.out.2.1).mono ?_; clear HA; rintro e w4 ⟨rfl, hW4⟩; have H4 : Hid (WroteR w3 w4 r d j b M rs g n sz FJ F S G EN 0) := hW4; have q4 : w4.cell? ⟨r, 0, none⟩ = some (.pointer (some ⟨j, 0, none⟩)) := (by obtain ⟨_, _, _, _, _, _, _, h | h⟩ := hW4; exact h.2.c0; exact absurd rfl h.1); clear hW4))
    obtain ⟨hT4, FJ', G', hd4, hF4, hG4, hFG4, hc4⟩ := H4.out
    have hR4 := hc4.elim (fun h => h.2) (fun h => absurd rfl h.1)
    have HX4 : Hid (Chs w4 ad K L ∧ (∀ x, ad = some x → x.block ≠ b)) := by
      refine ⟨H3.out.2.2.2.1.turn hT4 (fun x hx e => ?_), fun x hx e => ?_⟩
      · have h1 := (H2.out.2 x hx).1
        have h2 := e.elim (fun h => HFl.out.1 _ (HFl.out.2.1 _ h)) (HFl.out.2.2.1 _)
        omega
      · have h1 := (H2.out.2 x hx).1
        have h2 := HFl.out.2.2.2.1
        omega
    have hap := HAp.out w4 ad cp FJ' G' hR4 HX4.out.1 HX4.out.2
    have HD4 : Hid (Turn (fun k => FJ k ∨ G k) w3 w4 ∧ IsDisk w4 d (S.app refNm.data.toList (recB EN)).1 G' ∧ (∀ k, FJ' k → FJ k ∨ w3.heap.size ≤ k) ∧ (∀ k, G' k → G k ∨ w3.heap.size ≤ k) ∧ (∀ k, (F k ∨ FJ' k) → ¬ G' k)) := ⟨hT4, hd4, hF4, hG4, hFG4⟩
    clear hT4 hd4 hF4 hG4 hFG4 hc4 hR4
    go_wp2_with (go_at_call 24; refine hap.mono ?_; clear hap; rintro e w5 ⟨rfl, hT5, M5, hR5⟩; have H5 : Hid (Turn (fun k => k = b) w4 w5 ∧ RfAt w5 r d j b M5 (rs ++ [EN]) (applyR (g, n) L).1 (applyR (g, n) L).2 (sz + (recB EN).length) false FJ' (fun k => F k ∨ FJ' k)) := ⟨hT5, hR5⟩; clear hT5 hR5)
    go_ret
    obtain ⟨hT4, hd4, hF4, hG4, hFG4⟩ := HD4.out
    have hsz3 := H3.out.2.2.1.size
    refine ⟨rfl, ?_, M5, FJ', G', ?_, fun k hk => (hF4 k hk).imp id (fun e => Nat.le_trans hsz3 e), fun k hk => (hG4 k hk).imp id (fun e => Nat.le_trans hsz3 e), hFG4, .inl ⟨rfl, ?_⟩⟩
    · exact (((Turn.of_below (fun k => FJ k ∨ G k ∨ k = b) H3.out.2.2.1).trans hT4 (fun i _ e => e.elim .inl (fun e => .inr (.inl e)))).trans H5.out.1 (fun i _ e => .inr (.inr e)))
    · rw [HEn.out]; exact hd4.turn H5.out.1 (fun k hk e => hFG4 b (.inl HFl.out.2.2.2.2.1) (e ▸ hk))
    · rw [HEn.out]; exact H5.out.2
  · have h0' : (er == 0) = false := beq_eq_false_iff_ne.2 h0
    go_enter Tryz.func9, Tryz.ntmps9
    go_wp2_with first
      | (go_at_call 23; refine hx.mono ?_; clear hx; rintro e w1 ⟨rfl, h1⟩)
      | (go_at_call 25; refine (HY.out _ h1).mono ?_; clear HY; rintro e w2 ⟨ad, cp, rfl, h2, hc2, hx2⟩; have q0 := (h2.cell (p := ⟨r, 0, none⟩) hrl).trans c0; have H2 : Hid (Chs w2 ad K L ∧ ∀ x, ad = some x → w.heap.size ≤ x.block ∧ x.block < w2.heap.size) := ⟨hc2, hx2⟩; clear hc2 hx2)
    have HB2 : Hid (Below w.heap.size w w2.drew ∧ Chs w2.drew ad K L) := ⟨h2.trans ⟨rfl, rfl, rfl, Nat.le_refl _, fun _ _ => rfl⟩, H2.out.1⟩
    go_region_held3 (fun W => W.cell? ⟨r, 0, none⟩ = some (.pointer (some ⟨j, 0, none⟩)))
      (first
        | (go_split_ands; go_keep)
        | exact q4
        | exact q3)
      (first
        | (go_at_call 27; refine (HE.out w2.drew ad cp HB2.out.1 HB2.out.2).mono ?_; clear HE; rintro e w3 ⟨gg, cp', rfl, hb3, hg3, hB3, hB3'⟩; have q3 := (hB3.cell (p := ⟨r, 0, none⟩) hrl).trans c0; have H3 : Hid (Bytes w3 (some ⟨gg, 0, none⟩) EN.length EN ∧ w.heap.size ≤ gg ∧ Below w.heap.size w w3 ∧ Chs w3 ad K L ∧ Below w2.drew.heap.size w2.drew w3) := ⟨hb3, hg3, hB3, HB2.out.2.kept hB3', hB3'⟩; clear hb3 hg3 hB3 hB3')
        | (go_at_call 26; refine (HA.out w3 gg cp' H3.out.2.2.1 H3.out.1 H3.out.2.1).mono ?_; clear HA; rintro e w4 ⟨rfl, hW4⟩; have H4 : Hid (WroteR w3 w4 r d j b M rs g n sz FJ F S G EN er) := hW4; have q4 : w4.cell? ⟨r, 0, none⟩ = some (.pointer (some ⟨j, 0, none⟩)) := (by obtain ⟨_, _, _, _, _, _, _, h | h⟩ := hW4; exact h.2.c0; exact h.2.c0); clear hW4))
    go_wp2
    go_ret
    obtain ⟨hT4, FJ', G', hd4, hF4, hG4, hFG4, hc4⟩ := H4.out
    have hsz3 := H3.out.2.2.1.size
    refine ⟨rfl, ?_, M, FJ', G', ?_, fun k hk => (hF4 k hk).imp id (fun e => Nat.le_trans hsz3 e), fun k hk => (hG4 k hk).imp id (fun e => Nat.le_trans hsz3 e), hFG4, .inr ⟨h0, ?_⟩⟩
    · exact (Turn.of_below (fun k => FJ k ∨ G k ∨ k = b) H3.out.2.2.1).trans hT4 (fun i _ e => e.elim .inl (fun e => .inr (.inl e)))
    · rw [HEn.out]; exact hd4
    · exact hc4.elim (fun h => absurd h.1 h0) (fun h => h.2)
end Go.Proofs.YtiafhbpklddlnaaGreatDoor
