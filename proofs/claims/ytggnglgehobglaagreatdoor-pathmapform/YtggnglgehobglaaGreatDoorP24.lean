import Derived.Test.YtggnglgehobglaaGreatDoorP17
import Derived.Test.YtggnglgehobglaaGreatDoorP23
/- The walk of oneForm. -/
namespace Go.Proofs.YtggnglgehobglaaGreatDoor
open Go.RowKit Go.Shelf Go.Maps

attribute [local go_sem] Oper.semAt_some

/-- the one form, plain: of the Froms in order, those that stay -/
def formT (g : Tb) (ks : List (List UInt8)) : List Ru := ks.filterMap fun x => if stayR g ((g x).getD noR) = true then some (plnR ((g x).getD noR)) else none
theorem formT_yes (g : Tb) (ks : List (List UInt8)) (k : Nat) (x : List UInt8) (h : ks[k]? = some x) (hs : stayR g ((g x).getD noR) = true) : formT g (ks.take (k + 1)) = formT g (ks.take k) ++ [plnR ((g x).getD noR)] := by
  obtain ⟨hk, rfl⟩ := List.getElem?_eq_some_iff.1 h
  unfold formT
  rw [List.take_succ_eq_append_getElem hk, List.filterMap_append]
  simp [hs]
theorem formT_no (g : Tb) (ks : List (List UInt8)) (k : Nat) (x : List UInt8) (h : ks[k]? = some x) (hs : stayR g ((g x).getD noR) = false) : formT g (ks.take (k + 1)) = formT g (ks.take k) := by
  obtain ⟨hk, rfl⟩ := List.getElem?_eq_some_iff.1 h
  unfold formT
  rw [List.take_succ_eq_append_getElem hk, List.filterMap_append]
  simp [hs]
theorem formT_len (g : Tb) (ks : List (List UInt8)) : (formT g ks).length ≤ ks.length := List.length_filterMap_le _ _
theorem rowB {w w' : World} {base n size : Nat} {e : TypeId} {v : Value} {xs : List Value} (h : w.ownsRow base e size v n xs) (hB : Below w.heap.size w w') : w'.ownsRow base e size v n xs := by
  refine ⟨h.1, ?_⟩
  rcases h.2 with h | ⟨g, cap, cur, rfl, hb, hg, rest⟩
  · exact .inl h
  · exact .inr ⟨g, cap, cur, rfl, hb, (hB.block g (Array.getElem?_eq_some_iff.1 hg).1).trans hg, rest⟩
theorem rowLow {w : World} {base base' n size : Nat} {e : TypeId} {v : Value} {xs : List Value} (h : w.ownsRow base e size v n xs) (hb : base' ≤ base) : w.ownsRow base' e size v n xs := by
  refine ⟨h.1, ?_⟩
  rcases h.2 with h | ⟨g, cap, cur, rfl, hb', hg, rest⟩
  · exact .inl h
  · exact .inr ⟨g, cap, cur, rfl, Nat.le_trans hb hb', hg, rest⟩
theorem TbAt.get {w : World} {b : Nat} {g : Tb} {n : Nat} (h : TbAt w b g n) (s : ByteArray) (hs : s.size ≤ maxLen) : (Instr.lookup 58 (.map (some b)) (.string s) false).run Tryz.prog w = .ok (ruV ((g (bs s)).getD noR)) w := by
  obtain ⟨M, h1, _, h3, h4⟩ := h
  obtain ⟨u', ps, hrun, hu'⟩ := h1.lookup keyedT Tryz.underlying58 (zeroRule w) (show rvT (rv 0 ⟨#[]⟩ ⟨#[]⟩) = some (.held (ruV noR), []) from rfl) (keyOfT s hs)
  rw [h4] at hu'
  simp only [rvT, Option.some.injEq, Prod.mk.injEq] at hu'
  obtain ⟨e, _⟩ := hu'
  have e2 : u' = ruV ((g (bs s)).getD noR) := by simpa using e
  rw [e2] at hrun
  exact hrun
set_option maxRecDepth 100000 in
set_option maxHeartbeats 4000000 in
theorem oneForm_any (w : World) (b n : Nat) (g : Tb) (hT : TbAt w b g n) (hn : n ≤ 1000000) (hg : ∀ x r, g x = some r → r.2.1 = x ∧ x.length ≤ 1000000) :
    Calls Tryz.prog 28 #[.map (some b)] w fun e w' => ∃ ks ad c, e = .returned (.slice ad (formT g ks).length c) ∧ KeyL g ks ∧ ks.length ≤ n ∧ w'.ownsRow w.heap.size 31 3 (.slice ad (formT g ks).length c) (formT g ks).length (ruCells (formT g ks)) ∧ Below w.heap.size w w' := by
  have hk : ∀ x, (g x).isSome = true → x.length ≤ 1000000 := fun x hx => by
    obtain ⟨r, hr⟩ := Option.isSome_iff_exists.1 hx
    exact (hg x r hr).2
  have hbl := hT.lt
  have cK : ∀ W, Calls Tryz.prog 54 #[.map (some b)] W fun e w' => e = .returned (.func (.func 76) #[] #[.pointer (some ⟨W.heap.size, 0, none⟩)]) ∧ w' = W.alloc (.cells #[.map (some b)] 58) := fun W => callsIn_wide.1 (AnyZ.keys_in Tryz.keysM Fence.wide 5 trivial rfl (some b) W)
  have hW1 : Below w.heap.size w (w.alloc (.cells #[.map (some b)] 58)) := (Below.refl _ w).alloc (Nat.le_refl _) _
  have hW2 : Below w.heap.size w ((w.alloc (.cells #[.map (some b)] 58)).alloc (.cells #[.map (some b)] 58)) := hW1.alloc (by simp) _
  have hm : ((w.alloc (.cells #[.map (some b)] 58)).alloc (.cells #[.map (some b)] 58)).cell? ⟨w.heap.size + 1, 0, none⟩ = some (.map (some b)) := by
    have h : ((w.alloc (.cells #[.map (some b)] 58)).alloc (.cells #[.map (some b)] 58)).cell? ⟨(w.alloc (.cells #[.map (some b)] 58)).heap.size, 0, none⟩ = some (.map (some b)) := by simp
    rw [World.size_alloc] at h
    exact h
  have cS := sortedFunc_any b (w.heap.size + 1) n g ((w.alloc (.cells #[.map (some b)] 58)).alloc (.cells #[.map (some b)] 58)) (hT.below hW2) hn hk (by simp) hm
  have hct : ((w.alloc (.cells #[.map (some b)] 58)).alloc (.cells #[.map (some b)] 58)).cell? ⟨w.heap.size, 0, none⟩ = some (.map (some b)) := by simp
  have H0 : Hid (TbAt ((w.alloc (.cells #[.map (some b)] 58)).alloc (.cells #[.map (some b)] 58)) b g n ∧ Below w.heap.size w ((w.alloc (.cells #[.map (some b)] 58)).alloc (.cells #[.map (some b)] 58)) ∧ w.heap.size < ((w.alloc (.cells #[.map (some b)] 58)).alloc (.cells #[.map (some b)] 58)).heap.size ∧ ((w.alloc (.cells #[.map (some b)] 58)).alloc (.cells #[.map (some b)] 58)).cell? ⟨w.heap.size, 0, none⟩ = some (.map (some b))) := ⟨hT.below hW2, hW2, by simp; omega, hct⟩
  have HG : Hid (n ≤ 1000000 ∧ ∀ x r, g x = some r → r.2.1 = x ∧ x.length ≤ 1000000) := ⟨hn, hg⟩
  clear hT hct hm hW1 hW2 hk hbl hg hn
  go_enter Tryz.func28, Tryz.ntmps28
  go_wp2_with fail
  refine (cK _).mono ?_
  rintro e w1 ⟨rfl, rfl⟩
  clear cK
  go_wp2_with fail
  refine cS.mono ?_
  clear cS
  generalize (w.alloc (.cells #[.map (some b)] 58)).alloc (.cells #[.map (some b)] 58) = w1 at *
  rintro e w2 ⟨ks, a, c, rfl, hKL, hkn, hrow, hB2⟩
  generalize hbt : w.heap.size = bt at *
  have HBT : Hid (w.heap.size = bt) := hbt
  clear hbt
  have H2 : Hid (TbAt w2 b g n ∧ Below bt w w2 ∧ bt < w2.heap.size ∧ w2.cell? ⟨bt, 0, none⟩ = some (.map (some b)) ∧ w2.ownsRow w1.heap.size 9 1 (.slice a ks.length c) ks.length (ks.map encStr) ∧ KeyL g ks ∧ ks.length ≤ n) := by
    obtain ⟨h1, h2, h3, h4⟩ := H0.out
    exact ⟨h1.below hB2, h2.trans (hB2.mono (Nat.le_of_lt h3)), Nat.lt_of_lt_of_le h3 hB2.size, (hB2.cell (p := ⟨bt, 0, none⟩) h3).trans h4, hrow, hKL, hkn⟩
  have HCK : Hid (∀ (k : Nat) x, ks[k]? = some x → ∃ kb, a = some ⟨kb, 0, none⟩ ∧ kb < w2.heap.size ∧ w2.cell? ⟨kb, k, none⟩ = some (.string ⟨x.toArray⟩)) := fun k x hx => by
    rcases hrow.2 with ⟨_, h0⟩ | ⟨gb, cap, cur, e, hb, _⟩
    · have := (List.getElem?_eq_some_iff.1 hx).1
      omega
    · cases e
      refine ⟨gb, rfl, (hrow.lt gb rfl).2, ?_⟩
      have := hrow.cells (g := gb) rfl k (encStr x) (by rw [List.getElem?_map, hx]; rfl)
      rw [Addr.add_lit, Nat.zero_add] at this
      exact this
  clear hrow hKL hB2 H0 hkn
  generalize hN : ks.length = N at *
  have HN : Hid (ks.length = N) := hN
  clear hN
  have hNb : N ≤ 1000000 := Nat.le_trans H2.out.2.2.2.2.2.2 HG.out.1
  go_wp2_with fail
  go_loopw [13, 4] (fun i f wr => ∃ (k m c' : Nat) (ad : Option Addr), k ≤ N ∧ i = .int .i64 (k : Int) ∧ f = .slice ad m c' ∧ Hid (m = (formT g (ks.take k)).length ∧ wr.ownsRow w2.heap.size 31 3 (.slice ad m c') m (ruCells (formT g (ks.take k))) ∧ Below w2.heap.size w2 wr)) (fun i _ _ => N - (intOf i).toNat)
  case atStart => exact ⟨0, 0, 0, none, Nat.zero_le _, rfl, rfl, rfl, ⟨rfl, .inl ⟨rfl, rfl⟩⟩, Below.refl _ _⟩
  case round =>
    obtain ⟨k, m, c', ad, hk, rfl, rfl, H⟩ := hrel
    by_cases hlt : k < N
    · obtain ⟨x, hx⟩ : ∃ x, ks[k]? = some x := ⟨_, List.getElem?_eq_getElem (by rw [HN.out]; exact hlt)⟩
      obtain ⟨kb, hae, hkb, q0⟩ := HCK.out k x hx
      subst hae
      obtain ⟨r, hr⟩ : ∃ r, g x = some r := Option.isSome_iff_exists.1 ((H2.out.2.2.2.2.2.1.mem x).1 (List.mem_of_getElem? hx))
      obtain ⟨hrx, hxl⟩ := HG.out.2 x r hr
      obtain ⟨s, hsx⟩ : ∃ s : ByteArray, s = ⟨x.toArray⟩ := ⟨_, rfl⟩
      rw [← hsx] at q0
      have hbs : bs s = x := by rw [hsx, bs_enc]
      have hss : s.size ≤ 1000000 := by rw [← bs_len, hbs]; exact hxl
      have q1 : wr.cell? ⟨kb, k, none⟩ = some (.string s) := (H.out.2.2.cell (p := ⟨kb, k, none⟩) hkb).trans q0
      have ct : wr.cell? ⟨bt, 0, none⟩ = some (.map (some b)) := (H.out.2.2.cell (p := ⟨bt, 0, none⟩) H2.out.2.2.1).trans H2.out.2.2.2.1
      have hTr := H2.out.1.below H.out.2.2
      have hlk := hTr.get s (by unfold maxLen; omega)
      rw [hbs, hr] at hlk
      simp only [Option.getD_some] at hlk
      obtain ⟨f, hf⟩ : ∃ f, f = mk r.2.1 := ⟨_, rfl⟩
      obtain ⟨t, ht⟩ : ∃ t, t = mk r.2.2 := ⟨_, rfl⟩
      have hruv : ruV r = rv r.1 f t := by rw [hf, ht]
      have hbx : BoxR (wr.alloc (.cells #[.int .i64 r.1, .string f, .string t] 31)) wr.heap.size r.1 f t := BoxR.new wr r.1 f t
      obtain ⟨c0, c1, c2⟩ := hbx.cell
      have hW3 : Below wr.heap.size wr (wr.alloc (.cells #[.int .i64 r.1, .string f, .string t] 31)) := (Below.refl _ wr).alloc (Nat.le_refl _) _
      have hst := stays_any r (wr.alloc (.cells #[.int .i64 r.1, .string f, .string t] 31)) b bt n g (hTr.below hW3) (by rw [hrx]; exact hxl) ((hW3.cell (p := ⟨bt, 0, none⟩) (World.block_lt_of_cell? wr _ ct)).trans ct) (Nat.lt_of_lt_of_le (World.block_lt_of_cell? wr _ ct) hW3.size)
      have hpl := fun W => plain_any r W
      rw [hruv] at hlk hst hpl
      have i5 : (k : Int) < (N : Int) := by omega
      have i6 : ¬ N ≤ k := by omega
      have HB3 : Hid (Below wr.heap.size wr (wr.alloc (.cells #[.int .i64 r.1, .string f, .string t] 31)) ∧ BoxR (wr.alloc (.cells #[.int .i64 r.1, .string f, .string t] 31)) wr.heap.size r.1 f t) := ⟨hW3, hbx⟩
      cases hsR : stayR g r with
      | false =>
        rw [hsR] at hst
        have HF : Hid (formT g (ks.take (k + 1)) = formT g (ks.take k)) := formT_no g ks k x hx (by rw [hr]; exact hsR)
        generalize r.1 = kk at *
        clear hpl hsR hx hr hrx hxl hsx q0 hbs hTr hf ht hruv hbx hW3
        go_wp2_with fail
        refine hst.mono ?_
        clear hst hlk q1 ct c0 c1 c2
        rintro e w4 ⟨rfl, hB4⟩
        have H4 : Hid (Below wr.heap.size wr w4) := HB3.out.1.trans (hB4.mono HB3.out.1.size)
        clear hB4 HB3
        go_wp2
        go_roundw
        case rel => exact ⟨k + 1, m, c', ad, by omega, by simp, rfl, by show _ ∧ _ ∧ _; rw [HF.out]; exact ⟨H.out.1, rowB H.out.2.1 H4.out, H.out.2.2.trans (H4.out.mono H.out.2.2.size)⟩⟩
        case measure => simp [intOf]; omega
      | true =>
        rw [hsR] at hst
        have HF : Hid (formT g (ks.take (k + 1)) = formT g (ks.take k) ++ [plnR r]) := by
          have := formT_yes g ks k x hx (by rw [hr]; exact hsR)
          rw [hr] at this
          exact this
        generalize plnR r = p at *
        generalize r.1 = kk at *
        have HM : Hid ((m + 1) * 40 ≤ 140737488355328) := by
          show _ ≤ _
          have h1 := formT_len g (ks.take k)
          rw [List.length_take, ← H.out.1] at h1
          have := HG.out.1
          have := H2.out.2.2.2.2.2.2
          omega
        clear hsR hx hr hrx hxl hsx q0 hbs hTr hf ht hruv hbx hW3
        go_wp2_with fail
        refine hst.mono ?_
        clear hst hlk q1 ct c0 c1 c2
        rintro e w4 ⟨rfl, hB4⟩
        have H4 : Hid (Below wr.heap.size wr w4 ∧ BoxR w4 wr.heap.size kk f t) := ⟨HB3.out.1.trans (hB4.mono HB3.out.1.size), HB3.out.2.below hB4 HB3.out.2.lt⟩
        clear hB4 HB3
        obtain ⟨d0, d1, d2⟩ := H4.out.2.cell
        obtain ⟨pk, pf, pt⟩ := p
        go_wp2_with fail
        refine (hpl _).mono ?_
        clear hpl d0 d1 d2
        rintro e w5 ⟨rfl, hB5⟩
        have H5 : Hid (Below wr.heap.size wr w5) := H4.out.1.trans (hB5.mono H4.out.1.size)
        clear hB5 H4
        have H6 : Hid ((w5.alloc (.cells #[.int .i64 pk, .string (mk pf), .string (mk pt)] 31)).ownsRow w2.heap.size 31 3 (.slice ad m c') m (ruCells (formT g (ks.take k))) ∧ Rus (w5.alloc (.cells #[.int .i64 pk, .string (mk pf), .string (mk pt)] 31)) (some ⟨w5.heap.size, 0, none⟩) 1 [(pk, pf, pt)] ∧ Below w2.heap.size w2 (w5.alloc (.cells #[.int .i64 pk, .string (mk pf), .string (mk pt)] 31))) := by
          have hA : Below wr.heap.size wr (w5.alloc (.cells #[.int .i64 pk, .string (mk pf), .string (mk pt)] 31)) := H5.out.alloc H5.out.size _
          refine ⟨rowB H.out.2.1 hA, ⟨rfl, fun _ => ⟨_, 0, rfl, fun j x hx => ?_⟩⟩, H.out.2.2.trans (hA.mono H.out.2.2.size)⟩
          obtain ⟨e1, e2, e3⟩ := (BoxR.new w5 pk (mk pf) (mk pt)).cell
          match j, hx with
          | 0, hx => cases hx; exact ⟨e1, e2, e3⟩
        clear H5
        go_wp2_with (at_builtin; refine wpList_appR rfl _ _ rfl w2.heap.size m 1 1 _ (formT g (ks.take k)) [(pk, pf, pt)] _ rfl rfl H6.out.1 H6.out.2.1 (fun h => by cases h) HM.out H6.out.2.2.size ?_; intro ad' c'' w7 hc' hown hB7; have H7 : Hid (w7.ownsRow w2.heap.size 31 3 (.slice ad' (m + 1) c'') (m + 1) (ruCells (formT g (ks.take (k + 1)))) ∧ Below w2.heap.size w2 w7) := ⟨by rw [HF.out]; exact hown, H6.out.2.2.trans hB7⟩; clear hown hB7 hc')
        go_roundw
        case rel => exact ⟨k + 1, m + 1, c'', ad', by omega, by simp, rfl, by show _ ∧ _ ∧ _; exact ⟨by rw [HF.out, List.length_append, ← H.out.1]; rfl, H7.out.1, H7.out.2⟩⟩
        case measure => simp [intOf]; omega
    · obtain rfl : k = N := by omega
      have i5 : ¬ (k : Int) < (k : Int) := by omega
      have HE : Hid (m = (formT g ks).length ∧ wr.ownsRow w.heap.size 31 3 (.slice ad m c') m (ruCells (formT g ks)) ∧ Below w.heap.size w wr ∧ KeyL g ks ∧ ks.length ≤ n) := by
        have h := H.out
        rw [List.take_of_length_le (by rw [HN.out]; exact Nat.le_refl _)] at h
        rw [HBT.out]
        exact ⟨h.1, rowLow h.2.1 (Nat.le_of_lt H2.out.2.2.1), H2.out.2.1.trans (h.2.2.mono (Nat.le_of_lt H2.out.2.2.1)), H2.out.2.2.2.2.2.1, by rw [HN.out]; exact H2.out.2.2.2.2.2.2⟩
      clear H
      go_wp2
      go_ret
      obtain ⟨rfl, h2, h3, h4, h5⟩ := HE.out
      exact ⟨ks, ad, c', rfl, h4, h5, h2, h3⟩
end Go.Proofs.YtggnglgehobglaaGreatDoor
