import Derived.Test.YtcbmofapnjdmgaaDoorDD21
import Derived.Test.YtcbmofapnjdmgaaDoorDD06
import Derived.Deep.CutRange
/- The walk of the reference disk's Copy: another disk with the same files. -/
namespace Go.Proofs.YtcbmofapnjdmgaaDoor
open Go.RowKit Go.Maps

attribute [local go_sem] Oper.semAt_some

/-- a file with bytes of its own stands behind the others: the list has grown, and the field leads to it -/
theorem RefAt.madeV {w w1 : World} {p : Nat} {fs : Value} {is : List It} {wr : Nat} {left : Int} {Fp : Nat → Prop} (h : RefAt w p fs is wr left Fp) (i : It) (a' : Option Addr) (n c' : Nat)
    (hv : w.ownsRow 0 5 1 i.v i.bs.length (cellsOf i.bs)) (hvn : ∀ g, i.v.ownBlock = some g → ¬ Fp g ∧ g < w.heap.size)
    (ho : w1.ownsRow 0 51 2 (.slice a' n c') n (flat2 (is ++ [i]))) (hg : w.grownBy w1 fs.ownBlock) (hat : (Value.slice a' n c').ownBlock = fs.ownBlock ∨ ∀ g, (Value.slice a' n c').ownBlock = some g → w.heap.size ≤ g) (hn : n = is.length + 1) :
    RefAt (w1.setCell ⟨p, 0, none⟩ (.slice a' n c')) p (.slice a' n c') (is ++ [i]) wr left (fun k => k < w1.heap.size ∧ (grow Fp w w1 k ∨ i.v.ownBlock = some k)) ∧ Turn Fp w (w1.setCell ⟨p, 0, none⟩ (.slice a' n c')) := by
  have hfpn : ∀ g, fs.ownBlock = some g → g ≠ p := fun g hg => (h.ff g hg).2
  have hplt := h.lt p h.fp
  have hsz := hg.size
  have hp1 : w1.heap[p]? = w.heap[p]? := hg.block p hplt (fun e => hfpn p e.symm rfl)
  have hT1 : Turn Fp w w1 := Turn.of_grownBy hg (fun k hk => .inl (h.ff k hk).1)
  have hff : ∀ g, (Value.slice a' n c').ownBlock = some g → g < w1.heap.size ∧ (grow Fp w w1 g ∨ i.v.ownBlock = some g) ∧ g ≠ p := by
    intro g hgo
    have hlt := (ho.lt g hgo).2
    rcases hat with e | e
    · rw [e] at hgo
      exact ⟨hlt, .inl (.inl (h.ff g hgo).1), (h.ff g hgo).2⟩
    · have := e g hgo
      exact ⟨hlt, .inl (.inr ⟨this, hlt⟩), by omega⟩
  have hnew : ∀ g, (Value.slice a' n c').ownBlock = some g → fs.ownBlock = some g ∨ w.heap.size ≤ g := by
    intro g hgo
    rcases hat with e | e
    · rw [e] at hgo; exact .inl hgo
    · exact .inr (e g hgo)
  have hipn : ∀ g, i.v.ownBlock = some g → g ≠ p := fun g hg e => (hvn g hg).1 (e ▸ h.fp)
  refine ⟨?_, hT1.trans (turn_setCell w1 p 0 _) (fun i _ hi => by subst hi; exact h.fp)⟩
  refine { c0 := World.cell?_setCell_same _ _ _ (by rw [World.cell?_of_block hp1]; exact h.c0), c1 := by rw [World.cell?_setCell_other _ _ _ _ (by simp), World.cell?_of_block hp1]; exact h.c1, c2 := by rw [World.cell?_setCell_other _ _ _ _ (by simp), World.cell?_of_block hp1]; exact h.c2,
           f0 := by rw [World.frozen?_setCell, World.frozen?_of_block hp1]; exact h.f0, f1 := by rw [World.frozen?_setCell, World.frozen?_of_block hp1]; exact h.f1, f2 := by rw [World.frozen?_setCell, World.frozen?_of_block hp1]; exact h.f2, row := ?_, each := ?_, apart := ?_, ff := fun g hg => ⟨⟨(hff g hg).1, (hff g hg).2.1⟩, (hff g hg).2.2⟩, fp := ⟨by omega, .inl (.inl h.fp)⟩, lt := ?_ }
  · rw [List.length_append, List.length_singleton, ← hn]
    exact ownsRow_move2 ho (fun g hgo => Below.heap_setCell _ _ _ _ (hff g hgo).2.2)
  · intro j hj
    rcases List.mem_append.1 hj with hj | hj
    · have he := h.each j hj
      refine ⟨ownsRow_move2 (w := w) he.1 (fun g hgo => ?_), fun g hgo => ⟨⟨by have := h.lt g (he.2 g hgo).1; omega, .inl (.inl (he.2 g hgo).1)⟩, (he.2 g hgo).2.1, fun e => ?_⟩⟩
      · rw [Below.heap_setCell _ _ _ _ (he.2 g hgo).2.1]
        exact hg.block g (h.lt g (he.2 g hgo).1) (fun e => (he.2 g hgo).2.2 e.symm)
      · rcases hnew g e with h1 | h1
        · exact (he.2 g hgo).2.2 h1
        · have := h.lt g (he.2 g hgo).1
          omega
    · simp at hj
      subst hj
      refine ⟨ownsRow_move2 (w := w) hv (fun g hgo => ?_), fun g hgo => ⟨⟨by have := (hvn g hgo).2; omega, .inr hgo⟩, hipn g hgo, fun e => ?_⟩⟩
      · rw [Below.heap_setCell _ _ _ _ (hipn g hgo)]
        exact hg.block g (hvn g hgo).2 (fun e => (hvn g hgo).1 (h.ff g e.symm).1)
      · rcases hnew g e with h1 | h1
        · exact (hvn g hgo).1 (h.ff g h1).1
        · have := (hvn g hgo).2
          omega
  · rw [List.pairwise_append]
    refine ⟨h.apart, by simp, fun a ha b hb g hag => ?_⟩
    simp at hb
    subst hb
    exact fun hbg => (hvn g hbg).1 ((h.each a ha).2 g hag).1
  · rintro k ⟨hk, _⟩
    simpa [World.setCell] using hk

theorem step_push_it {wr : World} {ops : Array Oper} {o : Oper} {a : Act} {K : Act → World → Prop} {Q : Exit → Act → World → Prop} {E : Prop} (i : It)
    (hgd : o.guard = none) (s x : Operand) (hop : o.op = Op.call { callee := Callee.builtin Builtin.append, args := #[s, x], argTypes := #[46, 46] })
    (base n : Nat) (v : Value) (xs : List Value) (hs : a.eval s = v) (g : Nat) (hx : a.eval x = .slice (some ⟨g, 0, none⟩) 1 1)
    (hg : wr.heap[g]? = some (.cells #[.string i.name, i.v] 51 (0, 0))) (hv : ∃ a n c, i.v = .slice a n c)
    (hown : wr.ownsRow base 51 2 v n xs) (hn : n ≤ 1000000) (hb : base ≤ wr.heap.size)
    (hK : ∀ a' c' w', w'.ownsRow base 51 2 (.slice a' (n + 1) c') (n + 1) (xs ++ i.cells) → wr.grownBy w' v.ownBlock → ((Value.slice a' (n + 1) c').ownBlock = v.ownBlock ∨ (Value.slice a' (n + 1) c').ownBlock = some wr.heap.size) → K (a.put o.dst (.slice a' (n + 1) c')) w') :
    if Region.wanted o (yielded ops a.tmps) = true then Oper.wp Tryd.prog o a wr K Q else E := by
  have hw : Region.wanted o (yielded ops a.tmps) = true := by simp [Region.wanted, hgd]
  rw [if_pos hw]
  obtain ⟨a', c', w', hr, h2, h3, h4⟩ := run_push_it wr o.type base v n xs hown hb g i hg hv hn
  unfold Oper.wp execOp
  simp only [hop, resolve, invoke, builtin, Sem.run_bind, Sem.run_pure, Result.andThen_ok, List.map_toArray, List.map_cons, List.map_nil, hs, hx, hr]
  exact hK a' c' w' h2 h3 h4

/-- a name and bytes, as a file has them -/
def It.nb (i : It) : ByteArray × List UInt8 := (i.name, i.bs)
theorem seek_nb : ∀ (is js : List It) (x : List UInt8), js.map It.nb = is.map It.nb → (seek js x).map (·.bs) = (seek is x).map (·.bs)
  | [], [], _, _ => rfl
  | [], _ :: _, _, h => by simp at h
  | _ :: _, [], _, h => by simp at h
  | i :: is, j :: js, x, h => by
    simp only [List.map_cons, List.cons.injEq, It.nb, Prod.mk.injEq] at h
    obtain ⟨⟨h1, h2⟩, h3⟩ := h
    rw [seek_cons, seek_cons, show j.k = i.k by unfold It.k; rw [h1]]
    by_cases e : i.k = x
    · rw [if_pos e, if_pos e]; simp [h2]
    · rw [if_neg e, if_neg e]; exact seek_nb is js x h3
theorem match_nb {S : DG} {is js : List It} {left : Int} (h : Match S is left) (e : js.map It.nb = is.map It.nb) : Match S.copy js (-1) where
  f := fun x => by show S.f x = _; rw [seek_nb is js x e]; exact h.f x
  n := by
    have := congrArg List.length e
    simp at this
    show S.n = _
    rw [this]; exact h.n
  nd := by
    have h1 : (is.map (Prod.fst ∘ It.nb)).Pairwise (· ≠ ·) := by rw [List.pairwise_map]; exact h.nd
    have h2 : js.map (Prod.fst ∘ It.nb) = is.map (Prod.fst ∘ It.nb) := by
      have := congrArg (List.map Prod.fst) e
      simpa using this
    rw [← h2, List.pairwise_map] at h1
    exact h1
  left := .inl ⟨rfl, rfl⟩

/-- the copy, behind k files -/
structure CpI (w wr : World) (is : List It) (k : Nat) (fs : Value) (js : List It) (G : Nat → Prop) : Prop where
  ref : RefAt wr w.heap.size fs js 0 (-1) G
  nb : js.map It.nb = (is.take k).map It.nb
  lo : ∀ j, G j → w.heap.size ≤ j
  below : Below w.heap.size w wr

theorem CpI.len {w wr : World} {is : List It} {k : Nat} {fs : Value} {js : List It} {G : Nat → Prop} (h : CpI w wr is k fs js G) (hk : k ≤ is.length) : js.length = k := by
  have := congrArg List.length h.nb
  simp at this
  omega

set_option maxRecDepth 20000 in
set_option maxHeartbeats 4000000 in
theorem rcopy_any (p : Nat) (S : DG) (Fp : Nat → Prop) (w : World) (h : IsRef w p S Fp) (hn : S.n ≤ 300) (hbig : ∀ l bs, S.f l = some bs → bs.length ≤ 4194304) :
    Calls Tryd.prog 9 #[.pointer (some ⟨p, 0, none⟩)] w fun e w' => ∃ q, e = .returned (.pointer (some ⟨q, 0, none⟩)) ∧ IsRef w' q S.copy (Go.Proofs.YtcbmofapnjdmgaaDoor.grow (fun _ => False) w w') ∧ Below w.heap.size w w' := by
  have hmx : Tryd.prog.follows .mixedOrders = true := by kernel_rfl
  obtain ⟨fs0, is, left, h, hM⟩ := h
  have hnl := hM.n
  obtain ⟨ad, c, rfl, hnc, hcm, hnn, hcell⟩ := slice2 h.row rfl
  have c0 := h.c0
  go_enter Tryd.func9, Tryd.ntmps9
  go_wp2_with fail
  refine (rnew_any w).mono ?_
  rintro e w1 ⟨rfl, hR1, B1⟩
  have c01 : w1.cell? ⟨p, 0, none⟩ = some (.slice ad is.length c) := by rw [B1.cell (h.lt p h.fp)]; exact c0
  have H0 : Hid (∃ fs js G, CpI w w1 is 0 fs js G) := ⟨_, [], _, hR1, rfl, (fun j hj => by rw [hj]; exact Nat.le_refl _), B1⟩
  clear hR1 B1 c0
  go_wp2_with fail
  go_loopw [12] (fun j wr => ∃ k : Nat, k ≤ is.length ∧ j = .int .i64 k ∧ Hid (∃ fs js G, CpI w wr is k fs js G)) (fun i _ => is.length - (intOf i).toNat)
  case atStart => exact ⟨0, Nat.zero_le _, rfl, H0⟩
  case round =>
    clear H0 c01
    obtain ⟨k, hk, rfl, H⟩ := hrel
    by_cases hlt : k < is.length
    · have i3 : (k : Int) < (is.length : Int) := by omega
      have i4 : (0 : Int) ≤ (k : Int) := by omega
      obtain ⟨i, hi⟩ : ∃ i, is[k]? = some i := ⟨is[k], by simp [hlt]⟩
      obtain ⟨g, rfl, q0, q1, _⟩ := hcell k i hi
      obtain ⟨fs, js, G, hI⟩ := H.out
      clear H
      have hjl := hI.len hk
      have hB := hI.below
      have q0' : wr.cell? ⟨g, k * 2, none⟩ = some (.string i.name) := by rw [hB.cell (World.block_lt_of_cell? w _ q0)]; exact q0
      have q1' : wr.cell? ⟨g, k * 2 + 1, none⟩ = some i.v := by rw [hB.cell (World.block_lt_of_cell? w _ q1)]; exact q1
      have hie := (h.each i (List.mem_of_getElem? hi)).1
      have hil : ∀ g', i.v.ownBlock = some g' → g' < w.heap.size := fun g' hg' => h.lt g' ((h.each i (List.mem_of_getElem? hi)).2 g' hg').1
      obtain ⟨va, vc, hv, _, hnil⟩ := ownsRow_shape hie
      have hbl : i.bs.length ≤ 4194304 := by
        refine hbig i.k i.bs ?_
        rw [hM.f]
        obtain ⟨i2, h2⟩ : ∃ i2, seek is i.k = some i2 := by
          cases e : seek is i.k with
          | none => exact absurd rfl (seek_none.1 e i (List.mem_of_getElem? hi))
          | some x => exact ⟨x, rfl⟩
        obtain ⟨hm2, hk2⟩ := seek_mem h2
        have : i2 = i := uniq hM.nd hm2 (List.mem_of_getElem? hi) (It.k_inj.1 hk2)
        rw [h2, this]; rfl
      have hnb := hI.nb
      obtain ⟨nm, v, bs⟩ := i
      simp only at hv q0' q1' hie hil hbl hnil
      subst hv
      have hby := (ownsRow_toBytes hie).1
      generalize hvn : bs.length = vn at *
      obtain ⟨wa, hwa⟩ : ∃ wa, wa = wr.alloc (.cells #[.string nm, .slice va vn vc] 51) := ⟨_, rfl⟩
      have hBa : Below wr.heap.size wr wa := by rw [hwa]; exact (Below.refl _ wr).alloc (Nat.le_refl _) _
      have hsa : wa.heap.size = wr.heap.size + 1 := by rw [hwa]; simp
      have hBwa : Below w.heap.size w wa := hB.trans (hBa.mono hB.size)
      have b0 : wa.cell? ⟨wr.heap.size, 0, none⟩ = some (.string nm) := by rw [hwa]; simp
      have b1 : wa.cell? ⟨wr.heap.size, 1, none⟩ = some (.slice va vn vc) := by rw [hwa]; simp
      have cR := (hI.ref.below hBa).c0
      have HC : Hid (∀ W, Below wa.heap.size wa W → W.cell? ⟨wr.heap.size, 0, none⟩ = some (.string nm) ∧ W.cell? ⟨wr.heap.size, 1, none⟩ = some (.slice va vn vc)) := fun W hW => ⟨by rw [hW.cell (World.block_lt_of_cell? wa _ b0)]; exact b0, by rw [hW.cell (World.block_lt_of_cell? wa _ b1)]; exact b1⟩
      obtain ⟨w7, hw7⟩ : ∃ w7, w7 = ((wr.alloc (.cells #[.string nm, .slice va vn vc] 51)).alloc (.cells #[] 5)).drew := ⟨_, rfl⟩
      have HB7 : Hid (Below wa.heap.size wa w7) := by
        rw [hw7, ← hwa]
        exact ((Below.refl _ wa).alloc (Nat.le_refl _) _).trans ⟨rfl, rfl, rfl, Nat.le_refl _, fun _ _ => rfl⟩
      have H7 : Hid (w7.ownsRow 0 5 1 (.slice (some ⟨wr.heap.size + 1, 0, none⟩) 0 0) 0 [] ∧ Bytes w7 va vn bs) := by
        refine ⟨?_, (Turn.of_below (fun _ => False) (hBwa.trans (HB7.out.mono hBwa.size))).bytes hby (fun _ _ _ => id)⟩
        rw [hw7, ← hwa, ← hsa]
        exact World.ownsRow_made wa #[] 0 (Nat.zero_le _) (by unfold maxLen; omega) rfl
      have HRa : Hid (RefAt wa w.heap.size fs js 0 (-1) G) := hI.ref.below hBa
      have HLo : Hid (∀ j, G j → w.heap.size ≤ j ∧ j < wr.heap.size) := fun j hj => ⟨hI.lo j hj, hI.ref.lt j hj⟩
      have HNb : Hid (∀ v' : Value, (js ++ [(⟨nm, v', bs⟩ : It)]).map It.nb = (is.take (k + 1)).map It.nb) := fun v' => by
        rw [List.map_append, hnb, List.take_add_one, hi, List.map_append]; rfl
      have HS8 : Hid (∀ v8 w8, w8.ownsRow 0 5 1 v8 (0 + vn) ([] ++ cellsOf bs) → w7.grownBy w8 (Value.slice (some ⟨wr.heap.size + 1, 0, none⟩) 0 0).ownBlock → (v8.ownBlock = (Value.slice (some ⟨wr.heap.size + 1, 0, none⟩) 0 0).ownBlock ∨ v8.ownBlock = some w7.heap.size) →
          ∃ a8 c8, v8 = .slice a8 vn c8 ∧ Hid (Below wa.heap.size wa w8 ∧ w8.ownsRow 0 5 1 (.slice a8 vn c8) vn (cellsOf bs) ∧ (∀ g, (Value.slice a8 vn c8).ownBlock = some g → wa.heap.size ≤ g ∧ g < w8.heap.size) ∧ RefAt w8 w.heap.size fs js 0 (-1) G)) := by
        intro v8 w8 ho hg hat
        rw [Nat.zero_add, List.nil_append] at ho
        obtain ⟨a8, c8, rfl, _⟩ := ownsRow_shape (n := vn) (by rw [← hvn] at ho ⊢; exact ho)
        have hB8 : Below wa.heap.size wa w8 := HB7.out.grown hg HB7.out.size (by intro j hj; cases hj; exact Nat.le_of_eq hsa)
        refine ⟨a8, c8, rfl, hB8, ho, fun g hgo => ⟨?_, (ho.lt g hgo).2⟩, HRa.out.below hB8⟩
        rcases hat with e | e
        · rw [e] at hgo; cases hgo; exact Nat.le_of_eq hsa
        · rw [e] at hgo; cases hgo; exact HB7.out.size
      have HS9 : Hid (∀ a8 c8 w8 a9 c9 w9, (Below wa.heap.size wa w8 ∧ w8.ownsRow 0 5 1 (.slice a8 vn c8) vn (cellsOf bs) ∧ (∀ g, (Value.slice a8 vn c8).ownBlock = some g → wa.heap.size ≤ g ∧ g < w8.heap.size) ∧ RefAt w8 w.heap.size fs js 0 (-1) G) →
          w9.ownsRow 0 51 2 (.slice a9 (js.length + 1) c9) (js.length + 1) (flat2 js ++ It.cells ⟨nm, .slice a8 vn c8, bs⟩) → (w8.alloc (.cells #[.string nm, .slice a8 vn c8] 51)).grownBy w9 fs.ownBlock → ((Value.slice a9 (js.length + 1) c9).ownBlock = fs.ownBlock ∨ (Value.slice a9 (js.length + 1) c9).ownBlock = some (w8.alloc (.cells #[.string nm, .slice a8 vn c8] 51)).heap.size) →
          Hid ((w9.cell? ⟨wr.heap.size, 0, none⟩ = some (.string nm) ∧ w9.cell? ⟨wr.heap.size, 1, none⟩ = some (.slice va vn vc)) ∧ w9.cell? ⟨w.heap.size, 0, none⟩ = some fs ∧ w9.frozen? ⟨w.heap.size, 0, none⟩ = false ∧
            ((w9.setCell ⟨w.heap.size, 0, none⟩ (.slice a9 (js.length + 1) c9)).cell? ⟨wr.heap.size, 0, none⟩ = some (.string nm) ∧ (w9.setCell ⟨w.heap.size, 0, none⟩ (.slice a9 (js.length + 1) c9)).cell? ⟨wr.heap.size, 1, none⟩ = some (.slice va vn vc)) ∧
            ∃ fs' js' G', CpI w (w9.setCell ⟨w.heap.size, 0, none⟩ (.slice a9 (js.length + 1) c9)) is (k + 1) fs' js' G')) := by
        rintro a8 c8 w8 a9 c9 w9 ⟨hB8, ho8, hn8, hR8⟩ ho hg hat
        have hA : Below w8.heap.size w8 (w8.alloc (.cells #[.string nm, .slice a8 vn c8] 51)) := (Below.refl _ _).alloc (Nat.le_refl _) _
        obtain ⟨wx, hwx⟩ : ∃ wx, wx = w8.alloc (.cells #[.string nm, .slice a8 vn c8] 51) := ⟨_, rfl⟩
        rw [← hwx] at hA hg hat
        have hRx := hR8.below hA
        have hBx : Below wa.heap.size wa wx := hB8.trans (hA.mono hB8.size)
        have hox : wx.ownsRow 0 5 1 (.slice a8 vn c8) vn (cellsOf bs) := ownsRow_move2 ho8 (fun g hgo => hA.block g (hn8 g hgo).2)
        have hfx : ∀ g, fs.ownBlock = some g → w.heap.size ≤ g ∧ g < wr.heap.size ∧ g ≠ w.heap.size := fun g hg => ⟨(HLo.out g (hR8.ff g hg).1).1, (HLo.out g (hR8.ff g hg).1).2, (hR8.ff g hg).2⟩
        have hmade := hRx.madeV (w1 := w9) ⟨nm, .slice a8 vn c8, bs⟩ a9 (js.length + 1) c9 (by simp only; rw [hvn]; exact hox) (fun g hgo => ⟨fun hG => by have := (hn8 g hgo).1; have := (HLo.out g hG).2; omega, by have := (hn8 g hgo).2; have := hA.size; omega⟩) (by rw [flat2_snoc]; exact ho) hg (hat.imp id (fun e g h => by rw [e] at h; cases h; exact Nat.le_refl _)) rfl
        have hcx := HC.out wx hBx
        have hkeep : ∀ o u, wx.cell? ⟨wr.heap.size, o, none⟩ = some u → w9.cell? ⟨wr.heap.size, o, none⟩ = some u := fun o u hu => by
          rw [World.cell?_of_block (hg.block wr.heap.size (World.block_lt_of_cell? wx _ hu) (fun e => by have := (hfx _ e.symm).2.1; omega))]; exact hu
        have hr : wr.heap.size ≠ w.heap.size := fun e => by have := (HLo.out _ (hR8.fp)).2; omega
        have hset : ∀ o u, w9.cell? ⟨wr.heap.size, o, none⟩ = some u → (w9.setCell ⟨w.heap.size, 0, none⟩ (.slice a9 (js.length + 1) c9)).cell? ⟨wr.heap.size, o, none⟩ = some u := fun o u hu => by
          rw [World.cell?_setCell_other _ _ _ _ (by intro e; exact hr (by have := congrArg Addr.block e; simp only at this; exact this.symm))]; exact hu
        have h0 := hkeep _ _ hcx.1
        have h1 := hkeep _ _ hcx.2
        have hpb : w9.heap[w.heap.size]? = wx.heap[w.heap.size]? := hg.block _ (hRx.lt _ hRx.fp) (fun e => (hfx _ e.symm).2.2 rfl)
        refine ⟨⟨h0, h1⟩, by rw [World.cell?_of_block hpb]; exact hRx.c0, by rw [World.frozen?_of_block hpb]; exact hRx.f0, ⟨hset _ _ h0, hset _ _ h1⟩, _, _, _, hmade.1, HNb.out _, ?_, ?_⟩
        · rintro j ⟨hj, (hj2 | hj2) | hj2⟩
          · exact (HLo.out j hj2).1
          · have := hj2.1; have := hBwa.size; have := hBx.size; omega
          · have := (hn8 j hj2).1; have := hBwa.size; omega
        · exact ((hBwa.trans (hBx.mono hBwa.size)).grown hg (by have := hBwa.size; have := hBx.size; omega) (fun j hj => (hfx j hj).1)).setCell (p := ⟨w.heap.size, 0, none⟩) (Nat.le_refl _) _
      have T0 : (fun W : World => W.cell? ⟨wr.heap.size, 0, none⟩ = some (.string nm) ∧ W.cell? ⟨wr.heap.size, 1, none⟩ = some (.slice va vn vc)) wa.drew := ⟨b0, b1⟩
      have hJ : js.length ≤ 300 := by omega
      have HFb : Hid (∀ W, Below wa.heap.size wa W → W.cell? ⟨w.heap.size, 0, none⟩ = some fs) := fun W hW => (HRa.out.below hW).c0
      clear hjl hBwa hBa hie hil hby hI hB hnb HRa HLo HNb
      go_upto_region 5 with fail
      rw [← hwa]
      refine wp_region_G (S := SB 16 (fun W => W.cell? ⟨w.heap.size, 0, none⟩ = some fs) (fun W => W.cell? ⟨wr.heap.size, 0, none⟩ = some (.string nm) ∧ W.cell? ⟨wr.heap.size, 1, none⟩ = some (.slice va vn vc))) hmx ?_
      have hSB : SB 16 (fun W => W.cell? ⟨w.heap.size, 0, none⟩ = some fs) (fun W => W.cell? ⟨wr.heap.size, 0, none⟩ = some (.string nm) ∧ W.cell? ⟨wr.heap.size, 1, none⟩ = some (.slice va vn vc)) (Array.replicate 17 false) wa.drew := SB.on cR T0
      refine wpAnyG_takeP (i := 0) (v := ?_) rfl (by kernel_rfl) (by kernel_rfl) (by kernel_rfl) (fun _ _ _ h => h) rfl (Or.inl ⟨by rfl, ?_⟩) (by assumption) ?_
      rotate_left
      · intro Y _; go_simp; try with_reducible rfl
      intro hSB0
      try simp only [Act.put, List.getElem_toArray, List.getElem_cons_zero, List.setIfInBounds_toArray, List.set_cons_zero, List.set_cons_succ]
      refine wpAnyG_takeP (i := 1) (v := ?_) rfl (by kernel_rfl) (by kernel_rfl) (by kernel_rfl) (fun _ _ _ h => h) rfl (Or.inl ⟨by rfl, ?_⟩) (by assumption) ?_
      rotate_left
      · intro Y _; go_simp; try with_reducible rfl
      intro hSB1
      try simp only [Act.put, List.getElem_toArray, List.getElem_cons_zero, List.getElem_cons_succ, List.setIfInBounds_toArray, List.set_cons_zero, List.set_cons_succ]
      refine wpAnyG_takeP (i := 2) (v := ?_) rfl (by kernel_rfl) (by kernel_rfl) (by kernel_rfl) (fun _ _ _ h => h) rfl (Or.inl ⟨by rfl, ?_⟩) (by assumption) ?_
      rotate_left
      · intro Y _; go_simp; try with_reducible rfl
      intro hSB2
      try simp only [Act.put, List.getElem_toArray, List.getElem_cons_zero, List.getElem_cons_succ, List.setIfInBounds_toArray, List.set_cons_zero, List.set_cons_succ]
      refine wpAnyG_takeP (i := 3) (v := ?_) rfl (by kernel_rfl) (by kernel_rfl) (by kernel_rfl) (fun _ _ _ h => h) rfl (Or.inl ⟨by rfl, ?_⟩) (by assumption) ?_
      rotate_left
      · intro Y _; go_simp; try with_reducible rfl
      intro hSB3
      try simp only [Act.put, List.getElem_toArray, List.getElem_cons_zero, List.getElem_cons_succ, List.setIfInBounds_toArray, List.set_cons_zero, List.set_cons_succ]
      refine wpAnyG_takeB (i := 4) (b := 16) (v := ?_) rfl (by kernel_rfl) (by kernel_rfl) (by kernel_rfl) (fun _ _ _ h => h) rfl (by kernel_rfl) (by rfl) (by kernel_rfl) (Or.inl ⟨by rfl, ?_⟩) (by assumption) ?_
      rotate_left
      · intro Y hY; obtain hy := hY; go_simp; try with_reducible rfl
      intro hSB4
      try simp only [Act.put, List.getElem_toArray, List.getElem_cons_zero, List.getElem_cons_succ, List.setIfInBounds_toArray, List.set_cons_zero, List.set_cons_succ]
      refine wpAnyG_takeP (i := 5) (v := ?_) rfl (by kernel_rfl) (by kernel_rfl) (by kernel_rfl) (fun _ _ _ h => h) rfl (Or.inl ⟨by rfl, ?_⟩) (by assumption) ?_
      rotate_left
      · intro Y hY; obtain ⟨y0, y1⟩ := hY; go_simp; try with_reducible rfl
      intro hSB5
      try simp only [Act.put, List.getElem_toArray, List.getElem_cons_zero, List.getElem_cons_succ, List.setIfInBounds_toArray, List.set_cons_zero, List.set_cons_succ]
      refine wpAnyG_takeP (i := 6) (v := ?_) rfl (by kernel_rfl) (by kernel_rfl) (by kernel_rfl) (fun _ _ _ h => h) rfl (Or.inl ⟨by rfl, ?_⟩) (by assumption) ?_
      rotate_left
      · intro Y hY; obtain ⟨y0, y1⟩ := hY; go_simp; try with_reducible rfl
      intro hSB6
      try simp only [Act.put, List.getElem_toArray, List.getElem_cons_zero, List.getElem_cons_succ, List.setIfInBounds_toArray, List.set_cons_zero, List.set_cons_succ]
      refine wpAnyG_takeP (i := 8) (v := ?_) rfl (by kernel_rfl) (by kernel_rfl) (by kernel_rfl) (fun _ _ _ h => h) rfl (Or.inl ⟨by rfl, ?_⟩) (by assumption) ?_
      rotate_left
      · intro Y hY; obtain ⟨y0, y1⟩ := hY; go_simp; try with_reducible rfl
      intro hSB8
      try simp only [Act.put, List.getElem_toArray, List.getElem_cons_zero, List.getElem_cons_succ, List.setIfInBounds_toArray, List.set_cons_zero, List.set_cons_succ]
      refine wpAnyG_takeP (i := 9) (v := ?_) rfl (by kernel_rfl) (by kernel_rfl) (by kernel_rfl) (fun _ _ _ h => h) rfl (Or.inl ⟨by rfl, ?_⟩) (by assumption) ?_
      rotate_left
      · intro Y hY; obtain ⟨y0, y1⟩ := hY; go_simp; try with_reducible rfl
      intro hSB9
      try simp only [Act.put, List.getElem_toArray, List.getElem_cons_zero, List.getElem_cons_succ, List.setIfInBounds_toArray, List.set_cons_zero, List.set_cons_succ]
      refine wpAnyG_one (i := 7) (by kernel_rfl) rfl (fun K hK => ?_)
      go_simp
      rw [← hw7]
      refine hK.out _ _ (SB.on (HFb.out _ HB7.out) (HC.out _ HB7.out)) (fun hSB7 => ?_)
      clear hK K
      try simp only [Act.put, List.getElem_toArray, List.getElem_cons_zero, List.getElem_cons_succ, List.setIfInBounds_toArray, List.set_cons_zero, List.set_cons_succ]
      refine wpAnyG_one (i := 10) (by kernel_rfl) rfl (fun K hK => ?_)
      refine step_append_row _ rfl _ _ rfl (.slice (some ⟨wr.heap.size + 1, 0, none⟩) 0 0) 0 [] (by rfl) H7.out.1 va vn vc bs (by rfl) H7.out.2 hnil (by omega) ?_
      intro v8 w8 ho8 hg8 hat8
      obtain ⟨a8, c8, rfl, H8⟩ := HS8.out v8 w8 ho8 hg8 hat8
      clear ho8 hg8 hat8
      refine hK.out _ _ (SB.on (HFb.out _ H8.out.1) (HC.out _ H8.out.1)) (fun hSB10 => ?_)
      clear hK K
      try simp only [Act.put, List.getElem_toArray, List.getElem_cons_zero, List.getElem_cons_succ, List.setIfInBounds_toArray, List.set_cons_zero, List.set_cons_succ]
      refine wpAnyG_takeP (i := 11) (v := ?_) rfl (by kernel_rfl) (by kernel_rfl) (by kernel_rfl) (fun _ _ _ h => h) rfl (Or.inl ⟨by rfl, ?_⟩) (by assumption) ?_
      rotate_left
      · intro Y _; go_simp; try with_reducible rfl
      intro hSB11
      try simp only [Act.put, List.getElem_toArray, List.getElem_cons_zero, List.getElem_cons_succ, List.setIfInBounds_toArray, List.set_cons_zero, List.set_cons_succ]
      refine wpAnyG_one (i := 12) (by kernel_rfl) rfl (fun K hK => ?_)
      go_simp
      refine hK.out _ _ (SB.on (HFb.out _ (H8.out.1.alloc H8.out.1.size _)) (HC.out _ (H8.out.1.alloc H8.out.1.size _))) (fun hSB12 => ?_)
      clear hK K
      try simp only [Act.put, List.getElem_toArray, List.getElem_cons_zero, List.getElem_cons_succ, List.setIfInBounds_toArray, List.set_cons_zero, List.set_cons_succ]
      refine wpAnyG_one (i := 13) (by kernel_rfl) rfl (fun K hK => ?_)
      refine step_push_it ⟨nm, .slice a8 vn c8, bs⟩ rfl _ _ rfl 0 js.length fs (flat2 js) (by rfl) w8.heap.size (by rfl) (heap_alloc_new _ _) ⟨_, _, _, rfl⟩ (H8.out.2.2.2.row.alloc _) (by omega) (Nat.zero_le _) ?_
      intro a9 c9 w9 ho9 hg9 hat9
      have H9 := HS9.out a8 c8 w8 a9 c9 w9 H8.out ho9 hg9 hat9
      clear ho9 hg9 hat9
      refine hK.out _ _ (SB.on H9.out.2.1 H9.out.1) (fun hSB13 => ?_)
      clear hK K
      try simp only [Act.put, List.getElem_toArray, List.getElem_cons_zero, List.getElem_cons_succ, List.setIfInBounds_toArray, List.set_cons_zero, List.set_cons_succ]
      have c09 := H9.out.2.1
      have f09 := H9.out.2.2.1
      refine wpAnyG_takeP (i := 14) (v := ?_) rfl (by kernel_rfl) (by kernel_rfl) (by kernel_rfl) (fun _ _ _ h => h) rfl (Or.inl ⟨by rfl, ?_⟩) (by assumption) ?_
      rotate_left
      · intro Y _; go_simp; try with_reducible rfl
      intro hSB14
      try simp only [Act.put, List.getElem_toArray, List.getElem_cons_zero, List.getElem_cons_succ, List.setIfInBounds_toArray, List.set_cons_zero, List.set_cons_succ]
      refine wpAnyG_takeP (i := 15) (v := ?_) rfl (by kernel_rfl) (by kernel_rfl) (by kernel_rfl) (fun _ _ _ h => h) rfl (Or.inl ⟨by rfl, ?_⟩) (by assumption) ?_
      rotate_left
      · intro Y _; go_simp; try with_reducible rfl
      intro hSB15
      try simp only [Act.put, List.getElem_toArray, List.getElem_cons_zero, List.getElem_cons_succ, List.setIfInBounds_toArray, List.set_cons_zero, List.set_cons_succ]
      refine wpAnyG_one (i := 16) (by kernel_rfl) rfl (fun K hK => ?_)
      go_simp
      refine hK.out _ _ (SB.off (by kernel_rfl) H9.out.2.2.2.1) (fun hSB16 => ?_)
      clear hK K
      try simp only [Act.put, List.getElem_toArray, List.getElem_cons_zero, List.getElem_cons_succ, List.setIfInBounds_toArray, List.set_cons_zero, List.set_cons_succ]
      refine wpAnyG_done (by kernel_rfl) ?_ _
      clear hSB hSB0 hSB1 hSB2 hSB3 hSB4 hSB5 hSB6 hSB7 hSB8 hSB9 hSB10 hSB11 hSB12 hSB13 hSB14 hSB15 hSB16
      have HN : Hid (∃ fs' js' G', CpI w (w9.setCell ⟨w.heap.size, 0, none⟩ (.slice a9 (js.length + 1) c9)) is (k + 1) fs' js' G') := H9.out.2.2.2.2
      clear H9 H8 c09 f09 HC HFb HS8 HS9 H7 HB7 q0 q1 q0' q1' b0 b1 cR T0 hcell h hM
      go_wp2
      exact ⟨⟨k + 1, by omega, by simp, HN⟩, by simp [intOf]; omega⟩
    · have i3 : ¬ (k : Int) < (is.length : Int) := by omega
      obtain rfl : k = is.length := by omega
      obtain ⟨fs, js, G, hI⟩ := H.out
      have hR := hI.ref
      have hnb := hI.nb
      rw [List.take_length] at hnb
      have HE : Hid (IsRef wr w.heap.size S.copy (Go.Proofs.YtcbmofapnjdmgaaDoor.grow (fun _ => False) w wr)) := ⟨fs, js, -1, hR.wide (fun j hj => .inr ⟨hI.lo j hj, hR.lt j hj⟩) (fun j hj => hj.elim False.elim (fun h => h.2)), match_nb hM hnb⟩
      have HB : Hid (Below w.heap.size w wr) := hI.below
      clear H hI hR hnb hcell h hM
      go_wp2
      go_ret
      exact ⟨_, rfl, HE.out, HB.out⟩

end Go.Proofs.YtcbmofapnjdmgaaDoor
