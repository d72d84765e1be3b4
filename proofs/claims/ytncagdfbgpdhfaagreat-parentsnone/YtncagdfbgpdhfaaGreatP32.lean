import Derived.Test.YtncagdfbgpdhfaaGreatP31
/- What holds while a history is gone through by its pile, and each of the three ways in which it goes on. -/
namespace Go.Proofs.YtncagdfbgpdhfaaGreat
open Go.RowKit Go.Maps

structure FI (w : World) (h s d mb : Nat) (ov0 : Value) (os : List Ob) (sz : Nat) (cut : Bool) (F : Nat → Prop) (C : Nat) (wr : World) (pv ov : Value) (gs : GS) (c : Nat) (ms : List Mb) (K : Nat → Prop) (fs : List Fr) : Prop where
  st : IsSt wr s d os sz cut F
  H : HAt wr h s mb ov os gs.been c ms K
  row : wr.ownsRow w.heap.size 171 7 pv fs.length (frCells fs)
  fr : ∀ f ∈ fs, HI K wr f.la f.ln f.l ∧ f.ln ≤ f.lc ∧ ∀ x ∈ f.l, 0 ≤ x ∧ x ≤ 18446744073709551615
  mem : ∀ f ∈ fs.tail, MbOk os K wr f.m
  pb : ∀ g, pv.ownBlock = some g → ¬ HX h mb ov g ∧ ¬ K g ∧ ¬ F g
  fx : ∀ k, HX h mb ov k → ¬ F k
  T : Turn (HX h mb ov0) w wr
  ovn : ∀ g, ov.ownBlock = some g → ov0.ownBlock = some g ∨ w.heap.size ≤ g
  pile : PileOk (parsO os) (toldP fs) gs
  ord : ms.map Mb.id = gs.ord
  b3 : ∀ x, gs.been x = 0 ∨ gs.been x = 1 ∨ gs.been x = 2
  cc : c + (leftP (toldP fs) + restO gs.been os) ≤ C
  mc : ms.length + (leftP (toldP fs) + restO gs.been os) ≤ C

theorem row_ge {w : World} {e : TypeId} {B n z : Nat} {v : Value} {xs : List Value} (h : w.ownsRow B e z v n xs) (g : Nat) (hg : v.ownBlock = some g) : B ≤ g := (h.lt g hg).1

/-- one of what is left is taken -/
theorem FI.next {w : World} {h s d mb : Nat} {ov0 : Value} {os : List Ob} {sz : Nat} {cut : Bool} {F : Nat → Prop} {C : Nat} {wr : World} {ov : Value} {gs : GS} {c : Nat} {ms : List Mb} {K : Nat → Prop} {r : List Fr} {f : Fr} {g n cap : Nat}
    (I : FI w h s d mb ov0 os sz cut F C wr (.slice (some ⟨g, 0, none⟩) n cap) ov gs c ms K (r ++ [f])) (hn : n = r.length + 1) (x : Int) (l : List Int) (hl : f.l = x :: l) (a' : Option Addr) (ln' lc' : Nat) (ha : HI K wr a' ln' l) (hlc : ln' ≤ lc') :
    FI w h s d mb ov0 os sz cut F C (wr.setCell ⟨g, r.length * 7 + 6, none⟩ (.slice a' ln' lc')) (.slice (some ⟨g, 0, none⟩) n cap) ov gs c ms K (r ++ [⟨f.m, a', ln', lc', l⟩]) := by
  have hlen : (r ++ [f]).length = n := by simp [hn]
  have hrow := I.row
  rw [hlen] at hrow
  have hs := hrow.stored (r.length * 7 + 6) (.slice a' ln' lc')
  rw [frCells_set r f a' ln' lc' l] at hs
  obtain ⟨hr2, hg2⟩ := hs
  have hpb := I.pb g rfl
  have hT2 : Turn (fun k => k = g) wr (wr.setCell ⟨g, r.length * 7 + 6, none⟩ (.slice a' ln' lc')) := Turn.of_grownBy hg2 (fun k hk => .inl (by cases hk; rfl))
  have hk : ∀ k, K k → (wr.setCell ⟨g, r.length * 7 + 6, none⟩ (.slice a' ln' lc')).heap[k]? = wr.heap[k]? := fun k hK => hT2.block k (I.H.klt k hK) (fun e => hpb.2.1 (e ▸ hK))
  have hlp : leftP (toldP (r ++ [f])) = leftP (toldP (r ++ [⟨f.m, a', ln', lc', l⟩])) + 1 := by
    rw [toldP_snoc, toldP_snoc]
    simp only [leftP, hl, List.length_cons]
    omega
  have hgb := row_ge hrow g rfl
  exact
  { st := I.st.turn hT2 (fun k hf e => hpb.2.2 (e ▸ hf))
    H := I.H.turn hT2 (fun k hx e => hx.elim (fun hx => hpb.1 (e ▸ hx)) (fun hK => hpb.2.1 (e ▸ hK)))
    row := by
      have e : (r ++ [(⟨f.m, a', ln', lc', l⟩ : Fr)]).length = n := by simp [hn]
      rw [e]; exact hr2
    fr := fun f' hf' => by
      rcases List.mem_append.1 hf' with hm | hm
      · obtain ⟨h1, h2⟩ := I.fr f' (by simp [hm])
        exact ⟨h1.kept hk, h2⟩
      · simp at hm
        subst hm
        refine ⟨ha.kept hk, hlc, fun y hy => (I.fr f (by simp)).2.2 y (by rw [hl]; simp [hy])⟩
    mem := fun f' hf' => by
      cases r with
      | nil => simp at hf'
      | cons q r =>
        simp only [List.cons_append, List.tail_cons, List.mem_append, List.mem_singleton] at hf'
        rcases hf' with hm | hm
        · exact (I.mem f' (by simp [hm])).kept hk
        · subst hm
          exact (I.mem f (by simp)).kept hk
    pb := I.pb
    fx := I.fx
    T := I.T.trans hT2 (fun k hk e => by omega)
    ovn := I.ovn
    pile := by
      have := I.pile
      rw [toldP_snoc] at this ⊢
      exact this.next
    ord := I.ord
    b3 := I.b3
    cc := by have := I.cc; omega
    mc := by have := I.mc; omega }

/-- a commit is opened -/
theorem FI.push {w : World} {h s d mb : Nat} {ov0 : Value} {os : List Ob} {sz : Nat} {cut : Bool} {F : Nat → Prop} {C : Nat} {wr : World} {pv ov : Value} {gs : GS} {c : Nat} {ms : List Mb} {K : Nat → Prop} {fs : List Fr}
    (I : FI w h s d mb ov0 os sz cut F C wr pv ov gs c ms K fs) (hne : fs ≠ []) {w1 w2 w3 : World} (hB : Below wr.heap.size wr w1) (m : Mb) (hm : MbOk os (fun k => wr.heap.size ≤ k ∧ k < w1.heap.size) w1 m) (h0 : gs.been m.id = 0)
    (hbn : BnAt w2 mb (setG gs.been m.id 1) (c + 1)) (hg2 : w1.grownBy w2 (some mb)) (pv' : Value) (hrow : w3.ownsRow w.heap.size 171 7 pv' (fs.length + 1) (frCells fs ++ frCells [⟨m, m.pa, m.pn, m.pc, m.ps⟩])) (hT3 : Turn (fun k => pv.ownBlock = some k) w2 w3) (hb : ∀ g, pv'.ownBlock = some g → pv.ownBlock = some g ∨ w2.heap.size ≤ g) :
    FI w h s d mb ov0 os sz cut F C w3 pv' ov (gs.opn m.id) (c + 1) ms (fun k => K k ∨ (wr.heap.size ≤ k ∧ k < w1.heap.size)) (fs ++ [⟨m, m.pa, m.pn, m.pc, m.ps⟩]) := by
  have hmbl := I.H.bn.lt
  have hsz2 := hg2.size
  have hsz1 := hB.size
  -- blocks that stood ahead
  have hold : ∀ k, k < wr.heap.size → k ≠ mb → pv.ownBlock ≠ some k → w3.heap[k]? = wr.heap[k]? := fun k hk hne hp =>
    (hT3.block k (by omega) hp).trans ((hg2.block k (by omega) (by simpa using hne)).trans (hB.block k hk))
  have hnew : ∀ k, wr.heap.size ≤ k → k < w1.heap.size → w3.heap[k]? = w1.heap[k]? := fun k h1 h2 =>
    (hT3.block k (by omega) (fun e => by have := (I.row.lt k e).2; omega)).trans (hg2.block k h2 (by simp; omega))
  have hKk : ∀ k, K k → w3.heap[k]? = wr.heap[k]? := fun k hK => hold k (I.H.klt k hK) (fun e => I.H.nk.2 (e ▸ hK)) (fun e => (I.pb k e).2.1 hK)
  have hxl : ∀ k, HX h mb ov k → k < wr.heap.size := I.H.xlt
  have hmk : MbOk os (fun k => K k ∨ (wr.heap.size ≤ k ∧ k < w1.heap.size)) w3 m := (hm.kept fun k hk => hnew k hk.1 hk.2).wide fun k hk => .inr hk
  have hpn : ∀ k, pv.ownBlock = some k → k ≠ h ∧ k ≠ mb ∧ ov.ownBlock ≠ some k := fun k hk => ⟨fun e => (I.pb k hk).1 (.inl e), fun e => (I.pb k hk).1 (.inr (.inl e)), fun e => (I.pb k hk).1 (.inr (.inr e))⟩
  have kh : w3.heap[h]? = wr.heap[h]? := hold h I.H.hlt I.H.hm (fun e => (hpn h e).1 rfl)
  have hopn : restO (gs.opn m.id).been os + m.ps.length + 2 ≤ restO gs.been os := restO_push (by omega) os m.id m.ps hm.com h0
  have hlp : leftP (toldP (fs ++ [⟨m, m.pa, m.pn, m.pc, m.ps⟩])) = m.ps.length + 1 + leftP (toldP fs) := by rw [toldP_snoc]; rfl
  have hsz3 := hT3.size
  exact
  { st := by
      refine (I.st.turn (Gp := fun k => k = mb ∨ pv.ownBlock = some k) (w' := w3) ⟨?_, ?_, ?_, by omega, fun k hk hn => hold k hk (fun e => hn (.inl e)) (fun e => hn (.inr e))⟩ (fun k hf e => e.elim (fun e => I.fx k (.inr (.inl e)) hf) (fun e => (I.pb k e).2.2 hf)))
      · exact hT3.os.trans (hg2.os.trans hB.os)
      · exact hT3.tape.trans (hg2.tape.trans hB.tape)
      · exact hT3.output.trans (hg2.output.trans hB.output)
    H :=
      { c0 := by rw [World.cell?_of_block kh]; exact I.H.c0
        c1 := by rw [World.cell?_of_block kh]; exact I.H.c1
        c2 := by rw [World.cell?_of_block kh]; exact I.H.c2
        f2 := by rw [World.frozen?_of_block kh]; exact I.H.f2
        bn := hbn.kept (hT3.block mb (by omega) (fun e => (hpn mb e).2.1 rfl))
        row := row_moved I.H.row fun g hg => hold g (I.H.row.lt g hg).2 (I.H.vo g hg).2.1 (fun e => (hpn g e).2.2 hg)
        mem := fun m' hm' => ((I.H.mem m' hm').kept hKk).wide fun k hk => .inl hk
        hm := I.H.hm
        vo := fun g hg => ⟨(I.H.vo g hg).1, (I.H.vo g hg).2.1, fun e => e.elim (I.H.vo g hg).2.2 (fun e => by have := (I.H.row.lt g hg).2; omega)⟩
        nk := ⟨fun e => e.elim I.H.nk.1 (fun e => by have := I.H.hlt; omega), fun e => e.elim I.H.nk.2 (fun e => by omega)⟩
        klt := fun k hk => hk.elim (fun e => by have := I.H.klt k e; omega) (fun e => by omega) }
    row := by
      have e : (fs ++ [(⟨m, m.pa, m.pn, m.pc, m.ps⟩ : Fr)]).length = fs.length + 1 := by simp
      rw [e, frCells_append]; exact hrow
    fr := fun f' hf' => by
      rcases List.mem_append.1 hf' with hm' | hm'
      · obtain ⟨h1, h2⟩ := I.fr f' hm'
        exact ⟨(h1.kept hKk).wide fun k hk => .inl hk, h2⟩
      · simp at hm'
        subst hm'
        exact ⟨hmk.par, hmk.len.1, hmk.pars⟩
    mem := fun f' hf' => by
      cases fs with
      | nil => exact absurd rfl hne
      | cons q r =>
        simp only [List.cons_append, List.tail_cons, List.mem_append, List.mem_singleton] at hf'
        rcases hf' with hm' | hm'
        · exact ((I.mem f' (by simp [hm'])).kept hKk).wide fun k hk => .inl hk
        · subst hm'
          exact hmk
    pb := fun g hg => by
      rcases hb g hg with e | e
      · refine ⟨(I.pb g e).1, fun e' => e'.elim (I.pb g e).2.1 (fun e' => ?_), (I.pb g e).2.2⟩
        have := (I.row.lt g e).2
        omega
      · refine ⟨fun e' => by have := hxl g e'; omega, fun e' => e'.elim (fun e' => by have := I.H.klt g e'; omega) (fun e' => by omega), fun e' => by have := I.st.lt g e'; omega⟩
    fx := I.fx
    T := ⟨hT3.os.trans (hg2.os.trans (hB.os.trans I.T.os)), hT3.tape.trans (hg2.tape.trans (hB.tape.trans I.T.tape)), hT3.output.trans (hg2.output.trans (hB.output.trans I.T.output)), by have := I.T.size; omega, fun k hk hn => by
      have h1 := I.T.size
      rw [hold k (by omega) (fun e => hn (.inr (.inl e))) (fun e => by have := row_ge I.row k e; omega)]
      exact I.T.block k hk hn⟩
    ovn := I.ovn
    pile := by
      rw [toldP_snoc]
      have h1 := I.pile
      cases hp : toldP fs with
      | nil => exact absurd hp h1.ne
      | cons q r =>
        rw [hp] at h1
        obtain ⟨i, l⟩ := q
        exact h1.push (x := m.id) (by rw [h0]; decide) hm.com
    ord := I.ord
    b3 := fun x => by
      have := I.b3 x
      simp only [GS.opn, setG]
      split
      · exact .inr (.inl rfl)
      · exact this
    cc := by have := I.cc; rw [hlp]; omega
    mc := by have := I.mc; rw [hlp]; omega }

/-- a commit whose parents have been gone through is placed -/
theorem FI.pop {w : World} {h s d mb : Nat} {ov0 : Value} {os : List Ob} {sz : Nat} {cut : Bool} {F : Nat → Prop} {C : Nat} {wr : World} {ov : Value} {gs : GS} {c : Nat} {ms : List Mb} {K : Nat → Prop} {r : List Fr} {q f : Fr} {g n cap : Nat}
    (I : FI w h s d mb ov0 os sz cut F C wr (.slice (some ⟨g, 0, none⟩) n cap) ov gs c ms K ((r ++ [q]) ++ [f])) (hn : n = r.length + 2) (hl : f.l = []) {w2 w3 : World} 
    (hbn : BnAt w2 mb (setG gs.been f.m.id 2) (c + 1)) (hg2 : wr.grownBy w2 (some mb)) (ov' : Value) (hrow : w3.ownsRow 0 137 6 ov' (ms.length + 1) (mbCells ms ++ mbCells [f.m])) (hT3 : Turn (fun k => ov.ownBlock = some k) w2 w3) (hb : ∀ g, ov'.ownBlock = some g → ov.ownBlock = some g ∨ w2.heap.size ≤ g) :
    FI w h s d mb ov0 os sz cut F C (w3.setCell ⟨h, 2, none⟩ ov') (.slice (some ⟨g, 0, none⟩) (r.length + 1) cap) ov' (gs.plc f.m.id) (c + 1) (ms ++ [f.m]) K (r ++ [q]) := by
  have hmbl := I.H.bn.lt
  have hsz2 := hg2.size
  have hsz3 := hT3.size
  have hhl := I.H.hlt
  have hvo := I.H.vo
  have hset : ∀ k, k ≠ h → (w3.setCell ⟨h, 2, none⟩ ov').heap[k]? = w3.heap[k]? := fun k hk => Below.heap_setCell _ _ _ _ (by exact hk)
  have hold3 : ∀ k, k < wr.heap.size → k ≠ mb → ov.ownBlock ≠ some k → w3.heap[k]? = wr.heap[k]? := fun k hk hne hp =>
    (hT3.block k (by omega) hp).trans (hg2.block k hk (by simpa using hne))
  have hold : ∀ k, k < wr.heap.size → ¬ HX h mb ov k → (w3.setCell ⟨h, 2, none⟩ ov').heap[k]? = wr.heap[k]? := fun k hk hx =>
    (hset k (fun e => hx (.inl e))).trans (hold3 k hk (fun e => hx (.inr (.inl e))) (fun e => hx (.inr (.inr e))))
  have hKk : ∀ k, K k → (w3.setCell ⟨h, 2, none⟩ ov').heap[k]? = wr.heap[k]? := fun k hK => hold k (I.H.klt k hK) (fun e => I.H.xk k e hK)
  have kh : w3.heap[h]? = wr.heap[h]? := hold3 h hhl I.H.hm (fun e => (hvo h e).1 rfl)
  have cs : ∀ i, w3.cell? ⟨h, i, none⟩ = wr.cell? ⟨h, i, none⟩ := fun i => World.cell?_of_block kh
  have hgx := I.pb g rfl
  have hglt := (I.row.lt g rfl)
  have hoh : ∀ z, ov'.ownBlock = some z → z ≠ h ∧ z ≠ mb ∧ ¬ K z := fun z hz => (hb z hz).elim (fun e => hvo z e) (fun e => ⟨by omega, by omega, fun hK => by have := I.H.klt z hK; omega⟩)
  have hrest : restO (gs.plc f.m.id).been os ≤ restO gs.been os := restO_le os (fun x hx => by simp only [GS.plc, setG]; split <;> simp_all)
  have hlp : leftP (toldP ((r ++ [q]) ++ [f])) = 1 + leftP (toldP (r ++ [q])) := by rw [toldP_snoc (r ++ [q])]; simp [leftP, hl]
  have hfm : MbOk os K wr f.m := I.mem f (by cases r <;> simp)
  exact
  { st := by
      refine (I.st.turn (Gp := HX h mb ov) (w' := w3.setCell ⟨h, 2, none⟩ ov') ⟨?_, ?_, ?_, by rw [World.size_setCell]; omega, fun k hk hn => hold k hk hn⟩ (fun k hf e => I.fx k e hf))
      · exact hT3.os.trans hg2.os
      · exact hT3.tape.trans hg2.tape
      · exact hT3.output.trans hg2.output
    H :=
      { c0 := by rw [World.cell?_setCell_other _ _ _ _ (by simp), cs]; exact I.H.c0
        c1 := by rw [World.cell?_setCell_other _ _ _ _ (by simp), cs]; exact I.H.c1
        c2 := World.cell?_setCell_same _ _ _ ((cs 2).trans I.H.c2)
        f2 := by rw [World.frozen?_setCell, World.frozen?_of_block kh]; exact I.H.f2
        bn := (hbn.kept (hT3.block mb (by omega) (fun e => (hvo mb e).2.1 rfl))).kept (hset mb (fun e => I.H.hm e.symm))
        row := by
          have e : (ms ++ [f.m]).length = ms.length + 1 := by simp
          rw [e, mbCells_append]
          exact row_moved hrow fun z hz => hset z (hoh z hz).1
        mem := fun m' hm' => by
          rcases List.mem_append.1 hm' with hm' | hm'
          · exact (I.H.mem m' hm').kept hKk
          · simp at hm'
            subst hm'
            exact hfm.kept hKk
        hm := I.H.hm
        vo := hoh
        nk := I.H.nk
        klt := fun k hk => by rw [World.size_setCell]; have := I.H.klt k hk; omega }
    row := by
      have e : (r ++ [q]).length = r.length + 1 := by simp
      rw [e]
      have hr := I.row
      have e2 : ((r ++ [q]) ++ [f]).length = r.length + 2 := by simp
      rw [e2] at hr
      rcases hr.2 with ⟨h0, _⟩ | ⟨g', cap', cur, hv, hbase, hbk, h1, h2, h3, h4⟩
      · cases h0
      · cases hv
        refine ⟨by rw [frCells_len]; simp, .inr ⟨g, cap, cur, rfl, hbase, (hold g hglt.2 hgx.1).trans hbk, by omega, h2, h3, ?_⟩⟩
        have : cur.toList.take ((r.length + 1) * 7) = (cur.toList.take ((r.length + 2) * 7)).take ((r.length + 1) * 7) := by rw [List.take_take]; congr 1; omega
        rw [this, h4, frCells_append (r ++ [q])]
        have e3 := frCells_len (r ++ [q])
        rw [e] at e3
        rw [← e3, List.take_left]
    fr := fun f' hf' => by
      obtain ⟨h1, h2⟩ := I.fr f' (by rw [List.mem_append]; exact .inl hf')
      exact ⟨h1.kept hKk, h2⟩
    mem := fun f' hf' => by
      refine (I.mem f' ?_).kept hKk
      cases r with
      | nil => simp at hf'
      | cons y r => simp only [List.cons_append, List.tail_cons, List.mem_append, List.mem_singleton] at hf' ⊢; exact .inl hf'
    pb := fun z hz => by
      cases hz
      refine ⟨fun e => ?_, hgx.2.1, hgx.2.2⟩
      rcases e with e | e | e
      · exact hgx.1 (.inl e)
      · exact hgx.1 (.inr (.inl e))
      · exact (hb _ e).elim (fun e => hgx.1 (.inr (.inr e))) (fun e => by have h1 := hglt.2; simp only at e; omega)
    fx := fun k hk hf => by
      rcases hk with e | e | e
      · exact I.fx k (.inl e) hf
      · exact I.fx k (.inr (.inl e)) hf
      · exact (hb k e).elim (fun e => I.fx k (.inr (.inr e)) hf) (fun e => by have := I.st.lt k hf; omega)
    T := ⟨hT3.os.trans (hg2.os.trans I.T.os), hT3.tape.trans (hg2.tape.trans I.T.tape), hT3.output.trans (hg2.output.trans I.T.output), by rw [World.size_setCell]; have := I.T.size; omega, fun k hk hn => by
      have h1 := I.T.size
      rw [hold k (by omega) (fun e => by
        rcases e with e | e | e
        · exact hn (.inl e)
        · exact hn (.inr (.inl e))
        · exact (I.ovn k e).elim (fun e => hn (.inr (.inr e))) (fun e => by omega))]
      exact I.T.block k hk hn⟩
    ovn := fun z hz => (hb z hz).elim (I.ovn z) (fun e => .inr (by have := I.T.size; omega))
    pile := by
      have h1 := I.pile
      rw [toldP_snoc (r ++ [q]), toldP_snoc] at h1
      rw [toldP_snoc]
      exact h1.pop
    ord := by simp only [List.map_append, I.ord, GS.plc]; rfl
    b3 := fun x => by
      have := I.b3 x
      simp only [GS.plc, setG]
      split
      · exact .inr (.inr rfl)
      · exact this
    cc := by have := I.cc; omega
    mc := by have := I.mc; simp only [List.length_append, List.length_singleton]; omega }
end Go.Proofs.YtncagdfbgpdhfaaGreat
