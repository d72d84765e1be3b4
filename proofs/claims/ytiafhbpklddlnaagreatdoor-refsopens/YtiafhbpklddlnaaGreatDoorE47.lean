import Derived.Test.YtiafhbpklddlnaaGreatDoorE44
import Derived.Test.YtiafhbpklddlnaaGreatDoorE41
import Derived.Test.YtiafhbpklddlnaaGreatDoorE45
import Derived.Test.YtiafhbpklddlnaaGreatDoorE33
import Derived.Test.YtiafhbpklddlnaaGreatDoorE46
/- The document's refs: what it reads of a record. -/
namespace Go.Proofs.YtiafhbpklddlnaaGreatDoor
open Go.RowKit Go.Shelf Go.Maps

attribute [local go_sem] Oper.semAt_some

theorem field0R (a b : Value) (w : World) : (Instr.field 75 (.agg #[a, b]) 0).run Tryz.prog w = .ok a w := by kernel_rfl

set_option maxRecDepth 100000 in
set_option maxHeartbeats 1000000 in
theorem dis_any (s : ByteArray) (w : World) (hs : s.size ≤ 1000) : Calls Tryz.prog 95 #[.string s] w fun e w' => e = .returned (.bool (decide ((pathSpot (bs s)).1 = 0))) ∧ Below w.heap.size w w' := by
  have hpt := fun W => refPath_any s W (by omega)
  simp only [spotV] at hpt
  generalize pathSpot (bs s) = se at *
  obtain ⟨e1, e2⟩ := se
  simp only at hpt ⊢
  have hf0 := field0R
  go_enter Tryz.func95, Tryz.ntmps95
  go_wp2_with (go_at_call 28; refine (hpt _).mono ?_; clear hpt; rintro e w2 ⟨rfl, hB2⟩)
  go_ret
  refine ⟨?_, hB2⟩
  simp only [Ending.returned.injEq]
  by_cases h : e1 = 0
  · subst h; rfl
  · rw [decide_eq_false h]
    simp
    omega
set_option maxRecDepth 100000 in
set_option maxHeartbeats 1000000 in
theorem dwrong_any (s : ByteArray) (w : World) (hs : s.size ≤ 1000) : Calls Tryz.prog 72 #[.string s] w fun e w' => e = .returned (.bool (!decide ((pathSpot (bs s)).1 = 0))) ∧ Below w.heap.size w w' := by
  have hpt := dis_any s w hs
  generalize decide ((pathSpot (bs s)).1 = 0) = d at *
  go_enter Tryz.func72, Tryz.ntmps72
  go_wp2_with (go_at_call 95; refine hpt.mono ?_; clear hpt; rintro e w2 ⟨rfl, hB2⟩)
  go_ret
  exact ⟨rfl, hB2⟩
theorem decP_num {b : List UInt8} {X k : Nat} (hn : num b = ((X : Int), k, 0)) : decP b = chgsR X b k 0 [] := by
  unfold decP uintR
  rw [List.drop_zero, hn]
  simp
theorem decRf_bad {b : List UInt8} (h : (num b).2.2 ≠ 0) : decRf b = none := by
  have hd : decP b = ([], 0, (num b).2.2) := by
    unfold decP uintR
    rw [List.drop_zero, if_neg (by simp), if_neg h]
    rfl
  unfold decRf
  rw [hd, if_neg (fun hh => h hh.1)]
theorem decRf_zero {b : List UInt8} {k : Nat} (hn : num b = ((0 : Int), k, 0)) : decRf b = none := by
  have hd : decP b = ([], k, 0) := decP_num (X := 0) hn
  unfold decRf
  rw [hd, if_neg (fun hh => hh.2.2 rfl)]
theorem decRf_err {b : List UInt8} (h : (decP b).2.2 ≠ 0) : decRf b = none := by
  unfold decRf
  rw [if_neg (fun hh => h hh.1)]
theorem decRf_many {b : List UInt8} {X k : Nat} (hn : num b = ((X : Int), k, 0)) (h : b.length < X) : decRf b = none := by
  by_cases he : (decP b).2.2 = 0
  · rw [decP_num hn] at he
    have hk : k ≤ b.length := by have := num_le b; rw [hn] at this; exact this
    have := chgsR_len X b k [] hk he
    omega
  · exact decRf_err he
theorem chg_snoc {g : List UInt8 → Int} {acc : List Ch} (x : Ch) (h : errFrom g (fun _ => false) acc = 0) : errFrom g (fun _ => false) (acc ++ [x]) = if (pathSpot (bs x.1)).1 ≠ 0 then ((pathSpot (bs x.1)).1 : Int) else if bs x.1 = [] then 2 else if ahR acc x.1 = true then 5 else if x.2 = 0 ∧ g (bs x.1) = 0 then 4 else 0 := by
  rw [errFrom_snoc g x acc _ h]
  unfold chgErr
  have e : (false || acc.any fun y => bs x.1 == bs y.1) = ahR acc x.1 := by
    unfold ahR
    rw [Bool.false_or]
    congr 1
    funext y
    rw [Bool.beq_eq_decide_eq]
    by_cases h : bs x.1 = bs y.1
    · rw [decide_eq_true h, decide_eq_true h.symm]
    · rw [decide_eq_false h, decide_eq_false (fun e => h e.symm)]
  have e' : (fun k => false || acc.any fun y => k == bs y.1) (bs x.1) = ahR acc x.1 := e
  rw [e']
/-- what stands while the document reads a record -/
structure RR (w W : World) (a : Option Addr) (n c : Nat) (la : Option Addr) (lc : Nat) (acc : List Ch) : Prop where
  bel : Below w.heap.size w W
  br : Boxed W w.heap.size tR (.slice a n c)
  b1 : Boxed W (w.heap.size + 1) tR (.slice none 0 0)
  row : W.ownsRow (w.heap.size + 2) 38 2 (.slice la acc.length lc) acc.length (chCells acc)
theorem RR.below {w W W' : World} {a : Option Addr} {n c : Nat} {la : Option Addr} {lc : Nat} {acc : List Ch} (h : RR w W a n c la lc acc) (hB : Below W.heap.size W W') : RR w W' a n c la lc acc :=
  ⟨h.bel.trans (hB.mono h.bel.size), (hB.block _ h.br.lt).trans h.br, (hB.block _ h.b1.lt).trans h.b1, row_movedC h.row (fun g hg => hB.block g (row_blockC h.row g hg).2)⟩
theorem RR.push {w W W' : World} {a : Option Addr} {n c : Nat} {la la' : Option Addr} {lc lc' t : Nat} {acc : List Ch} {x : Ch} {o : Obj} (h : RR w W a n c la lc acc) (ht : acc.length = t) (ho : W'.ownsRow (w.heap.size + 2) 38 2 (.slice la' (t + 1) lc') (t + 1) (chCells acc ++ chCells [x])) (hg : (W.alloc o).grownBy W' (Value.slice la t lc).ownBlock) : RR w W' a n c la' lc' (acc ++ [x]) := by
  subst ht
  have hBa : Below W.heap.size W (W.alloc o) := (Below.refl _ W).alloc (Nat.le_refl _) o
  have ha := h.below hBa
  have hT : Turn (fun k => (Value.slice la acc.length lc).ownBlock = some k) (W.alloc o) W' := Turn.of_grownBy hg (fun k e => .inl e)
  have hrb := fun g e => row_blockC h.row g e
  have nb : ∀ k, k < w.heap.size + 2 → (Value.slice la acc.length lc).ownBlock ≠ some k := fun k hk e => by have := (hrb k e).1; omega
  exact ⟨ha.bel.trans (hT.below ha.bel.size (fun k hk => by have := (hrb k hk).1; omega)), (hT.block _ ha.br.lt (nb _ (by omega))).trans ha.br, (hT.block _ ha.b1.lt (nb _ (by omega))).trans ha.b1, by rw [chCells_append, List.length_append]; exact ho⟩
/-- a change in block cb -/
def CAt (W : World) (cb : Nat) (nm : ByteArray) (iv : Int) : Prop := W.heap[cb]? = some (.cells #[.string nm, .int .u64 iv] 38)
theorem CAt.lt {W : World} {cb : Nat} {nm : ByteArray} {iv : Int} (h : CAt W cb nm iv) : cb < W.heap.size := (Array.getElem?_eq_some_iff.1 h).1
theorem CAt.cells {W : World} {cb : Nat} {nm : ByteArray} {iv : Int} (h : CAt W cb nm iv) : W.cell? ⟨cb, 0, none⟩ = some (.string nm) ∧ W.cell? ⟨cb, 1, none⟩ = some (.int .u64 iv) := two_cells h
theorem CAt.frozen {W : World} {cb : Nat} {nm : ByteArray} {iv : Int} (h : CAt W cb nm iv) : W.frozen? ⟨cb, 1, none⟩ = false := by
  simp [World.frozen?, show W.heap[cb]? = _ from h]
theorem CAt.set {W : World} {cb : Nat} {nm : ByteArray} {iv : Int} (h : CAt W cb nm iv) (v : Int) : CAt (W.setCell ⟨cb, 1, none⟩ (.int .u64 v)) cb nm v := by
  unfold CAt
  simp [World.setCell, Array.getElem?_modify, show W.heap[cb]? = _ from h]
theorem CAt.below {W W' : World} {cb : Nat} {nm : ByteArray} {iv : Int} (h : CAt W cb nm iv) (hB : Below W.heap.size W W') : CAt W' cb nm iv := (hB.block _ h.lt).trans h
/-- how it ends where there is none -/
theorem RR.bad {w W : World} {a : Option Addr} {n c : Nat} {la : Option Addr} {lc : Nat} {acc : List Ch} (h : RR w W a n c la lc acc) : Below w.heap.size w (W.setCell ⟨w.heap.size + 1, 0, none⟩ (.slice a n c)) ∧ (W.setCell ⟨w.heap.size + 1, 0, none⟩ (.slice a n c)).cell? ⟨w.heap.size + 1, 0, none⟩ = some (.slice a n c) :=
  ⟨h.bel.setCell (p := ⟨w.heap.size + 1, 0, none⟩) (by simp) _, (h.b1.set _).cell⟩
/-- what stands while the document lays the changes -/
structure RW (w W : World) (a : Option Addr) (n c : Nat) (la : Option Addr) (lc : Nat) (acc : List Ch) (ob : Nat) (L : List Ch) (oa : Option Addr) (oc : Nat) (O : List Ch) : Prop where
  rr : RR w W a n c la lc acc
  bo : Boxed W ob tR (.slice oa O.length oc)
  och : Chs W oa O.length O
  oq : (oa = a ∧ O = L) ∨ ∀ y, oa = some y → w.heap.size + 2 ≤ y.block ∧ y.block < W.heap.size ∧ y.block ≠ ob
  obw : w.heap.size + 2 ≤ ob
  rob : ∀ z, (Value.slice la acc.length lc).ownBlock = some z → z ≠ ob
theorem RW.step {w W W' : World} {a : Option Addr} {n c : Nat} {la : Option Addr} {lc : Nat} {acc : List Ch} {ob : Nat} {L : List Ch} {oa ad : Option Addr} {oc cp : Nat} {O O' : List Ch} (h : RW w W a n c la lc acc ob L oa oc O) (hB : Below W.heap.size W W') (ho : W'.ownsRow W.heap.size 38 2 (.slice ad O'.length cp) O'.length (chCells O')) : RW w (W'.setCell ⟨ob, 0, none⟩ (.slice ad O'.length cp)) a n c la lc acc ob L ad cp O' := by
  have hr := h.rr.below hB
  have hT : Turn (fun k => k = ob) W' (W'.setCell ⟨ob, 0, none⟩ (.slice ad O'.length cp)) := turn_setCell W' _ 0 _
  have hbo : Boxed W' ob tR (.slice oa O.length oc) := (hB.block _ h.bo.lt).trans h.bo
  have hob := h.bo.lt
  have how := h.obw
  have hs := h.rr.bel.size
  have hb : ∀ y, ad = some y → W.heap.size ≤ y.block ∧ y.block < W'.heap.size := fun y hy => by
    subst hy
    rcases ho.2 with ⟨e, _⟩ | ⟨g, cap, cur, e, hg, hb, _⟩
    · cases e
    · cases e; exact ⟨hg, (Array.getElem?_eq_some_iff.1 hb).1⟩
  have hb1 := h.rr.b1.lt
  refine ⟨⟨hr.bel.trans (hT.below hr.bel.size (fun k hk => by omega)), (hT.block _ hr.br.lt (by omega)).trans hr.br, (hT.block _ hr.b1.lt (by omega)).trans hr.b1, row_movedC hr.row (fun z hz => hT.block z (row_blockC hr.row z hz).2 (h.rob z hz))⟩, hbo.set _, (own_chs ho rfl).turn hT (fun y hy e => by have := (hb y hy).1; omega), .inr (fun y hy => ⟨by have := (hb y hy).1; omega, Nat.lt_of_lt_of_le (hb y hy).2 hT.size, by have := (hb y hy).1; omega⟩), h.obw, h.rob⟩
/-- how it ends -/
def RRead (w w' : World) (a : Option Addr) (L : List Ch) (D : Option (List Ch)) (e : Ending) : Prop :=
  Below w.heap.size w w' ∧ ∃ oa on oc, e = .returned (.tuple #[.agg #[.slice oa on oc], .bool D.isSome]) ∧ ∀ l, D = some l → on = (l.foldl withR L).length ∧ Chs w' oa on (l.foldl withR L) ∧ ∀ y, oa = some y → a = some y ∨ (w.heap.size ≤ y.block ∧ y.block < w'.heap.size)
theorem RRead.drew {w W : World} {a : Option Addr} {L : List Ch} {D : Option (List Ch)} {e : Ending} (h : RRead w W a L D e) : RRead w W.drew a L D e := by
  obtain ⟨hB, oa, on, oc, he, hl⟩ := h
  exact ⟨hB.trans ⟨rfl, rfl, rfl, Nat.le_refl _, fun _ _ => rfl⟩, oa, on, oc, he, fun l h => ⟨(hl l h).1, (hl l h).2.1, (hl l h).2.2⟩⟩
theorem RR.none {w W : World} {a : Option Addr} {c : Nat} {la : Option Addr} {lc : Nat} {acc L : List Ch} {D : Option (List Ch)} (h : RR w W a L.length c la lc acc) (hD : D = none) : RRead w (W.setCell ⟨w.heap.size + 1, 0, none⟩ (.slice a L.length c)) a L D (.returned (.tuple #[.agg #[.slice a L.length c], .bool false])) := by
  subst hD
  exact ⟨h.bad.1, a, L.length, c, rfl, fun l hl => by cases hl⟩

theorem RW.fin {w W : World} {a : Option Addr} {c : Nat} {la : Option Addr} {lc : Nat} {acc : List Ch} {ob : Nat} {L : List Ch} {oa : Option Addr} {oc : Nat} {O : List Ch} {D : Option (List Ch)} {z : Bool} (h : RW w W a L.length c la lc acc ob L oa oc O) (hL : Chs w a L.length L) (hO : O = acc.foldl withR L) (hD : D = if z = true then some acc else none) :
    RRead w (W.setCell ⟨w.heap.size + 1, 0, none⟩ (.slice oa O.length oc)) a L D (.returned (.tuple #[.agg #[.slice oa O.length oc], .bool z])) ∧ (W.setCell ⟨w.heap.size + 1, 0, none⟩ (.slice oa O.length oc)).cell? ⟨w.heap.size + 1, 0, none⟩ = some (.slice oa O.length oc) := by
  have hT : Turn (fun k => k = w.heap.size + 1) W (W.setCell ⟨w.heap.size + 1, 0, none⟩ (.slice oa O.length oc)) := turn_setCell W _ 0 _
  have hB : Below w.heap.size w (W.setCell ⟨w.heap.size + 1, 0, none⟩ (.slice oa O.length oc)) := h.rr.bel.trans (hT.below h.rr.bel.size (fun k hk => by omega))
  refine ⟨⟨hB, oa, O.length, oc, by rw [hD]; cases z <;> rfl, fun l hl => ?_⟩, (h.rr.b1.set _).cell⟩
  have hz : z = true ∧ acc = l := by
    rw [hD] at hl
    cases z with
    | true => exact ⟨rfl, Option.some.inj hl⟩
    | false => cases hl
  obtain ⟨rfl, rfl⟩ := hz
  rw [← hO]
  rcases h.oq with ⟨e1, e2⟩ | hq
  · subst e1 e2
    exact ⟨rfl, hL.kept hB, fun y hy => .inl hy⟩
  · exact ⟨rfl, h.och.turn hT (fun y hy e => by have := (hq y hy).1; omega), fun y hy => .inr ⟨by have := (hq y hy).1; omega, Nat.lt_of_lt_of_le (hq y hy).2.1 hT.size⟩⟩

set_option maxRecDepth 100000 in
set_option maxHeartbeats 8000000 in
theorem dread_any (w : World) (a : Option Addr) (c : Nat) (L : List Ch) (hL : Chs w a L.length L) (g : List UInt8 → Int) (N : Nat) (hA : AllR g N L) (hn : L.length ≤ 1000) (ba : Option Addr) (bn bc : Nat) (b : List UInt8) (hb : Bytes w ba bn b) (hbc : bn < bc) (hbm : bc ≤ maxLen) (hbn : bn ≤ 100000) :
    Calls Tryz.prog 44 #[.agg #[.slice a L.length c], .slice ba bn bc] w fun e w' => RRead w w' a L (docR g N b) e := by
  have hbl := hb.1
  obtain ⟨i0, hi, hz0, hz1, hz2⟩ := info_parts infoRef
  obtain ⟨D, hD⟩ : ∃ D, D = docR g N b := ⟨_, rfl⟩
  rw [← hD]
  have HG : Hid (D = docR g N b ∧ Chs w a L.length L ∧ AllR g N L ∧ Bytes w ba bn b) := ⟨hD, hL, hA, hb⟩
  have hbm' : bc ≤ 9223372036854775807 := by unfold maxLen at hbm; omega
  obtain ⟨w2, hw2⟩ : ∃ w2, w2 = (w.alloc (.cells #[.slice a L.length c] 32)).alloc (.cells #[.slice none 0 0] 32) := ⟨_, rfl⟩
  have H2 : Hid (RR w w2 a L.length c none 0 []) := by
    have s1 : (w.alloc (.cells #[.slice a L.length c] 32)).heap.size = w.heap.size + 1 := by simp
    have hB : Below w.heap.size w w2 := by rw [hw2]; exact ((Below.refl _ w).alloc (Nat.le_refl _) _).alloc (by simp) _
    refine ⟨hB, by rw [hw2]; exact (Boxed.new w _ _).alloc _, ?_, World.ownsRow_nil _ _ _ _⟩
    have := Boxed.new (w.alloc (.cells #[.slice a L.length c] 32)) tR (.slice none 0 0)
    rw [s1] at this
    rw [hw2]; exact this
  have hnm := number_any ba bn bc b w2 ((Turn.of_below (fun _ => False) H2.out.bel).bytes hb (fun _ _ _ => id)) (by unfold maxLen; omega)
  obtain ⟨x, k, e0, hnum⟩ : ∃ x k e, num b = (x, k, e) := ⟨_, _, _, rfl⟩
  have HN : Hid (num b = (x, k, e0)) := hnum
  have hfits := num_fits b
  have hle := num_le b
  rw [hnum] at hnm hfits hle
  simp only at hnm hfits hle
  rw [hbl] at hle
  have r2 := H2.out.br.cell
  have r3 := H2.out.b1.cell
  have f3 := H2.out.b1.frozen
  clear hnum hD hL hA hb hbm
  go_enter Tryz.func44, Tryz.ntmps44
  by_cases he : e0 = 0
  · subst he
    obtain ⟨X, rfl⟩ : ∃ X : Nat, x = (X : Int) := ⟨x.toNat, by omega⟩
    by_cases hX0 : X = 0
    · subst hX0
      have HF : Hid (D = none) := (by rw [HG.out.1]; exact docR_none (decRf_zero HN.out) : D = none)
      go_wp2_with (rw [← hw2]; clear hw2; go_at_call 71; refine hnm.mono ?_; clear hnm; rintro e w3 ⟨rfl, h3⟩; subst h3)
      exact bodyPost_ret (v := .tuple #[.agg #[.slice a L.length c], .bool false]) (by simp [results, Tryz.results44, go_sem, H2.out.bad.2]) rfl (H2.out.none HF.out)
    · have hX0' : ((X : Int) == 0) = false := beq_eq_false_iff_ne.2 (by omega)
      by_cases hXm : bn < X
      · have i1 : (bn : Int) < (X : Int) := by omega
        have HF : Hid (D = none) := (by rw [HG.out.1]; exact docR_none (decRf_many HN.out (by rw [hbl]; exact hXm)) : D = none)
        go_wp2_with (rw [← hw2]; clear hw2; go_at_call 71; refine hnm.mono ?_; clear hnm; rintro e w3 ⟨rfl, h3⟩; subst h3)
        exact bodyPost_ret (v := .tuple #[.agg #[.slice a L.length c], .bool false]) (by simp [results, Tryz.results44, go_sem, H2.out.bad.2]) rfl (H2.out.none HF.out)
      · have i1 : ¬ (bn : Int) < (X : Int) := by omega
        obtain ⟨bb, bo, rfl, _⟩ := HG.out.2.2.2.2 (by omega)
        have i2 : (k : Int) ≤ (bn : Int) := by omega
        have i3 : k < bc := by omega
        have i4 : (bn : Int) ≤ (bc : Int) := by omega
        have hkn : k ≤ bn := hle
        have HDP : Hid (decP b = chgsR X b k 0 []) := (decP_num HN.out : decP b = chgsR X b k 0 [])
        go_wp2_with (rw [← hw2]; clear hw2; go_at_call 71; refine hnm.mono ?_; clear hnm; rintro e w3 ⟨rfl, h3⟩; subst h3)
        clear i1 i2 i3 i4 r2 r3 f3 hle hfits
        go_loopw [9, 10, 11] (fun v9 v10 v11 wr => ∃ (t p : Nat) (la : Option Addr) (lc : Nat) (acc : List Ch), t ≤ X ∧ p ≤ bn ∧ v11 = .int .i64 (t : Int) ∧ v9 = .slice (some ⟨bb, bo + p, none⟩) (bn - p) (bc - p) ∧ v10 = .slice la t lc ∧ Hid (RR w wr a L.length c la lc acc ∧ acc.length = t ∧ decP b = chgsR (X - t) b p 0 acc ∧ errFrom g (fun _ => false) acc = 0)) (fun _ _ v11 _ => X - (intOf v11).toNat)
        case atStart => exact ⟨0, k, none, 0, [], Nat.zero_le _, hkn, rfl, rfl, rfl, H2.out, rfl, HDP.out, rfl⟩
        case round =>
          clear H2 HDP
          obtain ⟨t, p, la, lc, acc, htX, hpn, rfl, rfl, rfl, H⟩ := hrel
          have hxx : (X : Int) ≤ 4194304 := by omega
          by_cases htl : t < X
          · have j1 : (t : Int) < (X : Int) := by omega
            have hbp : Bytes wr (some ⟨bb, bo + p, none⟩) (bn - p) (b.drop p) := (Turn.of_below (fun _ => False) H.out.1.bel).bytes (fwd' HG.out.2.2.2 p hpn) (fun _ _ _ => id)
            have hnm := number_any (some ⟨bb, bo + p, none⟩) (bn - p) (bc - p) (b.drop p) wr hbp (by unfold maxLen; omega)
            obtain ⟨y, k1, e1, hnum⟩ : ∃ y k1 e1, num (b.drop p) = (y, k1, e1) := ⟨_, _, _, rfl⟩
            have HN1 : Hid (num (b.drop p) = (y, k1, e1)) := hnum
            have hfits := num_fits (b.drop p)
            have hle := num_le (b.drop p)
            rw [hnum] at hnm hfits hle
            simp only at hnm hfits hle
            rw [hbp.1] at hle
            have r2 := H.out.1.br.cell
            have r3 := H.out.1.b1.cell
            have f3 := H.out.1.b1.frozen
            have HXt : Hid (X - t = (X - t - 1) + 1 ∧ b.length = bn) := ⟨by omega, hbl⟩
            have HNO : Hid (chg1 b p = none → D = none) := fun hc => by
              rw [HG.out.1]
              refine docR_none (decRf_err ?_)
              rw [H.out.2.2.1, HXt.out.1]
              exact chgsR_none hc
            clear hnum hbp
            by_cases he : e1 = 0
            · subst he
              obtain ⟨Y, rfl⟩ : ∃ Y : Nat, y = (Y : Int) := ⟨y.toNat, by omega⟩
              have HC : Hid (chg1 b p = if Y ≤ 200 ∧ k1 + Y + 8 ≤ bn - p then some ((⟨((b.drop (p + k1)).take Y).toArray⟩, wideVal ((b.drop (p + k1 + Y)).take 8) 8), p + k1 + Y + 8) else none) := by
                have := chg1_of HN1.out (by rw [HXt.out.2]; exact hle)
                rw [HXt.out.2] at this
                exact this
              by_cases hY : Y ≤ 200
              · have j2 : ¬ (200 : Int) < (Y : Int) := by omega
                by_cases hsp : k1 + Y + 8 ≤ bn - p
                · rw [if_pos ⟨hY, hsp⟩] at HC
                  have j3 : ¬ ((bn - p : Nat) : Int) < (k1 : Int) + (Y : Int) + 8 := by omega
                  have hb1 : Bytes wr (some ⟨bb, bo + p + k1, none⟩) Y ((b.drop (p + k1)).take Y) := by
                    have h1 := (fwd' ((Turn.of_below (fun _ => False) H.out.1.bel).bytes (fwd' HG.out.2.2.2 p hpn) (fun _ _ _ => id)) k1 hle).take Y (by omega)
                    rw [List.drop_drop] at h1
                    exact h1
                  have hb8 : Bytes wr (some ⟨bb, bo + p + (k1 + Y), none⟩) 8 ((b.drop (p + k1 + Y)).take 8) := by
                    have h1 := (fwd' ((Turn.of_below (fun _ => False) H.out.1.bel).bytes (fwd' HG.out.2.2.2 p hpn) (fun _ _ _ => id)) (k1 + Y) (by omega)).take 8 (by omega)
                    have e : b.drop (p + (k1 + Y)) = b.drop (p + k1 + Y) := by rw [Nat.add_assoc]
                    rw [List.drop_drop, e] at h1
                    exact h1
                  obtain ⟨nm, hnmE⟩ : ∃ nm : ByteArray, nm = ⟨((b.drop (p + k1)).take Y).toArray⟩ := ⟨_, rfl⟩
                  obtain ⟨q8, hq8⟩ : ∃ q8, q8 = (b.drop (p + k1 + Y)).take 8 := ⟨_, rfl⟩
                  have hr1 := run_string wr (some ⟨bb, bo + p + k1, none⟩) Y (bc - p - k1) _ hb1
                  rw [← hnmE] at hr1 HC
                  rw [← hq8] at hb8 HC
                  have hnsz : nm.size ≤ 200 := by
                    have h1 := hb1.1
                    rw [hnmE]
                    show (((b.drop (p + k1)).take Y).toArray).size ≤ 200
                    rw [List.size_toArray, h1]; exact hY
                  have HB8 : Hid (Bytes wr (some ⟨bb, bo + p + (k1 + Y), none⟩) 8 q8) := hb8
                  have j4 : k1 < bc - p := by omega
                  have j5 : k1 + Y < bc - p := by omega
                  have j6 : k1 + Y + 8 ≤ bc - p := by omega
                  clear hb1 hb8 hnmE hq8 HNO hY
                  go_wp2_with (go_at_call 71; refine hnm.mono ?_; clear hnm; rintro e w3 ⟨rfl, h3⟩; subst h3)
                  obtain ⟨w4, hw4⟩ : ∃ w4, w4 = w3.alloc (.cells #[.string nm, .int .u64 0] 38) := ⟨_, rfl⟩
                  have B4 : Below w3.heap.size w3 w4 := by rw [hw4]; exact (Below.refl _ _).alloc (Nat.le_refl _) _
                  have C4 : CAt w4 w3.heap.size nm (wideVal q8 0) := by rw [hw4]; exact World.alloc_heap_new w3 _
                  obtain ⟨cb, hcb⟩ : ∃ cb, cb = w3.heap.size := ⟨_, rfl⟩
                  have H4 : Hid (RR w w4 a L.length c la lc acc ∧ CAt w4 cb nm (wideVal q8 0) ∧ Bytes w4 (some ⟨bb, bo + p + (k1 + Y), none⟩) 8 q8 ∧ cb < w4.heap.size ∧ bb ≠ cb ∧ ∀ z, (Value.slice la acc.length lc).ownBlock = some z → z < cb) := by
                    have hbb : bb < w.heap.size := by
                      obtain ⟨b', o', e, hc⟩ := HG.out.2.2.2.2 (by omega)
                      cases e
                      exact World.block_lt_of_cell? w _ (hc 0 (by omega))
                    have hs := H.out.1.bel.size
                    refine ⟨H.out.1.below B4, by rw [hcb]; exact C4, (Turn.of_below (fun _ => False) B4).bytes HB8.out (fun _ _ _ => id), by rw [hcb]; exact C4.lt, by omega, fun z hz => by rw [hcb]; exact (row_blockC H.out.1.row z hz).2⟩
                  rw [← hw4, ← hcb]
                  have HT4 : Hid (acc.length = t ∧ decP b = chgsR (X - t) b p 0 acc ∧ errFrom g (fun _ => false) acc = 0) := H.out.2
                  have HCB : Hid (w.heap.size + 2 ≤ cb) := (by rw [hcb]; have := H.out.1.b1.lt; omega : w.heap.size + 2 ≤ cb)
                  clear hw4 B4 C4 hcb H HB8 r2 r3 f3 hr1
                  go_loopw [94] (fun q W => ∃ i : Nat, i ≤ 8 ∧ q = .int .i64 (i : Int) ∧ Hid (CAt W cb nm (wideVal q8 i) ∧ Turn (fun z => z = cb) w4 W)) (fun q _ => 8 - (intOf q).toNat)
                  case atStart => exact ⟨0, Nat.zero_le _, rfl, H4.out.2.1, Turn.refl _ _⟩
                  case round =>
                    obtain ⟨i, hi8, rfl, HI⟩ := hrel
                    by_cases hil : i < 8
                    · obtain ⟨b', o', e', hc8⟩ := H4.out.2.2.1.2 (by omega)
                      cases e'
                      have q1 := HI.out.2.cell (hc8 i hil) H4.out.2.2.2.2.1
                      have c1 := HI.out.1.cells.2
                      have f1 := HI.out.1.frozen
                      have b0 := bt_lo q8 i
                      have b1 := bt_hi q8 i
                      have h0 := wideVal_lo q8 i
                      have h1 := wideVal_7 q8 i (by omega)
                      have HS2 : Hid (bits BinOp.or IntKind.u64 (wideVal q8 i * 256) (bt q8 i) = wideVal q8 (i + 1)) := by rw [shl8 _ _ h0 h1 b0 b1]; rfl
                      have l1 : (i : Int) < 8 := by omega
                      have l2 : ¬ 8 ≤ i := by omega
                      have HM : Hid (8 - (intOf (Value.int .i64 ((i : Int) + 1))).toNat < 8 - (intOf (Value.int .i64 (i : Int))).toNat) := (by simp [intOf]; omega : 8 - (intOf (Value.int .i64 ((i : Int) + 1))).toNat < 8 - (intOf (Value.int .i64 (i : Int))).toNat)
                      clear hc8
                      go_wp2_with fail
                      rw [HS2.out]
                      exact ⟨⟨i + 1, by omega, by simp, HI.out.1.set _, HI.out.2.trans (turn_setCell _ cb 1 _) (fun _ _ e => e)⟩, HM.out⟩
                    · obtain rfl : i = 8 := by omega
                      obtain ⟨w5, hw5⟩ : ∃ w5, w5 = wr := ⟨_, rfl⟩
                      subst hw5
                      obtain ⟨iv, hiv⟩ : ∃ iv, iv = wideVal q8 8 := ⟨_, rfl⟩
                      have H5 : Hid (RR w w5 a L.length c la lc acc ∧ CAt w5 cb nm iv) := by
                        have hT := HI.out.2
                        have hs := H4.out.1.bel.size
                        have hcw : w.heap.size + 2 ≤ cb := HCB.out
                        refine ⟨⟨H4.out.1.bel.trans (hT.below hs (fun z hz => by omega)), (hT.block _ H4.out.1.br.lt (by omega)).trans H4.out.1.br, (hT.block _ H4.out.1.b1.lt (by omega)).trans H4.out.1.b1, row_movedC H4.out.1.row (fun z hz => hT.block z (row_blockC H4.out.1.row z hz).2 (fun e => by have := H4.out.2.2.2.2.2 z hz; omega))⟩, by rw [hiv]; exact HI.out.1⟩
                      have HZ : Hid (∀ z, (Value.slice la acc.length lc).ownBlock = some z → z < cb) := H4.out.2.2.2.2.2
                      have hr5 : (w5.alloc (.cells #[.string nm, .int .u64 iv] 38)).ownsRow (w.heap.size + 2) 38 2 (.slice la t lc) t (chCells acc) := by
                        have := H5.out.1.row.alloc (.cells #[.string nm, .int .u64 iv] 38)
                        rw [HT4.out.1] at this
                        exact this
                      have HP5 : Hid (∀ (w6 : World) (ad6 : Option Addr) (c6 : Nat), w6.ownsRow (w.heap.size + 2) 38 2 (.slice ad6 (t + 1) c6) (t + 1) (chCells acc ++ chCells [(nm, iv)]) → (w5.alloc (.cells #[.string nm, .int .u64 iv] 38)).grownBy w6 (Value.slice la t lc).ownBlock → RR w w6 a L.length c ad6 c6 (acc ++ [(nm, iv)]) ∧ CAt w6 cb nm iv) := fun w6 ad6 c6 ho hg => by
                        refine ⟨H5.out.1.push HT4.out.1 ho hg, ?_⟩
                        have hca : CAt (w5.alloc (.cells #[.string nm, .int .u64 iv] 38)) cb nm iv := H5.out.2.below ((Below.refl _ w5).alloc (Nat.le_refl _) _)
                        refine (hg.block cb hca.lt (fun e => ?_)).trans hca
                        have := HZ.out cb (by rw [HT4.out.1]; exact e.symm)
                        omega
                      have hbs5 : w.heap.size + 2 ≤ w5.heap.size := by have := H5.out.1.b1.lt; omega
                      have HER : Hid (errFrom g (fun _ => false) (acc ++ [(nm, iv)]) = if (pathSpot (bs nm)).1 ≠ 0 then ((pathSpot (bs nm)).1 : Int) else if bs nm = [] then 2 else if ahR acc nm = true then 5 else if iv = 0 ∧ g (bs nm) = 0 then 4 else 0) := chg_snoc (nm, iv) HT4.out.2.2
                      rw [← hiv] at HC
                      have HNX : Hid (decP b = chgsR (X - (t + 1)) b (p + k1 + Y + 8) 0 (acc ++ [(nm, iv)])) := by
                        show _ = _
                        rw [HT4.out.2.1, HXt.out.1, chgsR_some HC.out]
                        congr 1
                      have HBAD : Hid (errFrom g (fun _ => false) (acc ++ [(nm, iv)]) ≠ 0 → D = none) := fun h => by
                        rw [HG.out.1]
                        refine docR_err ?_ h
                        rw [HNX.out]
                        exact chgsR_pre _ _ _ _ _
                      have HTW : Hid (∀ W ad cp, t + 1 ≤ cp → RR w W a L.length c ad cp (acc ++ [(nm, iv)]) → Calls Tryz.prog 29 #[.slice ad (t + 1) cp, .int .i64 (t : Int)] W fun e w' => e = .returned (.bool (ahR acc nm)) ∧ Below W.heap.size W w') := fun W ad cp hcp hR => by
                        have hla : (acc ++ [(nm, iv)]).length = t + 1 := by rw [List.length_append, HT4.out.1]; rfl
                        have hrw := hR.row
                        rw [hla] at hrw
                        have := dtwice_any W ad (t + 1) cp (acc ++ [(nm, iv)]) (own_chs hrw hla) hcp (by omega) t (nm, iv) (by rw [List.getElem?_append_right (by rw [HT4.out.1]; exact Nat.le_refl _), HT4.out.1]; simp)
                        rw [List.take_append_of_le_length (by rw [HT4.out.1]; exact Nat.le_refl _), List.take_of_length_le (by rw [HT4.out.1]; exact Nat.le_refl _)] at this
                        exact this
                      obtain ⟨gv, hgv⟩ : ∃ gv, gv = g (bs nm) := ⟨_, rfl⟩
                      have HGT : Hid (∀ W ad cp, RR w W a L.length c ad cp (acc ++ [(nm, iv)]) → Calls Tryz.prog 30 #[.agg #[.slice a L.length c], .string nm] W fun e w' => e = .returned (.int .u64 gv) ∧ Below W.heap.size W w') := fun W ad cp hR => by
                        have := dget_any W a L.length c L (HG.out.2.1.kept hR.bel) (by omega) nm
                        rw [HG.out.2.2.1.get, ← hgv] at this
                        exact this
                      rw [← hgv] at HER
                      have hwr := fun W => dwrong_any nm W (by omega)
                      obtain ⟨u0, u1⟩ := H5.out.2.cells
                      have l1 : ¬ ((8 : Nat) : Int) < 8 := by omega
                      have l3 : k1 + Y + 8 < bc - p := by omega
                      have l4 : (k1 : Int) + (Y : Int) + 8 ≤ ((bn - p : Nat) : Int) := by omega
                      have hem : Hid (bs nm = [] ↔ nm.size = 0) := ⟨fun e => by have := bs_len nm; rw [e] at this; simpa using this.symm, fun e => List.eq_nil_of_length_eq_zero (by rw [bs_len]; exact e)⟩
                      clear HI H4 H5 HZ hgv hiv HC
                      generalize (pathSpot (bs nm)).1 = sp at *
                      by_cases h2 : nm.size = 0
                      · have HF : Hid (D = none) := HBAD.out (by
                          rw [HER.out]
                          by_cases h1 : sp = 0
                          · rw [if_neg (not_not_intro h1), if_pos (hem.out.2 h2)]; decide
                          · rw [if_pos h1]; omega)
                        have h2e : nm.toList.isEmpty = true := by
                          rw [ByteArray.toList_eq]
                          have : bs nm = [] := hem.out.2 h2
                          show (bs nm).isEmpty = true
                          rw [this]; rfl
                        clear hem h2 hwr HTW HGT HER
                        go_wp2_with first
                          | (at_builtin; refine wpList_append_own _ rfl _ _ 30 rfl (w.heap.size + 2) 38 i0 _ 2 24 Tryz.underlying30 hi hz0 hz1 hz2 rfl (by decide) _ t _ rfl hr5 ⟨w5.heap.size, 0, none⟩ 1 1 (chCells [(nm, iv)]) rfl rfl (cells_two_new w5 (nm, iv)) (chCells_one _) (by unfold maxLen; omega) (by omega) (by simp; omega) ?_; intro v6 w6 ho6 hg6 _; obtain ⟨ad6, c6, hv6, hnc6, _⟩ := row_shapeC ho6; subst hv6; have H6 : Hid (RR w w6 a L.length c ad6 c6 (acc ++ [(nm, iv)]) ∧ CAt w6 cb nm iv) := HP5.out w6 ad6 c6 ho6 hg6; obtain ⟨d0, d1⟩ := H6.out.2.cells; have r2 := H6.out.1.br.cell; have r3 := H6.out.1.b1.cell; have f3 := H6.out.1.b1.frozen; clear ho6 hg6 hr5 u0 u1)
                        exact bodyPost_ret (v := .tuple #[.agg #[.slice a L.length c], .bool false]) (by simp [results, Tryz.results44, go_sem, H6.out.1.bad.2]) rfl (H6.out.1.none HF.out)
                      · have h2' : nm.toList.isEmpty = false := by
                          have h : (nm.toList == (⟨#[]⟩ : ByteArray).toList) = false := by
                            rw [str_beq]
                            exact decide_eq_false (fun e => h2 (hem.out.1 e))
                          rw [show (⟨#[]⟩ : ByteArray).toList = [] from by simp] at h
                          simpa using h
                        have h2'' : ¬ bs nm = [] := fun e => h2 (hem.out.1 e)
                        by_cases h1 : sp = 0
                        · subst h1
                          rw [decide_eq_true rfl] at hwr
                          simp only [Bool.not_true] at hwr
                          rw [if_neg (by simp), if_neg h2''] at HER
                          cases hah : ahR acc nm with
                          | true =>
                            rw [hah] at HTW HER
                            have HF : Hid (D = none) := HBAD.out (by rw [HER.out, if_pos rfl]; decide)
                            clear HER HGT
                            go_wp2_with first
                              | (at_builtin; refine wpList_append_own _ rfl _ _ 30 rfl (w.heap.size + 2) 38 i0 _ 2 24 Tryz.underlying30 hi hz0 hz1 hz2 rfl (by decide) _ t _ rfl hr5 ⟨w5.heap.size, 0, none⟩ 1 1 (chCells [(nm, iv)]) rfl rfl (cells_two_new w5 (nm, iv)) (chCells_one _) (by unfold maxLen; omega) (by omega) (by simp; omega) ?_; intro v6 w6 ho6 hg6 _; obtain ⟨ad6, c6, hv6, hnc6, _⟩ := row_shapeC ho6; subst hv6; have H6 : Hid (RR w w6 a L.length c ad6 c6 (acc ++ [(nm, iv)]) ∧ CAt w6 cb nm iv) := HP5.out w6 ad6 c6 ho6 hg6; obtain ⟨d0, d1⟩ := H6.out.2.cells; have r2 := H6.out.1.br.cell; have r3 := H6.out.1.b1.cell; have f3 := H6.out.1.b1.frozen; clear ho6 hg6 hr5 u0 u1)
                              | (go_at_call 72; refine (hwr w6).mono ?_; clear hwr; rintro e w7 ⟨rfl, hB7⟩; have H7 : Hid (RR w w7 a L.length c ad6 c6 (acc ++ [(nm, iv)]) ∧ CAt w7 cb nm iv) := ⟨H6.out.1.below hB7, H6.out.2.below hB7⟩; clear d0 d1 r2 r3 f3; obtain ⟨d0, d1⟩ := H7.out.2.cells; have r2 := H7.out.1.br.cell; have r3 := H7.out.1.b1.cell; have f3 := H7.out.1.b1.frozen; clear hB7)
                              | (go_at_call 29; refine (HTW.out w7 ad6 c6 hnc6 H7.out.1).mono ?_; clear HTW; rintro e w8 ⟨rfl, hB8⟩; have H8 : Hid (RR w w8 a L.length c ad6 c6 (acc ++ [(nm, iv)]) ∧ CAt w8 cb nm iv) := ⟨H7.out.1.below hB8, H7.out.2.below hB8⟩; clear d0 d1 r2 r3 f3; obtain ⟨d0, d1⟩ := H8.out.2.cells; have r2 := H8.out.1.br.cell; have r3 := H8.out.1.b1.cell; have f3 := H8.out.1.b1.frozen; clear hB8)
                            exact bodyPost_ret (v := .tuple #[.agg #[.slice a L.length c], .bool false]) (by simp [results, Tryz.results44, go_sem, H8.out.1.bad.2]) rfl (H8.out.1.none HF.out)
                          | false =>
                            rw [hah] at HTW HER
                            simp only [Bool.false_eq_true, if_false] at HER
                            by_cases h4 : iv = 0 ∧ gv = 0
                            · have HF : Hid (D = none) := HBAD.out (by rw [HER.out, if_pos h4]; decide)
                              have h4a : (iv == 0) = true := beq_iff_eq.2 h4.1
                              have h4b : (gv == 0) = true := beq_iff_eq.2 h4.2
                              clear h4
                              clear HER
                              go_wp2_with first
                                | (at_builtin; refine wpList_append_own _ rfl _ _ 30 rfl (w.heap.size + 2) 38 i0 _ 2 24 Tryz.underlying30 hi hz0 hz1 hz2 rfl (by decide) _ t _ rfl hr5 ⟨w5.heap.size, 0, none⟩ 1 1 (chCells [(nm, iv)]) rfl rfl (cells_two_new w5 (nm, iv)) (chCells_one _) (by unfold maxLen; omega) (by omega) (by simp; omega) ?_; intro v6 w6 ho6 hg6 _; obtain ⟨ad6, c6, hv6, hnc6, _⟩ := row_shapeC ho6; subst hv6; have H6 : Hid (RR w w6 a L.length c ad6 c6 (acc ++ [(nm, iv)]) ∧ CAt w6 cb nm iv) := HP5.out w6 ad6 c6 ho6 hg6; obtain ⟨d0, d1⟩ := H6.out.2.cells; have r2 := H6.out.1.br.cell; have r3 := H6.out.1.b1.cell; have f3 := H6.out.1.b1.frozen; clear ho6 hg6 hr5 u0 u1)
                                | (go_at_call 72; refine (hwr w6).mono ?_; clear hwr; rintro e w7 ⟨rfl, hB7⟩; have H7 : Hid (RR w w7 a L.length c ad6 c6 (acc ++ [(nm, iv)]) ∧ CAt w7 cb nm iv) := ⟨H6.out.1.below hB7, H6.out.2.below hB7⟩; clear d0 d1 r2 r3 f3; obtain ⟨d0, d1⟩ := H7.out.2.cells; have r2 := H7.out.1.br.cell; have r3 := H7.out.1.b1.cell; have f3 := H7.out.1.b1.frozen; clear hB7)
                                | (go_at_call 29; refine (HTW.out w7 ad6 c6 hnc6 H7.out.1).mono ?_; clear HTW; rintro e w8 ⟨rfl, hB8⟩; have H8 : Hid (RR w w8 a L.length c ad6 c6 (acc ++ [(nm, iv)]) ∧ CAt w8 cb nm iv) := ⟨H7.out.1.below hB8, H7.out.2.below hB8⟩; clear d0 d1 r2 r3 f3; obtain ⟨d0, d1⟩ := H8.out.2.cells; have r2 := H8.out.1.br.cell; have r3 := H8.out.1.b1.cell; have f3 := H8.out.1.b1.frozen; clear hB8)
                                | (go_at_call 30; refine (HGT.out w8 ad6 c6 H8.out.1).mono ?_; clear HGT; rintro e w9 ⟨rfl, hB9⟩; have H9 : Hid (RR w w9 a L.length c ad6 c6 (acc ++ [(nm, iv)]) ∧ CAt w9 cb nm iv) := ⟨H8.out.1.below hB9, H8.out.2.below hB9⟩; clear d0 d1 r2 r3 f3; obtain ⟨d0, d1⟩ := H9.out.2.cells; have r2 := H9.out.1.br.cell; have r3 := H9.out.1.b1.cell; have f3 := H9.out.1.b1.frozen; clear hB9)
                              exact bodyPost_ret (v := .tuple #[.agg #[.slice a L.length c], .bool false]) (by simp [results, Tryz.results44, go_sem, H9.out.1.bad.2]) rfl (H9.out.1.none HF.out)
                            · rw [if_neg h4] at HER
                              have HM : Hid (X - (intOf (Value.int .i64 ((t : Int) + 1))).toNat < X - (intOf (Value.int .i64 (t : Int))).toNat) := (by simp [intOf]; omega : X - (intOf (Value.int .i64 ((t : Int) + 1))).toNat < X - (intOf (Value.int .i64 (t : Int))).toNat)
                              have HV9 : Hid (Value.slice (some ⟨bb, bo + p + (k1 + Y + 8), none⟩) (bn - p - (k1 + Y + 8)) (bc - p - (k1 + Y + 8)) = Value.slice (some ⟨bb, bo + (p + k1 + Y + 8), none⟩) (bn - (p + k1 + Y + 8)) (bc - (p + k1 + Y + 8)) ∧ t + 1 ≤ X ∧ p + k1 + Y + 8 ≤ bn) := by
                                refine ⟨?_, by omega, by omega⟩
                                rw [show bo + p + (k1 + Y + 8) = bo + (p + k1 + Y + 8) by omega, show bn - p - (k1 + Y + 8) = bn - (p + k1 + Y + 8) by omega, show bc - p - (k1 + Y + 8) = bc - (p + k1 + Y + 8) by omega]
                              by_cases h5 : iv = 0
                              · have h5a : (iv == 0) = true := beq_iff_eq.2 h5
                                have h5b : (gv == 0) = false := beq_eq_false_iff_ne.2 (fun e => h4 ⟨h5, e⟩)
                                clear h4 h5
                                go_wp2_with first
                                  | (at_builtin; refine wpList_append_own _ rfl _ _ 30 rfl (w.heap.size + 2) 38 i0 _ 2 24 Tryz.underlying30 hi hz0 hz1 hz2 rfl (by decide) _ t _ rfl hr5 ⟨w5.heap.size, 0, none⟩ 1 1 (chCells [(nm, iv)]) rfl rfl (cells_two_new w5 (nm, iv)) (chCells_one _) (by unfold maxLen; omega) (by omega) (by simp; omega) ?_; intro v6 w6 ho6 hg6 _; obtain ⟨ad6, c6, hv6, hnc6, _⟩ := row_shapeC ho6; subst hv6; have H6 : Hid (RR w w6 a L.length c ad6 c6 (acc ++ [(nm, iv)]) ∧ CAt w6 cb nm iv) := HP5.out w6 ad6 c6 ho6 hg6; obtain ⟨d0, d1⟩ := H6.out.2.cells; have r2 := H6.out.1.br.cell; have r3 := H6.out.1.b1.cell; have f3 := H6.out.1.b1.frozen; clear ho6 hg6 hr5 u0 u1)
                                  | (go_at_call 72; refine (hwr w6).mono ?_; clear hwr; rintro e w7 ⟨rfl, hB7⟩; have H7 : Hid (RR w w7 a L.length c ad6 c6 (acc ++ [(nm, iv)]) ∧ CAt w7 cb nm iv) := ⟨H6.out.1.below hB7, H6.out.2.below hB7⟩; clear d0 d1 r2 r3 f3; obtain ⟨d0, d1⟩ := H7.out.2.cells; have r2 := H7.out.1.br.cell; have r3 := H7.out.1.b1.cell; have f3 := H7.out.1.b1.frozen; clear hB7)
                                  | (go_at_call 29; refine (HTW.out w7 ad6 c6 hnc6 H7.out.1).mono ?_; clear HTW; rintro e w8 ⟨rfl, hB8⟩; have H8 : Hid (RR w w8 a L.length c ad6 c6 (acc ++ [(nm, iv)]) ∧ CAt w8 cb nm iv) := ⟨H7.out.1.below hB8, H7.out.2.below hB8⟩; clear d0 d1 r2 r3 f3; obtain ⟨d0, d1⟩ := H8.out.2.cells; have r2 := H8.out.1.br.cell; have r3 := H8.out.1.b1.cell; have f3 := H8.out.1.b1.frozen; clear hB8)
                                  | (go_at_call 30; refine (HGT.out w8 ad6 c6 H8.out.1).mono ?_; clear HGT; rintro e w9 ⟨rfl, hB9⟩; have H9 : Hid (RR w w9 a L.length c ad6 c6 (acc ++ [(nm, iv)]) ∧ CAt w9 cb nm iv) := ⟨H8.out.1.below hB9, H8.out.2.below hB9⟩; clear d0 d1 r2 r3 f3; obtain ⟨d0, d1⟩ := H9.out.2.cells; have r2 := H9.out.1.br.cell; have r3 := H9.out.1.b1.cell; have f3 := H9.out.1.b1.frozen; clear hB9)
                                exact ⟨⟨t + 1, p + k1 + Y + 8, ad6, c6, acc ++ [(nm, iv)], HV9.out.2.1, HV9.out.2.2, by simp, HV9.out.1, rfl, H9.out.1, by rw [List.length_append, HT4.out.1]; rfl, HNX.out, HER.out⟩, HM.out⟩
                              · have h5a : (iv == 0) = false := beq_eq_false_iff_ne.2 h5
                                clear h4
                                go_wp2_with first
                                  | (at_builtin; refine wpList_append_own _ rfl _ _ 30 rfl (w.heap.size + 2) 38 i0 _ 2 24 Tryz.underlying30 hi hz0 hz1 hz2 rfl (by decide) _ t _ rfl hr5 ⟨w5.heap.size, 0, none⟩ 1 1 (chCells [(nm, iv)]) rfl rfl (cells_two_new w5 (nm, iv)) (chCells_one _) (by unfold maxLen; omega) (by omega) (by simp; omega) ?_; intro v6 w6 ho6 hg6 _; obtain ⟨ad6, c6, hv6, hnc6, _⟩ := row_shapeC ho6; subst hv6; have H6 : Hid (RR w w6 a L.length c ad6 c6 (acc ++ [(nm, iv)]) ∧ CAt w6 cb nm iv) := HP5.out w6 ad6 c6 ho6 hg6; obtain ⟨d0, d1⟩ := H6.out.2.cells; have r2 := H6.out.1.br.cell; have r3 := H6.out.1.b1.cell; have f3 := H6.out.1.b1.frozen; clear ho6 hg6 hr5 u0 u1)
                                  | (go_at_call 72; refine (hwr w6).mono ?_; clear hwr; rintro e w7 ⟨rfl, hB7⟩; have H7 : Hid (RR w w7 a L.length c ad6 c6 (acc ++ [(nm, iv)]) ∧ CAt w7 cb nm iv) := ⟨H6.out.1.below hB7, H6.out.2.below hB7⟩; clear d0 d1 r2 r3 f3; obtain ⟨d0, d1⟩ := H7.out.2.cells; have r2 := H7.out.1.br.cell; have r3 := H7.out.1.b1.cell; have f3 := H7.out.1.b1.frozen; clear hB7)
                                  | (go_at_call 29; refine (HTW.out w7 ad6 c6 hnc6 H7.out.1).mono ?_; clear HTW; rintro e w8 ⟨rfl, hB8⟩; have H8 : Hid (RR w w8 a L.length c ad6 c6 (acc ++ [(nm, iv)]) ∧ CAt w8 cb nm iv) := ⟨H7.out.1.below hB8, H7.out.2.below hB8⟩; clear d0 d1 r2 r3 f3; obtain ⟨d0, d1⟩ := H8.out.2.cells; have r2 := H8.out.1.br.cell; have r3 := H8.out.1.b1.cell; have f3 := H8.out.1.b1.frozen; clear hB8)
                                exact ⟨⟨t + 1, p + k1 + Y + 8, ad6, c6, acc ++ [(nm, iv)], HV9.out.2.1, HV9.out.2.2, by simp, HV9.out.1, rfl, H8.out.1, by rw [List.length_append, HT4.out.1]; rfl, HNX.out, HER.out⟩, HM.out⟩
                        · have hF' : decide (sp = 0) = false := decide_eq_false h1
                          rw [hF'] at hwr
                          simp only [Bool.not_false] at hwr
                          have HF : Hid (D = none) := HBAD.out (by rw [HER.out, if_pos h1]; omega)
                          clear HER HTW HGT
                          go_wp2_with first
                            | (at_builtin; refine wpList_append_own _ rfl _ _ 30 rfl (w.heap.size + 2) 38 i0 _ 2 24 Tryz.underlying30 hi hz0 hz1 hz2 rfl (by decide) _ t _ rfl hr5 ⟨w5.heap.size, 0, none⟩ 1 1 (chCells [(nm, iv)]) rfl rfl (cells_two_new w5 (nm, iv)) (chCells_one _) (by unfold maxLen; omega) (by omega) (by simp; omega) ?_; intro v6 w6 ho6 hg6 _; obtain ⟨ad6, c6, hv6, hnc6, _⟩ := row_shapeC ho6; subst hv6; have H6 : Hid (RR w w6 a L.length c ad6 c6 (acc ++ [(nm, iv)]) ∧ CAt w6 cb nm iv) := HP5.out w6 ad6 c6 ho6 hg6; obtain ⟨d0, d1⟩ := H6.out.2.cells; have r2 := H6.out.1.br.cell; have r3 := H6.out.1.b1.cell; have f3 := H6.out.1.b1.frozen; clear ho6 hg6 hr5 u0 u1)
                            | (go_at_call 72; refine (hwr w6).mono ?_; clear hwr; rintro e w7 ⟨rfl, hB7⟩; have H7 : Hid (RR w w7 a L.length c ad6 c6 (acc ++ [(nm, iv)]) ∧ CAt w7 cb nm iv) := ⟨H6.out.1.below hB7, H6.out.2.below hB7⟩; clear d0 d1 r2 r3 f3; obtain ⟨d0, d1⟩ := H7.out.2.cells; have r2 := H7.out.1.br.cell; have r3 := H7.out.1.b1.cell; have f3 := H7.out.1.b1.frozen; clear hB7)
                          exact bodyPost_ret (v := .tuple #[.agg #[.slice a L.length c], .bool false]) (by simp [results, Tryz.results44, go_sem, H7.out.1.bad.2]) rfl (H7.out.1.none HF.out)
                · have j3 : ((bn - p : Nat) : Int) < (k1 : Int) + (Y : Int) + 8 := by omega
                  have HF : Hid (D = none) := HNO.out (by rw [HC.out, if_neg (fun h => hsp h.2)])
                  go_wp2_with (go_at_call 71; refine hnm.mono ?_; clear hnm; rintro e w3 ⟨rfl, h3⟩; subst h3)
                  exact bodyPost_ret (v := .tuple #[.agg #[.slice a L.length c], .bool false]) (by simp [results, Tryz.results44, go_sem, H.out.1.bad.2]) rfl (H.out.1.none HF.out)
              · have j2 : (200 : Int) < (Y : Int) := by omega
                have HF : Hid (D = none) := HNO.out (by rw [HC.out, if_neg (fun h => hY h.1)])
                go_wp2_with (go_at_call 71; refine hnm.mono ?_; clear hnm; rintro e w3 ⟨rfl, h3⟩; subst h3)
                exact bodyPost_ret (v := .tuple #[.agg #[.slice a L.length c], .bool false]) (by simp [results, Tryz.results44, go_sem, H.out.1.bad.2]) rfl (H.out.1.none HF.out)
            · have he' : (e1 == 0) = false := beq_eq_false_iff_ne.2 he
              have HF : Hid (D = none) := HNO.out (chg1_bad (by rw [HN1.out]; exact he))
              go_wp2_with (go_at_call 71; refine hnm.mono ?_; clear hnm; rintro e w3 ⟨rfl, h3⟩; subst h3)
              exact bodyPost_ret (v := .tuple #[.agg #[.slice a L.length c], .bool false]) (by simp [results, Tryz.results44, go_sem, H.out.1.bad.2]) rfl (H.out.1.none HF.out)
          · obtain rfl : t = X := by omega
            have j1 : ¬ (t : Int) < (t : Int) := by omega
            have r2 := H.out.1.br.cell
            have HA0 : Hid (acc.length = t ∧ decP b = (acc, p, 0) ∧ errFrom g (fun _ => false) acc = 0) := ⟨H.out.2.1, by have := H.out.2.2.1; rw [Nat.sub_self] at this; exact this, H.out.2.2.2⟩
            go_wp2_with fail
            obtain ⟨w4, hw4⟩ : ∃ w4, w4 = wr.alloc (.cells #[.slice a L.length c] 32) := ⟨_, rfl⟩
            obtain ⟨ob, hob⟩ : ∃ ob, ob = wr.heap.size := ⟨_, rfl⟩
            have H4 : Hid (RW w w4 a L.length c la lc acc ob L a c L) := by
              have B4 : Below wr.heap.size wr w4 := by rw [hw4]; exact (Below.refl _ _).alloc (Nat.le_refl _) _
              refine ⟨H.out.1.below B4, by rw [hw4, hob]; exact Boxed.new _ _ _, HG.out.2.1.kept (H.out.1.bel.trans (B4.mono H.out.1.bel.size)), .inl ⟨rfl, rfl⟩, by rw [hob]; have := H.out.1.b1.lt; omega, fun z hz => by have := (row_blockC H.out.1.row z hz).2; omega⟩
            rw [← hw4, ← hob]
            clear hw4 hob H r2
            go_loopw [146] (fun q W => ∃ (i : Nat) (oa : Option Addr) (oc : Nat) (O : List Ch), i ≤ t ∧ q = .int .i64 (i : Int) ∧ Hid (RW w W a L.length c la lc acc ob L oa oc O ∧ O = (acc.take i).foldl withR L ∧ O.length ≤ 1000 + i)) (fun q _ => t - (intOf q).toNat)
            case atStart => exact ⟨0, a, c, L, Nat.zero_le _, rfl, H4.out, rfl, by omega⟩
            case round =>
              clear H4
              obtain ⟨i, oa, oc, O, hit, rfl, HO⟩ := hrel
              by_cases hil : i < t
              · obtain ⟨y, hy⟩ : ∃ y, acc[i]? = some y := ⟨_, List.getElem?_eq_getElem (by rw [HA0.out.1]; exact hil)⟩
                have hch := own_chs HO.out.1.rr.row rfl
                rw [HA0.out.1] at hch
                obtain ⟨b1, o1, rfl, hc1⟩ := hch.2 (by omega)
                obtain ⟨q1, q2⟩ := hc1 i y hy
                have l1 : (i : Int) < (t : Int) := by omega
                have l2 : ¬ t ≤ i := by omega
                have HM : Hid (t - (intOf (Value.int .i64 ((i : Int) + 1))).toNat < t - (intOf (Value.int .i64 (i : Int))).toNat) := (by simp [intOf]; omega : t - (intOf (Value.int .i64 ((i : Int) + 1))).toNat < t - (intOf (Value.int .i64 (i : Int))).toNat)
                have HTk : Hid ((acc.take (i + 1)).foldl withR L = withR O y) := by
                  show _ = _
                  rw [List.take_add_one, hy, Option.toList_some, List.foldl_append, ← HO.out.2.1]; rfl
                have hOl : O.length ≤ 1000000 := by have := HO.out.2.2; omega
                obtain ⟨nm, iv⟩ := y
                simp only at q1 q2 HTk
                have BA : Below wr.heap.size wr (wr.alloc (.cells #[.string nm, .int .u64 iv] 38)) := (Below.refl _ wr).alloc (Nat.le_refl _) _
                have hdw := dwith_any (wr.alloc (.cells #[.string nm, .int .u64 iv] 38)) oa O.length oc O (HO.out.1.och.kept BA) hOl nm iv
                have HBA : Hid (Below wr.heap.size wr (wr.alloc (.cells #[.string nm, .int .u64 iv] 38)) ∧ Boxed (wr.alloc (.cells #[.string nm, .int .u64 iv] 38)) ob tR (.slice oa O.length oc)) := ⟨BA, (BA.block _ HO.out.1.bo.lt).trans HO.out.1.bo⟩
                have hwl := withR_len O (nm, iv)
                have cO := HBA.out.2.cell
                clear hc1 hy hch BA
                go_wp2_with (go_at_call 31; refine hdw.mono ?_; clear hdw; rintro e w7 ⟨ad, cp, rfl, hrow7, hB7⟩; have hbo7 : Boxed w7 ob tR (.slice oa O.length oc) := (hB7.block _ HBA.out.2.lt).trans HBA.out.2; have cO7 := hbo7.cell; have fO7 := hbo7.frozen; have H7 : Hid (RW w (w7.setCell ⟨ob, 0, none⟩ (.slice ad (withR O (nm, iv)).length cp)) a L.length c (some ⟨b1, o1, none⟩) lc acc ob L ad cp (withR O (nm, iv))) := HO.out.1.step (HBA.out.1.trans (hB7.mono HBA.out.1.size)) (row_baseC hrow7 (by simp)); clear hrow7 hB7 hbo7)
                exact ⟨⟨i + 1, ad, cp, withR O (nm, iv), by omega, by simp, H7.out, HTk.out.symm, by have := HO.out.2.2; omega⟩, HM.out⟩
              · obtain rfl : i = t := by omega
                have l1 : ¬ (i : Int) < (i : Int) := by omega
                have hOf : O = acc.foldl withR L := by
                  have := HO.out.2.1
                  rwa [List.take_of_length_le (by rw [HA0.out.1]; exact Nat.le_refl _)] at this
                have hacc : acc ≠ [] := fun e => by have := HA0.out.1; rw [e] at this; simp at this; omega
                have hDE := docR_end HG.out.2.2.1 HA0.out.2.1 hacc HA0.out.2.2
                rw [← HG.out.1, ← hOf, hbl] at hDE
                have HFIN : Hid (∀ z : Bool, (z = true ↔ p = bn ∧ O.length ≤ 64) → RRead w (wr.setCell ⟨w.heap.size + 1, 0, none⟩ (.slice oa O.length oc)) a L D (.returned (.tuple #[.agg #[.slice oa O.length oc], .bool z])) ∧ (wr.setCell ⟨w.heap.size + 1, 0, none⟩ (.slice oa O.length oc)).cell? ⟨w.heap.size + 1, 0, none⟩ = some (.slice oa O.length oc)) := fun z hz => HO.out.1.fin HG.out.2.1 hOf (by
                  rw [hDE]
                  by_cases h : p = bn ∧ O.length ≤ 64
                  · rw [if_pos h, if_pos (hz.2 h)]
                  · rw [if_neg h, if_neg (fun e => h (hz.1 e))])
                have cO := HO.out.1.bo.cell
                have cO2 : (wr.setCell ⟨w.heap.size + 1, 0, none⟩ (.slice oa O.length oc)).cell? ⟨ob, 0, none⟩ = some (.slice oa O.length oc) := (turn_setCell wr (w.heap.size + 1) 0 (.slice oa O.length oc)).cell HO.out.1.bo.cell (fun e => by have := HO.out.1.obw; simp at e; omega)
                have r3 := HO.out.1.rr.b1.cell
                have f3 := HO.out.1.rr.b1.frozen
                clear hDE hOf hacc HO HA0
                go_wp2_with fail
                by_cases hp : p = bn
                · have e1 : (((bn - p : Nat) : Int) == 0) = true := beq_iff_eq.2 (by omega)
                  by_cases h6 : O.length ≤ 64
                  · have e2 : (O.length : Int) ≤ 64 := by omega
                    have HZ := HFIN.out true ⟨fun _ => ⟨hp, h6⟩, fun _ => rfl⟩
                    have HZ2 : Hid _ := HZ
                    clear HFIN hp h6 HZ
                    go_region
                    go_wp2
                    exact bodyPost_ret (v := .tuple #[.agg #[.slice oa O.length oc], .bool true]) (by simp [results, Tryz.results44, go_sem, HZ2.out.2]) rfl HZ2.out.1.drew
                  · have e2 : ¬ (O.length : Int) ≤ 64 := by omega
                    have HZ := HFIN.out false ⟨fun h => (by cases h), fun h => absurd h.2 h6⟩
                    have HZ2 : Hid _ := HZ
                    clear HFIN hp h6 HZ
                    go_region
                    go_wp2
                    exact bodyPost_ret (v := .tuple #[.agg #[.slice oa O.length oc], .bool false]) (by simp [results, Tryz.results44, go_sem, HZ2.out.2]) rfl HZ2.out.1.drew
                · have e1 : (((bn - p : Nat) : Int) == 0) = false := beq_eq_false_iff_ne.2 (by omega)
                  have HZ := HFIN.out false ⟨fun h => (by cases h), fun h => absurd h.1 hp⟩
                  have HZ2 : Hid _ := HZ
                  clear HFIN hp HZ
                  go_region
                  go_wp2
                  exact bodyPost_ret (v := .tuple #[.agg #[.slice oa O.length oc], .bool false]) (by simp [results, Tryz.results44, go_sem, HZ2.out.2]) rfl HZ2.out.1.drew
  · have he' : (e0 == 0) = false := beq_eq_false_iff_ne.2 he
    have HF : Hid (D = none) := (by rw [HG.out.1]; exact docR_none (decRf_bad (by rw [HN.out]; exact he)) : D = none)
    go_wp2_with (rw [← hw2]; clear hw2; go_at_call 71; refine hnm.mono ?_; clear hnm; rintro e w3 ⟨rfl, h3⟩; subst h3)
    exact bodyPost_ret (v := .tuple #[.agg #[.slice a L.length c], .bool false]) (by simp [results, Tryz.results44, go_sem, H2.out.bad.2]) rfl (H2.out.none HF.out)
end Go.Proofs.YtiafhbpklddlnaaGreatDoor
