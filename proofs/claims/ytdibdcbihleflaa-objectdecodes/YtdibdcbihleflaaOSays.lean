/- Does an object answer what it must: the walk of says, of every object. -/
import Derived.Test.YtdibdcbihleflaaOBlob2
import Derived.Test.YtdibdcbihleflaaOSame
import Derived.Laws.OwnMore
namespace Go.Proofs.Ytdibdcbihleflaa
open Go.RowKit

attribute [local go_sem] Oper.semAt_some

theorem Ids.below {w W : World} {a : Option Addr} {n : Nat} {l : List Int} (h : Ids w a n l) (hB : Below w.heap.size w W) : Ids W a n l := by
  refine ⟨h.1, fun h0 => ?_⟩
  obtain ⟨b, off, e, hc⟩ := h.2 h0
  exact ⟨b, off, e, fun j x hx => (hB.cell (p := ⟨b, off + j, none⟩) (World.block_lt_of_cell? w _ (hc j x hx))).trans (hc j x hx)⟩

set_option maxHeartbeats 2000000 in
theorem ids_like (w : World) (a b : Option Addr) (n c d : Nat) (l : List Int) (h : Ids w a n l) (h' : Ids w b n l) (hn : n ≤ 9223372036854775807) :
    Calls Try.prog 37 #[.slice a n c, .slice b n d] w fun e w' => e = .returned (.bool true) ∧ Below w.heap.size w w' := by
  go_enter Try.func37, Try.ntmps37
  go_wp2
  go_loopw [13] (fun i wr => ∃ k : Nat, k ≤ n ∧ i = .int .i64 k ∧ Hid (Below w.heap.size w wr)) (fun i _ => n - (intOf i).toNat)
  case atStart => exact ⟨0, Nat.zero_le _, rfl, Below.refl _ _⟩
  case round =>
    obtain ⟨k, hk, rfl, H⟩ := hrel
    by_cases hlt : k < n
    · obtain ⟨x, hx⟩ : ∃ x, l[k]? = some x := ⟨_, List.getElem?_eq_getElem (by rw [h.1]; exact hlt)⟩
      obtain ⟨b1, o1, rfl, hc1⟩ := h.2 (by omega)
      obtain ⟨b2, o2, rfl, hc2⟩ := h'.2 (by omega)
      have q1 : wr.cell? ⟨b1, o1 + k, none⟩ = some (.int .u64 x) := (H.out.cell (p := ⟨b1, o1 + k, none⟩) (World.block_lt_of_cell? w _ (hc1 k x hx))).trans (hc1 k x hx)
      have q2 : wr.cell? ⟨b2, o2 + k, none⟩ = some (.int .u64 x) := (H.out.cell (p := ⟨b2, o2 + k, none⟩) (World.block_lt_of_cell? w _ (hc2 k x hx))).trans (hc2 k x hx)
      have i1 : (k : Int) < (n : Int) := by omega
      have i2 : ¬ n ≤ k := by omega
      clear hc1 h hx hc2 h'
      go_wp2_with fail
      go_quiet (fail)
      go_wp2_with fail
      go_roundw
      case rel => exact ⟨k + 1, by omega, by simp, below_drewN H.out _⟩
      case measure => simp [intOf]; omega
    · obtain rfl : k = n := by omega
      go_wp2
      go_ret
      exact ⟨rfl, H.out⟩

/-- what the layer answers of an object: its error, its kind, its bytes, its links -/
structure Speaks (o : Value) (kind : Int) (l : List UInt8) (no : Int) (ids : List Int) (w : World) : Prop where
  check : ∀ W, Below w.heap.size w W → Calls Try.prog 31 #[o] W fun e w' => e = .returned (.int .i64 no) ∧ Below W.heap.size W w'
  kind : ∀ W, Below w.heap.size w W → Calls Try.prog 32 #[o] W fun e w' => e = .returned (.int .i64 kind) ∧ Below W.heap.size W w'
  same : ∀ W, Below w.heap.size w W → Calls Try.prog 34 #[o, o] W fun e w' => e = .returned (.bool (no == 0)) ∧ Below W.heap.size W w'
  enc : ∀ W, Below w.heap.size w W → Calls Try.prog 29 #[o] W fun e w' => ∃ v, e = .returned (.tuple #[v, .int .i64 no]) ∧ OwnB W.heap.size l v w' ∧ Below W.heap.size W w'
  of : ∀ W, Below w.heap.size w W → Calls Try.prog 30 #[o] W fun e w' => e = .returned (.tuple #[.int .u64 (if no = 0 then idOf l else 0), .int .i64 no]) ∧ Below W.heap.size W w'
  links : ∀ W, Below w.heap.size w W → Calls Try.prog 33 #[o] W fun e w' => ∃ v, e = .returned v ∧ w'.ownsRow W.heap.size 39 1 v ids.length (ids.map (Value.int .u64)) ∧ Below W.heap.size W w'

theorem own_ids {w : World} {B : Nat} {v : Value} {ids : List Int} (h : w.ownsRow B 39 1 v ids.length (ids.map (Value.int .u64))) : ∃ ad c, v = .slice ad ids.length c ∧ Ids w ad ids.length ids := by
  obtain ⟨ad, c, rfl, hc, hn⟩ := row_shape h
  refine ⟨ad, c, rfl, rfl, fun h0 => ?_⟩
  rcases h.2 with ⟨e, h'⟩ | ⟨g, cap, cur, e, _⟩
  · omega
  · cases e
    refine ⟨g, 0, rfl, fun j x hx => ?_⟩
    have := h.cells (g := g) rfl j (.int .u64 x) (by rw [List.getElem?_map, hx]; rfl)
    rw [Addr.add_lit] at this
    exact this
def OwnR (B : Nat) (v : Value) (n : Nat) (W : World) : Prop := ∃ xs, W.ownsRow B 5 1 v n xs
def OwnI (B : Nat) (v : Value) (n : Nat) (W : World) : Prop := ∃ xs, W.ownsRow B 39 1 v n xs
theorem below_gr {W W' : World} {B n : Nat} {t : TypeId} {v : Value} {xs : List Value} (h : W.ownsRow B t 1 v n xs) (hB : B ≤ W.heap.size) (hg : W.grownBy W' v.ownBlock) : Below B W W' :=
  ⟨hg.os, hg.tape, hg.output, hg.size, fun k hk => hg.block k (by omega) (fun e => by have := (row_block h k e.symm).1; omega)⟩
theorem cells_two (W : World) (t : TypeId) (a b : Value) : ∀ (j : Nat) u, [a, b][j]? = some u → (W.alloc (.cells #[a, b] t)).cell? (Addr.add ⟨W.heap.size, 0, none⟩ j) = some u := by
  intro j u hj
  match j, hj with
  | 0, hj => simp at hj; subst hj; simp [Addr.add]
  | 1, hj => simp at hj; subst hj; simp [Addr.add]

set_option maxRecDepth 100000 in
set_option maxHeartbeats 8000000 in
theorem says_any (o : Value) (kind : Int) (l : List UInt8) (no : Int) (ids : List Int) (w : World) (hS : Speaks o kind l no ids w) (wa : Option Addr) (wn wc : Nat) (hw : Bytes w wa wn l) (hwn : wn ≤ 1099511627776)
    (la : Option Addr) (ln lc : Nat) (hL : if no = 0 then Ids w la ln ids else ids = []) (hln : ids.length ≤ 1099511627776) :
    Calls Try.prog 11 #[o, .int .i64 kind, .slice wa wn wc, .int .i64 no, .slice la ln lc] w fun e w' => e = .returned (.bool true) ∧ Below w.heap.size w w' := by
  have hck := hS.check w (Below.refl _ _)
  obtain ⟨i0, hi0, hzz0, hzz1, hzz2⟩ := info_parts Try.info5
  have HS : Hid (Speaks o kind l no ids w) := hS
  have HW : Hid (Bytes w wa wn l) := hw
  have hll : l.length = wn := hw.1
  by_cases h0 : no = 0
  · subst h0
    rw [if_pos rfl] at hL
    have hln' := hL.1.symm
    subst hln'
    have HL : Hid (Ids w la ids.length ids) := hL
    have HO : Hid (∀ W, Below w.heap.size w W → Calls Try.prog 30 #[o] W fun e w' => e = .returned (.tuple #[.int .u64 (idOf l), .int .i64 0]) ∧ Below W.heap.size W w') := fun W h => (hS.of W h).mono fun e w' h => by simpa using h
    have HSm : Hid (∀ W, Below w.heap.size w W → Calls Try.prog 34 #[o, o] W fun e w' => e = .returned (.bool true) ∧ Below W.heap.size W w') := fun W h => (hS.same W h).mono fun e w' h => by simpa using h
    have HLk : Hid (∀ W, Below w.heap.size w W → Calls Try.prog 33 #[o] W fun e w' => ∃ a c, e = .returned (.slice a ids.length c) ∧ Ids w' a ids.length ids ∧ OwnI W.heap.size (.slice a ids.length c) ids.length w' ∧ Below W.heap.size W w') := fun W h => (hS.links W h).mono fun e w' ⟨v, he, ho, hB⟩ => by
      obtain ⟨ad, c, rfl, hI⟩ := own_ids ho
      exact ⟨ad, c, he, hI, ⟨_, ho⟩, hB⟩
    clear hS hw hL
    go_enter Try.func11, Try.ntmps11
    go_wp2_with first
      | (go_at_call 31; refine hck.mono ?_; clear hck; rintro e w1 ⟨rfl, hB1⟩)
      | (go_at_call 32; refine (HS.out.kind _ hB1).mono ?_; rintro e w2' ⟨rfl, hB2'⟩; have hB2 := hB1.trans (hB2'.mono hB1.size); clear hB1 hB2')
      | (go_at_call 34; refine (HSm.out _ hB2).mono ?_; rintro e w3' ⟨rfl, hB3'⟩; have hB3 := hB2.trans (hB3'.mono hB2.size); clear hB2 hB3')
    go_loopw [11] (fun i wr => ∃ k : Nat, k ≤ 2 ∧ i = .int .i64 (k : Int) ∧ Hid (Below w.heap.size w wr)) (fun i _ => 2 - (intOf i).toNat)
    case atStart => exact ⟨0, by omega, rfl, hB3⟩
    case round =>
      clear hB3
      obtain ⟨k, hk, rfl, H⟩ := hrel
      obtain ⟨wq, hwq⟩ : ∃ wq, wq = wr := ⟨_, rfl⟩
      subst hwq
      have hqs := H.out.size
      by_cases hk2 : k < 2
      · have ik : (k : Int) < 2 := by omega
        go_wp2_with first
          | (go_at_call 29; refine (HS.out.enc _ H.out).mono ?_; rintro e x1 ⟨v, rfl, ho, hB1⟩; obtain ⟨ba, bc, rfl, hbn⟩ := ho.shape hll; have hby := ho.bytes hll; have H1 : Hid (Below w.heap.size w x1 ∧ OwnR wq.heap.size (.slice ba wn bc) wn x1 ∧ wq.heap.size ≤ x1.heap.size) := ⟨H.out.trans (hB1.mono hqs), ⟨_, by rw [← hll]; rw [← hll] at ho; exact ho.row⟩, hB1.size⟩; have hwby := bytes_below HW.out H1.out.1; clear ho hB1)
          | (go_at_call 12; refine (equal_yes _ ba wa wn wn bc wc l hby hwby).mono ?_; rintro e x2 ⟨rfl, hx2⟩; subst hx2; clear hby hwby)
        go_loopw [57] (fun j wr => ∃ m : Nat, m ≤ wn ∧ j = .int .i64 (m : Int) ∧ Hid (Below w.heap.size w wr ∧ OwnR wq.heap.size (.slice ba wn bc) wn wr ∧ wq.heap.size ≤ wr.heap.size)) (fun j _ => wn - (intOf j).toNat)
        case atStart => exact ⟨0, Nat.zero_le _, rfl, H1.out⟩
        case round =>
          clear H1
          obtain ⟨m, hm, rfl, H3⟩ := hrel
          by_cases hml : m < wn
          · obtain ⟨xs, ho⟩ := H3.out.2.1
            obtain ⟨g, hg⟩ : ∃ g, ba = some ⟨g, 0, none⟩ := by
              rcases ho.2 with ⟨h', h0⟩ | ⟨g, cap, cur, h', _⟩
              · omega
              · exact ⟨g, by cases h'; rfl⟩
            subst hg
            have hgb := (row_block ho g rfl).1
            obtain ⟨z, hz⟩ : ∃ z, xs[m]? = some z := ⟨_, List.getElem?_eq_getElem (by have := ho.1; omega)⟩
            have cz : wr.cell? ⟨g, m, none⟩ = some z := (ho.cellAt m (by omega)).trans hz
            have fz := ho.frozenAt m
            obtain ⟨ho2, hg2⟩ := ho.stored m (.int .u8 170)
            have H4 : Hid (Below w.heap.size w (wr.setCell ⟨g, m, none⟩ (.int .u8 170)) ∧ OwnR wq.heap.size (.slice (some ⟨g, 0, none⟩) wn bc) wn (wr.setCell ⟨g, m, none⟩ (.int .u8 170)) ∧ wq.heap.size ≤ (wr.setCell ⟨g, m, none⟩ (.int .u8 170)).heap.size) :=
              ⟨H3.out.1.setCell (p := ⟨g, m, none⟩) (by show w.heap.size ≤ g; omega) _, ⟨_, ho2⟩, by simp; exact H3.out.2.2⟩
            have iml : (m : Int) < (wn : Int) := by omega
            have iml2 : ¬ wn ≤ m := by omega
            clear ho ho2 hg2 hz H3
            go_wp2
            go_roundw
            case rel => exact ⟨m + 1, by omega, by simp, H4.out⟩
            case measure => simp [intOf]; omega
          · have hme : m = wn := by omega
            subst hme
            have iml : ¬ (m : Int) < (m : Int) := by omega
            obtain ⟨xs, ho⟩ := H3.out.2.1
            have H4 : Hid (Below w.heap.size w wr ∧ wq.heap.size ≤ wr.heap.size) := ⟨H3.out.1, H3.out.2.2⟩
            have hsz := H3.out.2.2
            clear H3
            have i2 : ¬ ((m : Int) + 2 < 2) := by omega
            go_wp2_with (at_builtin; refine wpList_append_own _ rfl _ _ 22 rfl wq.heap.size 5 i0 (.int .u8 0) 1 1 Try.underlying22 hi0 hzz0 hzz1 hzz2 rfl (by decide) _ m _ rfl (ho.alloc _) ⟨_, 0, none⟩ 2 2 [.int .u8 170, .int .u8 170] rfl rfl (cells_two _ _ _ _) (by simp [Value.oneCell']) (by unfold maxLen; omega) (by omega) (by simp; omega) ?_; intro v' x5 hown5 hgr5 _; have HB5 : Below wq.heap.size wr x5 := ((Below.refl _ wr).alloc hsz _).trans (below_gr (ho.alloc _) (by simp; omega) hgr5); have H5 : Hid (Below w.heap.size w x5) := H4.out.1.trans (HB5.mono hqs); obtain ⟨ad5, cp5, hv5, _⟩ := row_shape hown5; subst hv5; clear hown5 hgr5 HB5 ho)
            exact ⟨⟨k + 1, by omega, by simp, H5.out⟩, by simp [intOf]; omega⟩
      · obtain rfl : k = 2 := by omega
        have hwq := bytes_below HW.out H.out
        go_wp2_with first
          | (go_at_call 30; refine (HO.out _ H.out).mono ?_; rintro e y1 ⟨rfl, hy1⟩; have h1 := H.out.trans (hy1.mono hqs); have hw1 := bytes_below HW.out h1; clear hy1)
          | (go_at_call 25; refine (refId_any wa wn wc l _ hw1 (by unfold maxLen; omega)).mono ?_; rintro e y2 ⟨rfl, hy2⟩; subst hy2)
          | (go_at_call 33; refine (HLk.out _ h1).mono ?_; rintro e y3 ⟨ka, kc, rfl, hI3, hO3, hB3⟩; have hs1 := h1.size; have h3 := h1.trans (hB3.mono h1.size); have hL3 := HL.out.below h3; have hs3 := hB3.size; clear hw1 h1)
          | (go_at_call 37; refine (ids_like _ ka la ids.length kc lc ids hI3 hL3 (by omega)).mono ?_; rintro e y4 ⟨rfl, hB4⟩; have H4 : Hid (Below w.heap.size w y4 ∧ OwnI w.heap.size (.slice ka ids.length kc) ids.length y4) := ⟨h3.trans (hB4.mono h3.size), by obtain ⟨xs, ho⟩ := hO3; exact ⟨xs, (row_lower ho hs1).kept (row := none) ⟨hB4.os, hB4.tape, hB4.output, hB4.size, fun k hk _ => hB4.block k hk⟩ (by cases (Value.slice ka ids.length kc).ownBlock <;> simp)⟩⟩; clear hO3 hI3 hL3 h3 hB4 hs3 hB3)
        go_loopw [106] (fun j wr => ∃ m : Nat, m ≤ ids.length ∧ j = .int .i64 (m : Int) ∧ Hid (Below w.heap.size w wr ∧ OwnI w.heap.size (.slice ka ids.length kc) ids.length wr)) (fun j _ => ids.length - (intOf j).toNat)
        case atStart => exact ⟨0, Nat.zero_le _, rfl, H4.out⟩
        case round =>
          clear H4
          obtain ⟨m, hm, rfl, H3⟩ := hrel
          by_cases hml : m < ids.length
          · obtain ⟨xs, ho⟩ := H3.out.2
            obtain ⟨g, hg⟩ : ∃ g, ka = some ⟨g, 0, none⟩ := by
              rcases ho.2 with ⟨h', h0⟩ | ⟨g, cap, cur, h', _⟩
              · omega
              · exact ⟨g, by cases h'; rfl⟩
            subst hg
            have hgb := (row_block ho g rfl).1
            obtain ⟨z, hz⟩ : ∃ z, xs[m]? = some z := ⟨_, List.getElem?_eq_getElem (by have := ho.1; omega)⟩
            have cz : wr.cell? ⟨g, m, none⟩ = some z := (ho.cellAt m (by omega)).trans hz
            have fz := ho.frozenAt m
            obtain ⟨ho2, hg2⟩ := ho.stored m (.int .u64 0)
            have H4 : Hid (Below w.heap.size w (wr.setCell ⟨g, m, none⟩ (.int .u64 0)) ∧ OwnI w.heap.size (.slice (some ⟨g, 0, none⟩) ids.length kc) ids.length (wr.setCell ⟨g, m, none⟩ (.int .u64 0))) :=
              ⟨H3.out.1.setCell (p := ⟨g, m, none⟩) hgb _, ⟨_, ho2⟩⟩
            have iml : (m : Int) < (ids.length : Int) := by omega
            have iml2 : ¬ ids.length ≤ m := by omega
            clear ho ho2 hg2 hz H3
            go_wp2
            go_roundw
            case rel => exact ⟨m + 1, by omega, by simp, H4.out⟩
            case measure => simp [intOf]; omega
          · have hme : m = ids.length := by omega
            subst hme
            have iml : ¬ ((ids.length : Nat) : Int) < ((ids.length : Nat) : Int) := by omega
            go_wp2_with first
              | (go_at_call 33; refine (HLk.out _ H3.out.1).mono ?_; rintro e z3 ⟨ja, jc, rfl, hI5, _, hB5⟩; have h5 := H3.out.1.trans (hB5.mono H3.out.1.size); have hL5 := HL.out.below h5; clear hB5)
              | (go_at_call 37; refine (ids_like _ ja la ids.length jc lc ids hI5 hL5 (by omega)).mono ?_; rintro e z4 ⟨rfl, hB6⟩)
            go_ret
            exact ⟨rfl, h5.trans (hB6.mono h5.size)⟩
  · rw [if_neg h0] at hL
    subst hL
    have HL : Hid (Ids w none 0 ([] : List Int)) := ⟨rfl, fun h => absurd h (by omega)⟩
    have HO : Hid (∀ W, Below w.heap.size w W → Calls Try.prog 30 #[o] W fun e w' => e = .returned (.tuple #[.int .u64 0, .int .i64 no]) ∧ Below W.heap.size W w') := fun W h => (hS.of W h).mono fun e w' h => by simpa [h0] using h
    have HSm : Hid (∀ W, Below w.heap.size w W → Calls Try.prog 34 #[o, o] W fun e w' => e = .returned (.bool false) ∧ Below W.heap.size W w') := fun W h => (hS.same W h).mono fun e w' h => ⟨by rw [h.1, beq_eq_false_iff_ne.2 h0], h.2⟩
    have h0' : (no == 0) = false := beq_eq_false_iff_ne.2 h0
    have HLk : Hid (∀ W, Below w.heap.size w W → Calls Try.prog 33 #[o] W fun e w' => ∃ a c, e = .returned (.slice a 0 c) ∧ Ids w' a 0 ([] : List Int) ∧ OwnI W.heap.size (.slice a 0 c) 0 w' ∧ Below W.heap.size W w') := fun W h => (hS.links W h).mono fun e w' ⟨v, he, ho, hB⟩ => by
      obtain ⟨ad, c, rfl, hI⟩ := own_ids ho
      exact ⟨ad, c, he, hI, ⟨_, ho⟩, hB⟩
    clear hS hw 
    go_enter Try.func11, Try.ntmps11
    go_wp2_with first
      | (go_at_call 31; refine hck.mono ?_; clear hck; rintro e w1 ⟨rfl, hB1⟩)
      | (go_at_call 32; refine (HS.out.kind _ hB1).mono ?_; rintro e w2' ⟨rfl, hB2'⟩; have hB2 := hB1.trans (hB2'.mono hB1.size); clear hB1 hB2')
      | (go_at_call 34; refine (HSm.out _ hB2).mono ?_; rintro e w3' ⟨rfl, hB3'⟩; have hB3 := hB2.trans (hB3'.mono hB2.size); clear hB2 hB3')
    go_loopw [11] (fun i wr => ∃ k : Nat, k ≤ 2 ∧ i = .int .i64 (k : Int) ∧ Hid (Below w.heap.size w wr)) (fun i _ => 2 - (intOf i).toNat)
    case atStart => exact ⟨0, by omega, rfl, hB3⟩
    case round =>
      clear hB3
      obtain ⟨k, hk, rfl, H⟩ := hrel
      obtain ⟨wq, hwq⟩ : ∃ wq, wq = wr := ⟨_, rfl⟩
      subst hwq
      have hqs := H.out.size
      by_cases hk2 : k < 2
      · have ik : (k : Int) < 2 := by omega
        go_wp2_with first
          | (go_at_call 29; refine (HS.out.enc _ H.out).mono ?_; rintro e x1 ⟨v, rfl, ho, hB1⟩; obtain ⟨ba, bc, rfl, hbn⟩ := ho.shape hll; have hby := ho.bytes hll; have H1 : Hid (Below w.heap.size w x1 ∧ OwnR wq.heap.size (.slice ba wn bc) wn x1 ∧ wq.heap.size ≤ x1.heap.size) := ⟨H.out.trans (hB1.mono hqs), ⟨_, by rw [← hll]; rw [← hll] at ho; exact ho.row⟩, hB1.size⟩; have hwby := bytes_below HW.out H1.out.1; clear ho hB1)
          | (go_at_call 12; refine (equal_yes _ ba wa wn wn bc wc l hby hwby).mono ?_; rintro e x2 ⟨rfl, hx2⟩; subst hx2; clear hby hwby)
        go_loopw [57] (fun j wr => ∃ m : Nat, m ≤ wn ∧ j = .int .i64 (m : Int) ∧ Hid (Below w.heap.size w wr ∧ OwnR wq.heap.size (.slice ba wn bc) wn wr ∧ wq.heap.size ≤ wr.heap.size)) (fun j _ => wn - (intOf j).toNat)
        case atStart => exact ⟨0, Nat.zero_le _, rfl, H1.out⟩
        case round =>
          clear H1
          obtain ⟨m, hm, rfl, H3⟩ := hrel
          by_cases hml : m < wn
          · obtain ⟨xs, ho⟩ := H3.out.2.1
            obtain ⟨g, hg⟩ : ∃ g, ba = some ⟨g, 0, none⟩ := by
              rcases ho.2 with ⟨h', h0⟩ | ⟨g, cap, cur, h', _⟩
              · omega
              · exact ⟨g, by cases h'; rfl⟩
            subst hg
            have hgb := (row_block ho g rfl).1
            obtain ⟨z, hz⟩ : ∃ z, xs[m]? = some z := ⟨_, List.getElem?_eq_getElem (by have := ho.1; omega)⟩
            have cz : wr.cell? ⟨g, m, none⟩ = some z := (ho.cellAt m (by omega)).trans hz
            have fz := ho.frozenAt m
            obtain ⟨ho2, hg2⟩ := ho.stored m (.int .u8 170)
            have H4 : Hid (Below w.heap.size w (wr.setCell ⟨g, m, none⟩ (.int .u8 170)) ∧ OwnR wq.heap.size (.slice (some ⟨g, 0, none⟩) wn bc) wn (wr.setCell ⟨g, m, none⟩ (.int .u8 170)) ∧ wq.heap.size ≤ (wr.setCell ⟨g, m, none⟩ (.int .u8 170)).heap.size) :=
              ⟨H3.out.1.setCell (p := ⟨g, m, none⟩) (by show w.heap.size ≤ g; omega) _, ⟨_, ho2⟩, by simp; exact H3.out.2.2⟩
            have iml : (m : Int) < (wn : Int) := by omega
            have iml2 : ¬ wn ≤ m := by omega
            clear ho ho2 hg2 hz H3
            go_wp2
            go_roundw
            case rel => exact ⟨m + 1, by omega, by simp, H4.out⟩
            case measure => simp [intOf]; omega
          · have hme : m = wn := by omega
            subst hme
            have iml : ¬ (m : Int) < (m : Int) := by omega
            obtain ⟨xs, ho⟩ := H3.out.2.1
            have H4 : Hid (Below w.heap.size w wr ∧ wq.heap.size ≤ wr.heap.size) := ⟨H3.out.1, H3.out.2.2⟩
            have hsz := H3.out.2.2
            clear H3
            have i2 : ¬ ((m : Int) + 2 < 2) := by omega
            go_wp2_with (at_builtin; refine wpList_append_own _ rfl _ _ 22 rfl wq.heap.size 5 i0 (.int .u8 0) 1 1 Try.underlying22 hi0 hzz0 hzz1 hzz2 rfl (by decide) _ m _ rfl (ho.alloc _) ⟨_, 0, none⟩ 2 2 [.int .u8 170, .int .u8 170] rfl rfl (cells_two _ _ _ _) (by simp [Value.oneCell']) (by unfold maxLen; omega) (by omega) (by simp; omega) ?_; intro v' x5 hown5 hgr5 _; have HB5 : Below wq.heap.size wr x5 := ((Below.refl _ wr).alloc hsz _).trans (below_gr (ho.alloc _) (by simp; omega) hgr5); have H5 : Hid (Below w.heap.size w x5) := H4.out.1.trans (HB5.mono hqs); obtain ⟨ad5, cp5, hv5, _⟩ := row_shape hown5; subst hv5; clear hown5 hgr5 HB5 ho)
            exact ⟨⟨k + 1, by omega, by simp, H5.out⟩, by simp [intOf]; omega⟩
      · obtain rfl : k = 2 := by omega
        have hwq := bytes_below HW.out H.out
        go_wp2_with first
          | (go_at_call 30; refine (HO.out _ H.out).mono ?_; rintro e y1 ⟨rfl, hy1⟩; have h1 := H.out.trans (hy1.mono hqs); have hw1 := bytes_below HW.out h1; clear hy1)
          | (go_at_call 25; refine (refId_any wa wn wc l _ hw1 (by unfold maxLen; omega)).mono ?_; rintro e y2 ⟨rfl, hy2⟩; subst hy2)
          | (go_at_call 33; refine (HLk.out _ h1).mono ?_; rintro e y3 ⟨ka, kc, rfl, hI3, hO3, hB3⟩; have hs1 := h1.size; have h3 := h1.trans (hB3.mono h1.size); have hL3 := HL.out.below h3; have hs3 := hB3.size; clear hw1 h1)
          | (go_at_call 37; refine (ids_like _ ka none 0 kc 0 ([] : List Int) hI3 hL3 (by omega)).mono ?_; rintro e y4 ⟨rfl, hB4⟩; have H4 : Hid (Below w.heap.size w y4 ∧ OwnI w.heap.size (.slice ka 0 kc) 0 y4) := ⟨h3.trans (hB4.mono h3.size), by obtain ⟨xs, ho⟩ := hO3; exact ⟨xs, (row_lower ho hs1).kept (row := none) ⟨hB4.os, hB4.tape, hB4.output, hB4.size, fun k hk _ => hB4.block k hk⟩ (by cases (Value.slice ka 0 kc).ownBlock <;> simp)⟩⟩; clear hO3 hI3 hL3 h3 hB4 hs3 hB3)
        go_loopw [106] (fun j wr => ∃ m : Nat, m ≤ 0 ∧ j = .int .i64 (m : Int) ∧ Hid (Below w.heap.size w wr ∧ OwnI w.heap.size (.slice ka 0 kc) 0 wr)) (fun j _ => 0 - (intOf j).toNat)
        case atStart => exact ⟨0, Nat.zero_le _, rfl, H4.out⟩
        case round =>
          clear H4
          obtain ⟨m, hm, rfl, H3⟩ := hrel
          by_cases hml : m < 0
          · omega
          · have hme : m = 0 := by omega
            subst hme
            have iml : ¬ ((0 : Nat) : Int) < ((0 : Nat) : Int) := by omega
            go_wp2_with first
              | (go_at_call 33; refine (HLk.out _ H3.out.1).mono ?_; rintro e z3 ⟨ja, jc, rfl, hI5, _, hB5⟩; have h5 := H3.out.1.trans (hB5.mono H3.out.1.size); have hL5 := HL.out.below h5; clear hB5)
              | (go_at_call 37; refine (ids_like _ ja none 0 jc 0 ([] : List Int) hI5 hL5 (by omega)).mono ?_; rintro e z4 ⟨rfl, hB6⟩)
            go_ret
            exact ⟨rfl, h5.trans (hB6.mono h5.size)⟩
end Go.Proofs.Ytdibdcbihleflaa
