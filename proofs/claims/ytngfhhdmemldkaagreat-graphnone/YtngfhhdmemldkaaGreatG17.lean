import Derived.Test.YtngfhhdmemldkaaGreatG16
import Derived.Test.YtngfhhdmemldkaaGreatG05
import Derived.Test.YtngfhhdmemldkaaGreatG12
/- What Decode answers, for all bytes; what the layer answers of what it read. -/
namespace Go.Proofs.YtngfhhdmemldkaaGreat
open Go.RowKit

attribute [local go_sem] Oper.semAt_some

def obErr : Ob → Int
  | .blob b => blobErr b.length
  | .tree l => treeErrs l
  | .com c => comErr c.1 c.2.1 c.2.2.1 c.2.2.2.2
/-- how an object lies in memory -/
def ObAt : Ob → Value → World → Prop
  | .blob b, v, W => ∃ ad cp, v = .iface 75 (.agg #[.slice ad b.length cp]) ∧ Bytes W ad b.length b ∧ (ad = none → b.length = 0 ∧ cp = 0) ∧ b.length ≤ 9223372036854775807
  | .tree l, v, W => ∃ ad cp, v = trV ad l.length cp ∧ Ents W ad l.length l ∧ Fields l ∧ l.length ≤ 9223372036854775807
  | .com c, v, W => ∃ ad cp, v = coV c.1 ad c.2.1.length cp c.2.2.1 c.2.2.2.1 c.2.2.2.2 ∧ Com W c.1 ad c.2.1.length cp c.2.1 c.2.2.1 c.2.2.2.1 c.2.2.2.2
theorem ObAt.below {o : Ob} {v : Value} {W W' : World} (h : ObAt o v W) (hB : Below W.heap.size W W') : ObAt o v W' := by
  cases o with
  | blob b => obtain ⟨ad, cp, h1, h2, h3⟩ := h; exact ⟨ad, cp, h1, bytes_below h2 hB, h3⟩
  | tree l => obtain ⟨ad, cp, h1, h2, h3⟩ := h; exact ⟨ad, cp, h1, h2.below hB, h3⟩
  | com c => obtain ⟨ad, cp, h1, h2⟩ := h; exact ⟨ad, cp, h1, h2.below hB⟩
theorem fields_ok {l : List Ent} (h : ∀ x ∈ l, EntOk x) : Fields l := by
  refine ⟨fun j x hx => ?_, fun j x hx => ?_⟩
  · have := (h x (List.mem_of_getElem? hx)).1
    unfold maxLen
    omega
  · exact (h x (List.mem_of_getElem? hx)).2
theorem dec_at {w w' : World} {o : Ob} {x : Ending} (h : DecOut w (some o) x w') (ok : ObOk o) (hs : (obB o).length ≤ 549755813888) : ∃ v, x = .returned v ∧ ObAt o v w' := by
  cases o with
  | blob b =>
    obtain ⟨ad, cp, rfl, hb⟩ := h
    simp only [obB, List.length_cons] at hs
    exact ⟨_, rfl, some ad, cp, rfl, hb, (fun e => by cases e), by omega⟩
  | tree l =>
    obtain ⟨ad, cp, rfl, hb⟩ := h
    refine ⟨_, rfl, ad, cp, rfl, own_ents hb rfl, fields_ok ok.1, ?_⟩
    have : l.length ≤ (entsB l).length := by
      clear hb hs
      have ok1 := ok.1
      clear ok
      induction l with
      | nil => simp
      | cons x R ih =>
        have := ih (fun y hy => ok1 y (by simp [hy]))
        simp only [entsB, List.map_cons, List.flatten_cons, List.length_append, List.length_cons] at this ⊢
        have : 8 ≤ (entB x).length := by simp [entB, owide_len]; omega
        omega
    simp only [obB, treeB, List.length_cons, List.length_append] at hs
    omega
  | com c =>
    obtain ⟨ad, cp, rfl, hb⟩ := h
    obtain ⟨ad', c', e, hc1, hc2⟩ := row_shape hb
    cases e
    obtain ⟨ad', c', e, hI⟩ := own_ids hb
    cases e
    have h1 := ok.au
    have h2 := ok.tx
    refine ⟨_, rfl, ad, cp, rfl, ⟨ok.tree, hI, ok.pars, ⟨hc1, ?_, hc2⟩, by unfold maxLen; omega, ok.date, by unfold maxLen; omega⟩⟩
    have := parsB_len c.2.1 c.2.1.length (Nat.le_refl _)
    rw [List.take_length] at this
    simp only [obB, comBB, comB, List.length_append] at hs
    omega
theorem check_ob {o : Ob} {v : Value} (W : World) (h : ObAt o v W) : Calls Tryz.prog 65 #[v] W fun e w' => e = .returned (.int .i64 (obErr o)) ∧ Below W.heap.size W w' := by
  cases o with
  | blob b => obtain ⟨ad, cp, rfl, h2, h3⟩ := h; exact check_blob _ _ _ W
  | tree l => obtain ⟨ad, cp, rfl, h2, h3, h4⟩ := h; exact check_tree _ _ _ l W h2 h3.name h4
  | com c => obtain ⟨ad, cp, rfl, h2⟩ := h; exact check_com _ _ _ _ _ _ _ _ W h2
theorem Encode_ob {o : Ob} {v : Value} (W : World) (h : ObAt o v W) (h0 : obErr o = 0) : Calls Tryz.prog 44 #[v] W fun e w' => ∃ ad cp, e = .returned (.tuple #[.slice ad (obB o).length cp, .int .i64 0]) ∧ Bytes w' ad (obB o).length (obB o) ∧ Below W.heap.size W w' := by
  cases o with
  | blob b =>
    obtain ⟨ad, cp, rfl, h2, h3, h4⟩ := h
    have hb : b.length ≤ 4096 := by
      have h0' : blobErr b.length = 0 := h0
      unfold blobErr at h0'
      split at h0'
      · omega
      · omega
    refine (Encode_blob ad _ cp b W h2 h3 hb).mono fun e w' hx => ?_
    obtain ⟨v, rfl, ho, hB⟩ := hx
    have ho' : OwnB W.heap.size (98 :: b) v w' := ⟨ho⟩
    obtain ⟨a', c', rfl, _⟩ := ho'.shape rfl
    exact ⟨a', c', rfl, ho'.bytes rfl, hB⟩
  | tree l =>
    obtain ⟨ad, cp, rfl, h2, h3, h4⟩ := h
    refine (Encode_tree ad _ cp l W h2 h3 h4 h0).mono fun e w' hx => ?_
    obtain ⟨v, rfl, ho', hB⟩ := hx
    obtain ⟨a', c', rfl, _⟩ := ho'.shape rfl
    exact ⟨a', c', rfl, ho'.bytes rfl, hB⟩
  | com c =>
    obtain ⟨ad, cp, rfl, h2⟩ := h
    refine (Encode_com _ _ _ _ _ _ _ _ W h2 h0).mono fun e w' hx => ?_
    obtain ⟨v, rfl, ho', hB⟩ := hx
    obtain ⟨a', c', rfl, _⟩ := ho'.shape rfl
    exact ⟨a', c', rfl, ho'.bytes rfl, hB⟩
def obK : Ob → Int
  | .blob _ => 1
  | .tree _ => 2
  | .com _ => 3
theorem encode_ob {o : Ob} {v : Value} (W : World) (h : ObAt o v W) (h0 : obErr o = 0) : Calls Tryz.prog 66 #[v] W fun e w' => ∃ ad cp, e = .returned (.slice ad (obB o).length cp) ∧ Bytes w' ad (obB o).length (obB o) ∧ Below W.heap.size W w' := by
  cases o with
  | blob b =>
    obtain ⟨ad, cp, rfl, h2, h3, h4⟩ := h
    have hb : b.length ≤ 4096 := by
      have h0' : blobErr b.length = 0 := h0
      unfold blobErr at h0'
      split at h0'
      · omega
      · omega
    refine (encode_blob ad _ cp b W h2 h3 (by omega)).mono fun e w' hx => ?_
    obtain ⟨v, rfl, ho, hB⟩ := hx
    have ho' : OwnB W.heap.size (98 :: b) v w' := ⟨ho⟩
    obtain ⟨a', c', rfl, _⟩ := ho'.shape rfl
    exact ⟨a', c', rfl, ho'.bytes rfl, hB⟩
  | tree l =>
    obtain ⟨ad, cp, rfl, h2, h3, h4⟩ := h
    obtain ⟨f1, f2⟩ := fits_of h3 h0
    refine (encode_tree ad _ cp l W h2 f2 f1).mono fun e w' hx => ?_
    obtain ⟨a', m, c', rfl, hm, ho', hB⟩ := hx
    subst hm
    exact ⟨a', c', rfl, ho'.bytes rfl, hB⟩
  | com c =>
    obtain ⟨ad, cp, rfl, h2⟩ := h
    refine (encode_com _ _ _ _ _ _ _ _ W h2 h0).mono fun e w' hx => ?_
    obtain ⟨a', m, c', rfl, hm, ho', hB⟩ := hx
    subst hm
    exact ⟨a', c', rfl, ho'.bytes rfl, hB⟩
theorem Same_ob {o o' : Ob} {v v' : Value} (W : World) (h : ObAt o v W) (h' : ObAt o' v' W) (h0 : obErr o = 0) (h0' : obErr o' = 0) :
    Calls Tryz.prog 47 #[v, v'] W fun e w' => e = .returned (.bool (decide (obB o = obB o'))) ∧ Below W.heap.size W w' := by
  have c1 := check_ob W h
  rw [h0] at c1
  have c2 := fun X hB => check_ob X (h'.below (W' := X) hB)
  rw [h0'] at c2
  have e1 := fun X hB => encode_ob X (h.below (W' := X) hB) h0
  have e2 := fun X hB => encode_ob X (h'.below (W' := X) hB) h0'
  generalize obB o = TA at *
  generalize obB o' = TB at *
  go_enter Tryz.func47, Tryz.ntmps47
  go_wp2_with first
    | (go_at_call 65; refine c1.mono ?_; clear c1; rintro e w1 ⟨rfl, hB1⟩)
    | (go_at_call 65; refine (c2 _ hB1).mono ?_; clear c2; rintro e w2 ⟨rfl, hB2⟩; have hB : Below W.heap.size W w2 := hB1.trans (hB2.mono hB1.size); clear hB1 hB2)
    | (go_at_call 66; refine (e1 _ hB).mono ?_; clear e1; rintro e w3 ⟨ad, cp, rfl, hy3, hB3⟩; have hBB : Below W.heap.size W w3 := hB.trans (hB3.mono hB.size); clear hB hB3)
    | (go_at_call 66; refine (e2 _ hBB).mono ?_; clear e2; rintro e w4 ⟨ad4, cp4, rfl, hy4, hB4⟩; have hy3' := bytes_below hy3 hB4; clear hy3)
    | (go_at_call 68; refine (oequal_any _ ad ad4 _ _ cp cp4 TA TB hy3' hy4).mono ?_; rintro e w5 ⟨rfl, h5⟩; subst h5)
  go_ret
  exact ⟨rfl, hBB.trans (hB4.mono hBB.size)⟩
/-- what Decode answers -/
def decG (l : List UInt8) : Option Ob := (decR l).bind fun o => if obErr o = 0 then some o else none
def GotO : Option Ob → Ending → World → Prop
  | none, x, _ => x = .returned (.tuple #[.nilIface, .int .i64 8])
  | some o, x, W => ∃ v, x = .returned (.tuple #[v, .int .i64 0]) ∧ ObAt o v W
theorem Decode_any (a : Option Addr) (n cap : Nat) (l : List UInt8) (w : World) (hb : Bytes w a n l) (hn : n ≤ 549755813888) :
    Calls Tryz.prog 63 #[.slice a n cap] w fun x w' => GotO (decG l) x w' ∧ Below w.heap.size w w' := by
  have hd := decode_any a n cap l w hb hn
  have hll := hb.1
  unfold decG
  cases hr : decR l with
  | none =>
    rw [hr] at hd
    have hd' : Calls Tryz.prog 87 #[.slice a n cap] w fun x w' => x = .returned .nilIface ∧ Below w.heap.size w w' := hd
    simp only [Option.bind_none]
    clear hd hr
    go_enter Tryz.func63, Tryz.ntmps63
    go_wp2_with first
      | (go_at_call 87; refine hd'.mono ?_; clear hd'; rintro y w1 ⟨rfl, hB1⟩)
      | (go_at_call 65; refine (ocheck_odd _ odd_nil _).mono ?_; rintro y w2 ⟨rfl, hw2⟩; subst hw2)
    go_ret2
    exact ⟨rfl, hB1⟩
  | some o =>
    rw [hr] at hd
    obtain ⟨hob, ok⟩ := decR_bytes hr (by omega)
    have hd' : Calls Tryz.prog 87 #[.slice a n cap] w fun x w' => ∃ v, x = .returned v ∧ ObAt o v w' ∧ Below w.heap.size w w' := hd.mono fun x w' hx => by
      obtain ⟨v, h1, h2⟩ := dec_at hx.1 ok (by rw [hob]; omega)
      exact ⟨v, h1, h2, hx.2⟩
    simp only [Option.bind_some]
    have HK : Hid (∀ W v, ObAt o v W → Calls Tryz.prog 65 #[v] W fun e w' => e = .returned (.int .i64 (obErr o)) ∧ Below W.heap.size W w') := fun W v h => check_ob W h
    generalize obErr o = E at HK ⊢
    clear hd hr hob ok
    by_cases hE : E = 0
    · subst hE
      rw [if_pos rfl]
      go_enter Tryz.func63, Tryz.ntmps63
      go_wp2_with first
        | (go_at_call 87; refine hd'.mono ?_; clear hd'; rintro y w1 ⟨v, rfl, hO1, hB1⟩)
        | (go_at_call 65; refine (HK.out _ _ hO1).mono ?_; rintro y w2 ⟨rfl, hB2⟩)
      go_ret2
      exact ⟨⟨v, rfl, hO1.below hB2⟩, hB1.trans (hB2.mono hB1.size)⟩
    · rw [if_neg hE]
      have e1 : (E == 0) = false := by simp [hE]
      have e2 : (E != 0) = true := by simp [hE]
      go_enter Tryz.func63, Tryz.ntmps63
      go_wp2_with first
        | (go_at_call 87; refine hd'.mono ?_; clear hd'; rintro y w1 ⟨v, rfl, hO1, hB1⟩)
        | (go_at_call 65; refine (HK.out _ _ hO1).mono ?_; rintro y w2 ⟨rfl, hB2⟩)
      go_ret2
      exact ⟨rfl, hB1.trans (hB2.mono hB1.size)⟩
theorem decG_some {l : List UInt8} {o : Ob} (h : decG l = some o) (hl : l.length ≤ 549755813888) : decR l = some o ∧ obErr o = 0 ∧ obB o = l ∧ ObOk o := by
  unfold decG at h
  cases hr : decR l with
  | none => rw [hr] at h; cases h
  | some p =>
    rw [hr, Option.bind_some] at h
    by_cases h0 : obErr p = 0
    · rw [if_pos h0] at h
      cases h
      obtain ⟨h1, h2⟩ := decR_bytes hr hl
      exact ⟨rfl, h0, h1, h2⟩
    · rw [if_neg h0] at h; cases h
def isBlob : Ob → Bool
  | .blob _ => true
  | _ => false
theorem longer_none {l : List UInt8} {o : Ob} (h : decR l = some o) (hl : l.length ≤ 549755813888) (hb : isBlob o = false) (x : UInt8) : decR (l ++ [x]) = none := by
  obtain ⟨h1, h2⟩ := decR_bytes h hl
  rw [← h1, decR_obB o h2 [x]]
  cases o with
  | blob b => cases hb
  | tree l => simp
  | com c => simp
theorem decG_none {l : List UInt8} (h : decR l = none) : decG l = none := by unfold decG; rw [h]; rfl
theorem obB_head (o : Ob) : (obB o).head? = some (match o with | .blob _ => 98 | .tree _ => 116 | .com _ => 99) := by
  cases o with
  | blob b => rfl
  | tree l => rfl
  | com c => simp [obB, comBB, comB]
theorem obB_two {o : Ob} (h : isBlob o = false) : 2 ≤ (obB o).length := by
  cases o with
  | blob b => cases h
  | tree l => have := shortF_pos 9 l.length; simp only [obB, treeB, List.length_cons, List.length_append, short]; omega
  | com c => simp only [obB, comBB, comB, List.length_append, owide_len, List.length_cons]; omega
theorem shorter_none {l : List UInt8} {o : Ob} (h : decR l = some o) (hl : l.length ≤ 549755813888) (hb : isBlob o = false) : decR (l.take (l.length - 1)) = none := by
  cases hr : decR (l.take (l.length - 1)) with
  | none => rfl
  | some o' =>
    exfalso
    obtain ⟨h1, h2⟩ := decR_bytes h hl
    obtain ⟨g1, g2⟩ := decR_bytes hr (by rw [List.length_take]; omega)
    have h3 := obB_two hb
    rw [h1] at h3
    have hh : (l.take (l.length - 1)).head? = l.head? := by
      cases l with
      | nil => simp at h3
      | cons c t =>
        cases t with
        | nil => simp at h3
        | cons d t => simp
    have k1 := obB_head o
    have k2 := obB_head o'
    rw [h1] at k1
    rw [g1, hh, k1] at k2
    have hb' : isBlob o' = false := by
      cases o' with
      | blob b => cases o <;> simp at k2; cases hb
      | tree _ => rfl
      | com _ => rfl
    have hx := longer_none hr (by rw [List.length_take]; omega) hb' (l[l.length - 1]'(by omega))
    have e : l.take (l.length - 1) ++ [l[l.length - 1]'(by omega)] = l := by
      have := List.take_append_getElem (l := l) (i := l.length - 1) (by omega)
      rw [show l.length - 1 + 1 = l.length by omega, List.take_length] at this
      exact this
    rw [e, h] at hx
    cases hx
end Go.Proofs.YtngfhhdmemldkaaGreat

/- A blob: its types, its copy, the document's bytes. -/
namespace Go.Proofs.YtngfhhdmemldkaaGreat
open Go.RowKit

theorem fresh_blob (a : Option Addr) (n c : Nat) (l : List UInt8) (w : World) (hb : Bytes w a n l) (hnil : a = none → n = 0 ∧ c = 0) (hn : n ≤ 1099511627776) :
    Calls Tryz.prog 70 #[.iface 75 (.agg #[.slice a n c])] w fun e w' => ∃ ad cp, e = .returned (.iface 75 (.agg #[.slice ad n cp])) ∧ OwnB w.heap.size l (.slice ad n cp) w' ∧ Below w.heap.size w w' := by
  have h1 := as_blob (.agg #[.slice a n c])
  have hB0 : Below w.heap.size w (w.alloc (.cells #[.slice a n c] 75)) := (Below.refl _ w).alloc (Nat.le_refl _) _
  have hll := hb.1
  have hcl : Calls Tryz.prog 62 #[.slice a n c] (w.alloc (.cells #[.slice a n c] 75)) fun e w' => ∃ ad cp, e = .returned (.slice ad n cp) ∧ Hid (w'.ownsRow (w.heap.size + 1) 5 1 (.slice ad n cp) n (cellsOf l) ∧ Below (w.heap.size + 1) (w.alloc (.cells #[.slice a n c] 75)) w') ∧ Boxed w' w.heap.size 75 (.slice a n c) := by
    refine (oclone_any a n c l _ (bytes_below hb hB0) hnil (by omega)).mono fun e w' ⟨v, he, ho, hB⟩ => ?_
    have hbx : Boxed w' w.heap.size 75 (.slice a n c) := (hB.block w.heap.size (by simp)).trans (World.alloc_heap_new _ _)
    rw [World.size_alloc] at ho hB
    obtain ⟨ad, cp, rfl, _⟩ := row_shape ho
    exact ⟨ad, cp, he, ⟨ho, hB⟩, hbx⟩
  go_enter Tryz.func70, Tryz.ntmps70
  go_wp2_with (go_at_call 62; refine hcl.mono ?_; clear hcl; rintro e w1 ⟨ad, cp, rfl, HO, hbx⟩; have cb := hbx.cell; have fb := hbx.frozen; have c2 := (hbx.set (.slice ad n cp)).cell)
  go_ret
  obtain ⟨ho, hB⟩ := HO.out
  refine ⟨ad, cp, rfl, ⟨?_⟩, (hB0.trans (hB.mono (by omega))).setCell (p := ⟨w.heap.size, 0, none⟩) (Nat.le_refl _) _⟩
  rw [hll]
  refine row_lower (ho.kept (row := some w.heap.size) (grownBy_setCell' w1 w.heap.size _) ?_) (by omega)
  exact .inr fun e => by have := (row_block ho w.heap.size e).1; omega
theorem Copy_blob (a : Option Addr) (n c : Nat) (l : List UInt8) (w : World) (hb : Bytes w a n l) (hnil : a = none → n = 0 ∧ c = 0) (hn : n ≤ 1099511627776) :
    Calls Tryz.prog 50 #[.iface 75 (.agg #[.slice a n c])] w fun e w' => ∃ ad cp, e = .returned (.iface 75 (.agg #[.slice ad n cp])) ∧ OwnB w.heap.size l (.slice ad n cp) w' ∧ Below w.heap.size w w' := by
  go_enter Tryz.func50, Tryz.ntmps50
  go_wp2_with (go_at_call 70; refine (fresh_blob a n c l _ hb hnil hn).mono ?_; rintro e w1 ⟨ad, cp, rfl, hO, hB⟩)
  go_ret
  exact ⟨ad, cp, rfl, hO, hB⟩

def blobN (n : Nat) : Nat := if 4096 < n then 0 else n + 1
end Go.Proofs.YtngfhhdmemldkaaGreat

/- A commit's copy, its type, the law's comparison of two commits. -/
namespace Go.Proofs.YtngfhhdmemldkaaGreat
open Go.RowKit

attribute [local go_sem] Oper.semAt_some

set_option maxHeartbeats 1000000 in
theorem clone_ids (a : Option Addr) (n c : Nat) (l : List Int) (w : World) (hb : Ids w a n l) (hnil : a = none → n = 0 ∧ c = 0) (hbig : n ≤ 1099511627776) :
    Calls Tryz.prog 52 #[.slice a n c] w fun e w' => ∃ v, e = .returned v ∧ w'.ownsRow w.heap.size 37 1 v n (l.map (Value.int .u64)) ∧ Below w.heap.size w w' := by
  have q22 : ∀ (w : World) (a : Option Addr) (n c n' c' : Nat), (binOp .eql 28 (.slice a n c) (.slice none n' c')).run Tryz.prog w = .ok (.bool a.isNone) w := fun w a n c n' c' => Lib.run_eql_slice_nil w _ _ a n c n' c' Tryz.underlying28
  cases a with
  | none =>
    obtain ⟨rfl, rfl⟩ := hnil rfl
    have hl : l = [] := List.eq_nil_of_length_eq_zero hb.1
    subst hl
    go_enter Tryz.func52, Tryz.ntmps52
    go_wp2
    go_ret
    exact ⟨_, rfl, World.ownsRow_nil _ _ _ _, Below.refl _ _⟩
  | some a =>
    have hB0 : Below w.heap.size w (w.alloc (.cells #[] 37)) := (Below.refl _ _).alloc (Nat.le_refl _) _
    have hb0 : Ids (w.alloc (.cells #[] 37)) (some a) n l := hb.below hB0
    have hr0 : (w.alloc (.cells #[] 37)).ownsRow w.heap.size 37 1 (.slice (some ⟨w.heap.size, 0, none⟩) 0 0) 0 (([] : List Int).map (Value.int .u64)) := World.ownsRow_made w #[] 0 (Nat.le_refl _) (by unfold maxLen; omega) rfl
    go_enter Tryz.func52, Tryz.ntmps52
    go_wp2_with (at_builtin; refine wpList_appI _ w.heap.size (by simp) rfl _ _ rfl (.slice (some ⟨w.heap.size, 0, none⟩) 0 0) 0 [] rfl hr0 (some a) n c l rfl hb0 hnil (by omega) ?_; intro v' w1 hown hgrow; obtain ⟨a', c', rfl, hnc, hnn⟩ := row_shape hown)
    go_ret
    simp only [Nat.zero_add, List.nil_append] at *
    refine ⟨_, rfl, hown, hB0.grown hgrow (by simp) (by intro k hk; cases hk; exact Nat.le_refl _)⟩
theorem Box5.set1 {W : World} {B : Nat} {a b c d e : Value} (h : Box5 W B a b c d e) (b' : Value) : Box5 (W.setCell ⟨B, 1, none⟩ b') B a b' c d e := by
  have h' : W.heap[B]? = _ := h
  have hl := h.lt
  unfold Box5
  simp [World.setCell, Array.getElem?_modify, h']
set_option maxRecDepth 20000 in
set_option maxHeartbeats 2000000 in
theorem fresh_com (t : Int) (pa : Option Addr) (pn pc : Nat) (ps : List Int) (au : ByteArray) (d : Int) (tx : ByteArray) (w : World) (hb : Ids w pa pn ps) (hnil : pa = none → pn = 0 ∧ pc = 0) (hn : pn ≤ 1099511627776) :
    Calls Tryz.prog 70 #[coV t pa pn pc au d tx] w fun e w' => ∃ ad cp, e = .returned (coV t ad pn cp au d tx) ∧ w'.ownsRow w.heap.size 37 1 (.slice ad pn cp) pn (ps.map (Value.int .u64)) ∧ Below w.heap.size w w' := by
  have h1 := no_blob_com (cmt t pa pn pc au d tx)
  have h2 := no_tree_com (cmt t pa pn pc au d tx)
  have h3 := as_commit (cmt t pa pn pc au d tx)
  have hB0 : Below w.heap.size w (w.alloc (.cells #[.int .u64 t, .slice pa pn pc, .string au, .int .i64 d, .string tx] 58)) := (Below.refl _ w).alloc (Nat.le_refl _) _
  have b0 := Box5.new w (.int .u64 t) (.slice pa pn pc) (.string au) (.int .i64 d) (.string tx)
  have hcl : Calls Tryz.prog 52 #[.slice pa pn pc] (w.alloc (.cells #[.int .u64 t, .slice pa pn pc, .string au, .int .i64 d, .string tx] 58)) fun e w' => ∃ ad cp, e = .returned (.slice ad pn cp) ∧ Hid (w'.ownsRow (w.heap.size + 1) 37 1 (.slice ad pn cp) pn (ps.map (Value.int .u64)) ∧ Below (w.heap.size + 1) (w.alloc (.cells #[.int .u64 t, .slice pa pn pc, .string au, .int .i64 d, .string tx] 58)) w') ∧ Box5 w' w.heap.size (.int .u64 t) (.slice pa pn pc) (.string au) (.int .i64 d) (.string tx) := by
    refine (clone_ids pa pn pc ps _ (hb.below hB0) hnil (by omega)).mono fun e w' ⟨v, he, ho, hB⟩ => ?_
    have hbx := b0.kept hB
    rw [World.size_alloc] at ho hB
    obtain ⟨ad, cp, rfl, _⟩ := row_shape ho
    exact ⟨ad, cp, he, ⟨ho, hB⟩, hbx⟩
  go_enter Tryz.func70, Tryz.ntmps70
  go_wp2_with (go_at_call 52; refine hcl.mono ?_; clear hcl; rintro e w1 ⟨ad, cp, rfl, HO, hbx⟩; obtain ⟨c0, c1, c2, c3, c4⟩ := hbx.cell; obtain ⟨f0, f1, f2, f3, f4⟩ := hbx.frozen; obtain ⟨d0, d1, d2, d3, d4⟩ := (hbx.set1 (.slice ad pn cp)).cell)
  go_ret
  obtain ⟨ho, hB⟩ := HO.out
  refine ⟨ad, cp, rfl, ?_, (hB0.trans (hB.mono (by omega))).setCell (p := ⟨w.heap.size, 1, none⟩) (Nat.le_refl _) _⟩
  have hg : w1.grownBy (w1.setCell ⟨w.heap.size, 1, none⟩ (.slice ad pn cp)) (some w.heap.size) :=
    ⟨rfl, rfl, rfl, by simp, fun k hk hne => Below.heap_setCell _ _ _ _ (fun e => hne (by rw [e]))⟩
  refine row_lower (ho.kept (row := some w.heap.size) hg ?_) (by omega)
  exact .inr fun e => by have := (row_block ho w.heap.size e).1; omega
theorem Copy_com (t : Int) (pa : Option Addr) (pn pc : Nat) (ps : List Int) (au : ByteArray) (d : Int) (tx : ByteArray) (w : World) (hb : Ids w pa pn ps) (hnil : pa = none → pn = 0 ∧ pc = 0) (hn : pn ≤ 1099511627776) :
    Calls Tryz.prog 50 #[coV t pa pn pc au d tx] w fun e w' => ∃ ad cp, e = .returned (coV t ad pn cp au d tx) ∧ w'.ownsRow w.heap.size 37 1 (.slice ad pn cp) pn (ps.map (Value.int .u64)) ∧ Below w.heap.size w w' := by
  go_enter Tryz.func50, Tryz.ntmps50
  go_wp2_with (go_at_call 70; refine (fresh_com t pa pn pc ps au d tx _ hb hnil hn).mono ?_; rintro e w1 ⟨ad, cp, rfl, hO, hB⟩)
  go_ret
  exact ⟨ad, cp, rfl, hO, hB⟩
end Go.Proofs.YtngfhhdmemldkaaGreat
