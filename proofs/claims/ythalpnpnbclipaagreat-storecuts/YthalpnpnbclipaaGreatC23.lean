import Derived.Test.YthalpnpnbclipaaGreatC22
import Derived.Test.YthalpnpnbclipaaGreatC05
/- What Decode answers, for all bytes; what the layer answers of what it read. -/
namespace Go.Proofs.YthalpnpnbclipaaGreat
open Go.RowKit

attribute [local go_sem] Oper.semAt_some

def obErr : Ob → Int
  | .blob b => blobErr b.length
  | .tree l => treeErrs l
  | .com c => comErr c.1 c.2.1 c.2.2.1 c.2.2.2.2
/-- how an object lies in memory -/
def ObAt : Ob → Value → World → Prop
  | .blob b, v, W => ∃ ad cp, v = .iface 65 (.agg #[.slice ad b.length cp]) ∧ Bytes W ad b.length b ∧ (ad = none → b.length = 0 ∧ cp = 0) ∧ b.length ≤ 9223372036854775807
  | .tree l, v, W => ∃ ad cp, v = trV ad l.length cp ∧ Ents W ad l.length l ∧ Fields l ∧ l.length ≤ 9223372036854775807
  | .com c, v, W => ∃ ad cp, v = coV c.1 ad c.2.1.length cp c.2.2.1 c.2.2.2.1 c.2.2.2.2 ∧ Com W c.1 ad c.2.1.length cp c.2.1 c.2.2.1 c.2.2.2.1 c.2.2.2.2
theorem ObAt.below {o : Ob} {v : Value} {W W' : World} (h : ObAt o v W) (hB : Below W.heap.size W W') : ObAt o v W' := by
  cases o with
  | blob b => obtain ⟨ad, cp, h1, h2, h3⟩ := h; exact ⟨ad, cp, h1, bytes_below h2 hB, h3⟩
  | tree l => obtain ⟨ad, cp, h1, h2, h3⟩ := h; exact ⟨ad, cp, h1, h2.below hB, h3⟩
  | com c => obtain ⟨ad, cp, h1, h2⟩ := h; exact ⟨ad, cp, h1, h2.below hB⟩
theorem fields_ok {l : List Ent} (h : ∀ x ∈ l, EntOk x) : Fields l := by
  refine ⟨fun j x hx => ?_, fun j x hx => ?_⟩
  · have := (h x (List.mem_of_getElem? hx)).1
    unfold maxLen
    omega
  · exact (h x (List.mem_of_getElem? hx)).2
theorem dec_at {w w' : World} {o : Ob} {x : Ending} (h : DecOut w (some o) x w') (ok : ObOk o) (hs : (obB o).length ≤ 549755813888) : ∃ v, x = .returned v ∧ ObAt o v w' := by
  cases o with
  | blob b =>
    obtain ⟨ad, cp, rfl, hb⟩ := h
    simp only [obB, List.length_cons] at hs
    exact ⟨_, rfl, some ad, cp, rfl, hb, (fun e => by cases e), by omega⟩
  | tree l =>
    obtain ⟨ad, cp, rfl, hb⟩ := h
    refine ⟨_, rfl, ad, cp, rfl, own_ents hb rfl, fields_ok ok.1, ?_⟩
    have : l.length ≤ (entsB l).length := by
      clear hb hs
      have ok1 := ok.1
      clear ok
      induction l with
      | nil => simp
      | cons x R ih =>
        have := ih (fun y hy => ok1 y (by simp [hy]))
        simp only [entsB, List.map_cons, List.flatten_cons, List.length_append, List.length_cons] at this ⊢
        have : 8 ≤ (entB x).length := by simp [entB, owide_len]; omega
        omega
    simp only [obB, treeB, List.length_cons, List.length_append] at hs
    omega
  | com c =>
    obtain ⟨ad, cp, rfl, hb⟩ := h
    obtain ⟨ad', c', e, hc1, hc2⟩ := row_shape hb
    cases e
    obtain ⟨ad', c', e, hI⟩ := own_ids hb
    cases e
    have h1 := ok.au
    have h2 := ok.tx
    refine ⟨_, rfl, ad, cp, rfl, ⟨ok.tree, hI, ok.pars, ⟨hc1, ?_, hc2⟩, by unfold maxLen; omega, ok.date, by unfold maxLen; omega⟩⟩
    have := parsB_len c.2.1 c.2.1.length (Nat.le_refl _)
    rw [List.take_length] at this
    simp only [obB, comBB, comB, List.length_append] at hs
    omega
theorem check_ob {o : Ob} {v : Value} (W : World) (h : ObAt o v W) : Calls Tryz.prog 69 #[v] W fun e w' => e = .returned (.int .i64 (obErr o)) ∧ Below W.heap.size W w' := by
  cases o with
  | blob b => obtain ⟨ad, cp, rfl, h2, h3⟩ := h; exact check_blob _ _ _ W
  | tree l => obtain ⟨ad, cp, rfl, h2, h3, h4⟩ := h; exact check_tree _ _ _ l W h2 h3.name h4
  | com c => obtain ⟨ad, cp, rfl, h2⟩ := h; exact check_com _ _ _ _ _ _ _ _ W h2
theorem Encode_ob {o : Ob} {v : Value} (W : World) (h : ObAt o v W) (h0 : obErr o = 0) : Calls Tryz.prog 35 #[v] W fun e w' => ∃ ad cp, e = .returned (.tuple #[.slice ad (obB o).length cp, .int .i64 0]) ∧ Bytes w' ad (obB o).length (obB o) ∧ Below W.heap.size W w' := by
  cases o with
  | blob b =>
    obtain ⟨ad, cp, rfl, h2, h3, h4⟩ := h
    have hb : b.length ≤ 4096 := by
      have h0' : blobErr b.length = 0 := h0
      unfold blobErr at h0'
      split at h0'
      · omega
      · omega
    refine (Encode_blob ad _ cp b W h2 h3 hb).mono fun e w' hx => ?_
    obtain ⟨v, rfl, ho, hB⟩ := hx
    have ho' : OwnB W.heap.size (98 :: b) v w' := ⟨ho⟩
    obtain ⟨a', c', rfl, _⟩ := ho'.shape rfl
    exact ⟨a', c', rfl, ho'.bytes rfl, hB⟩
  | tree l =>
    obtain ⟨ad, cp, rfl, h2, h3, h4⟩ := h
    refine (Encode_tree ad _ cp l W h2 h3 h4 h0).mono fun e w' hx => ?_
    obtain ⟨v, rfl, ho', hB⟩ := hx
    obtain ⟨a', c', rfl, _⟩ := ho'.shape rfl
    exact ⟨a', c', rfl, ho'.bytes rfl, hB⟩
  | com c =>
    obtain ⟨ad, cp, rfl, h2⟩ := h
    refine (Encode_com _ _ _ _ _ _ _ _ W h2 h0).mono fun e w' hx => ?_
    obtain ⟨v, rfl, ho', hB⟩ := hx
    obtain ⟨a', c', rfl, _⟩ := ho'.shape rfl
    exact ⟨a', c', rfl, ho'.bytes rfl, hB⟩
def obK : Ob → Int
  | .blob _ => 1
  | .tree _ => 2
  | .com _ => 3
theorem Kind_ob {o : Ob} {v : Value} (W : World) (h : ObAt o v W) : Calls Tryz.prog 45 #[v] W fun e w' => e = .returned (.int .i64 (obK o)) ∧ w' = W := by
  cases o with
  | blob b => obtain ⟨ad, cp, rfl, _⟩ := h; exact Kind_blob _ W
  | tree l => obtain ⟨ad, cp, rfl, _⟩ := h; exact kind_tree _ W
  | com c => obtain ⟨ad, cp, rfl, _⟩ := h; exact Kind_com _ W
theorem encode_ob {o : Ob} {v : Value} (W : World) (h : ObAt o v W) (h0 : obErr o = 0) : Calls Tryz.prog 70 #[v] W fun e w' => ∃ ad cp, e = .returned (.slice ad (obB o).length cp) ∧ Bytes w' ad (obB o).length (obB o) ∧ Below W.heap.size W w' := by
  cases o with
  | blob b =>
    obtain ⟨ad, cp, rfl, h2, h3, h4⟩ := h
    have hb : b.length ≤ 4096 := by
      have h0' : blobErr b.length = 0 := h0
      unfold blobErr at h0'
      split at h0'
      · omega
      · omega
    refine (encode_blob ad _ cp b W h2 h3 (by omega)).mono fun e w' hx => ?_
    obtain ⟨v, rfl, ho, hB⟩ := hx
    have ho' : OwnB W.heap.size (98 :: b) v w' := ⟨ho⟩
    obtain ⟨a', c', rfl, _⟩ := ho'.shape rfl
    exact ⟨a', c', rfl, ho'.bytes rfl, hB⟩
  | tree l =>
    obtain ⟨ad, cp, rfl, h2, h3, h4⟩ := h
    obtain ⟨f1, f2⟩ := fits_of h3 h0
    refine (encode_tree ad _ cp l W h2 f2 f1).mono fun e w' hx => ?_
    obtain ⟨a', m, c', rfl, hm, ho', hB⟩ := hx
    subst hm
    exact ⟨a', c', rfl, ho'.bytes rfl, hB⟩
  | com c =>
    obtain ⟨ad, cp, rfl, h2⟩ := h
    refine (encode_com _ _ _ _ _ _ _ _ W h2 h0).mono fun e w' hx => ?_
    obtain ⟨a', m, c', rfl, hm, ho', hB⟩ := hx
    subst hm
    exact ⟨a', c', rfl, ho'.bytes rfl, hB⟩
theorem Same_ob {o o' : Ob} {v v' : Value} (W : World) (h : ObAt o v W) (h' : ObAt o' v' W) (h0 : obErr o = 0) (h0' : obErr o' = 0) :
    Calls Tryz.prog 38 #[v, v'] W fun e w' => e = .returned (.bool (decide (obB o = obB o'))) ∧ Below W.heap.size W w' := by
  have c1 := check_ob W h
  rw [h0] at c1
  have c2 := fun X hB => check_ob X (h'.below (W' := X) hB)
  rw [h0'] at c2
  have e1 := fun X hB => encode_ob X (h.below (W' := X) hB) h0
  have e2 := fun X hB => encode_ob X (h'.below (W' := X) hB) h0'
  generalize obB o = TA at *
  generalize obB o' = TB at *
  go_enter Tryz.func38, Tryz.ntmps38
  go_wp2_with first
    | (go_at_call 69; refine c1.mono ?_; clear c1; rintro e w1 ⟨rfl, hB1⟩)
    | (go_at_call 69; refine (c2 _ hB1).mono ?_; clear c2; rintro e w2 ⟨rfl, hB2⟩; have hB : Below W.heap.size W w2 := hB1.trans (hB2.mono hB1.size); clear hB1 hB2)
    | (go_at_call 70; refine (e1 _ hB).mono ?_; clear e1; rintro e w3 ⟨ad, cp, rfl, hy3, hB3⟩; have hBB : Below W.heap.size W w3 := hB.trans (hB3.mono hB.size); clear hB hB3)
    | (go_at_call 70; refine (e2 _ hBB).mono ?_; clear e2; rintro e w4 ⟨ad4, cp4, rfl, hy4, hB4⟩; have hy3' := bytes_below hy3 hB4; clear hy3)
    | (go_at_call 72; refine (oequal_any _ ad ad4 _ _ cp cp4 TA TB hy3' hy4).mono ?_; rintro e w5 ⟨rfl, h5⟩; subst h5)
  go_ret
  exact ⟨rfl, hBB.trans (hB4.mono hBB.size)⟩
/-- what Decode answers -/
def decG (l : List UInt8) : Option Ob := (decR l).bind fun o => if obErr o = 0 then some o else none
def GotO : Option Ob → Ending → World → Prop
  | none, x, _ => x = .returned (.tuple #[.nilIface, .int .i64 8])
  | some o, x, W => ∃ v, x = .returned (.tuple #[v, .int .i64 0]) ∧ ObAt o v W
theorem Decode_any (a : Option Addr) (n cap : Nat) (l : List UInt8) (w : World) (hb : Bytes w a n l) (hn : n ≤ 549755813888) :
    Calls Tryz.prog 64 #[.slice a n cap] w fun x w' => GotO (decG l) x w' ∧ Below w.heap.size w w' := by
  have hd := decode_any a n cap l w hb hn
  have hll := hb.1
  unfold decG
  cases hr : decR l with
  | none =>
    rw [hr] at hd
    have hd' : Calls Tryz.prog 93 #[.slice a n cap] w fun x w' => x = .returned .nilIface ∧ Below w.heap.size w w' := hd
    simp only [Option.bind_none]
    clear hd hr
    go_enter Tryz.func64, Tryz.ntmps64
    go_wp2_with first
      | (go_at_call 93; refine hd'.mono ?_; clear hd'; rintro y w1 ⟨rfl, hB1⟩)
      | (go_at_call 69; refine (ocheck_odd _ odd_nil _).mono ?_; rintro y w2 ⟨rfl, hw2⟩; subst hw2)
    go_ret2
    exact ⟨rfl, hB1⟩
  | some o =>
    rw [hr] at hd
    obtain ⟨hob, ok⟩ := decR_bytes hr (by omega)
    have hd' : Calls Tryz.prog 93 #[.slice a n cap] w fun x w' => ∃ v, x = .returned v ∧ ObAt o v w' ∧ Below w.heap.size w w' := hd.mono fun x w' hx => by
      obtain ⟨v, h1, h2⟩ := dec_at hx.1 ok (by rw [hob]; omega)
      exact ⟨v, h1, h2, hx.2⟩
    simp only [Option.bind_some]
    have HK : Hid (∀ W v, ObAt o v W → Calls Tryz.prog 69 #[v] W fun e w' => e = .returned (.int .i64 (obErr o)) ∧ Below W.heap.size W w') := fun W v h => check_ob W h
    generalize obErr o = E at HK ⊢
    clear hd hr hob ok
    by_cases hE : E = 0
    · subst hE
      rw [if_pos rfl]
      go_enter Tryz.func64, Tryz.ntmps64
      go_wp2_with first
        | (go_at_call 93; refine hd'.mono ?_; clear hd'; rintro y w1 ⟨v, rfl, hO1, hB1⟩)
        | (go_at_call 69; refine (HK.out _ _ hO1).mono ?_; rintro y w2 ⟨rfl, hB2⟩)
      go_ret2
      exact ⟨⟨v, rfl, hO1.below hB2⟩, hB1.trans (hB2.mono hB1.size)⟩
    · rw [if_neg hE]
      have e1 : (E == 0) = false := by simp [hE]
      have e2 : (E != 0) = true := by simp [hE]
      go_enter Tryz.func64, Tryz.ntmps64
      go_wp2_with first
        | (go_at_call 93; refine hd'.mono ?_; clear hd'; rintro y w1 ⟨v, rfl, hO1, hB1⟩)
        | (go_at_call 69; refine (HK.out _ _ hO1).mono ?_; rintro y w2 ⟨rfl, hB2⟩)
      go_ret2
      exact ⟨rfl, hB1.trans (hB2.mono hB1.size)⟩
theorem decG_some {l : List UInt8} {o : Ob} (h : decG l = some o) (hl : l.length ≤ 549755813888) : decR l = some o ∧ obErr o = 0 ∧ obB o = l ∧ ObOk o := by
  unfold decG at h
  cases hr : decR l with
  | none => rw [hr] at h; cases h
  | some p =>
    rw [hr, Option.bind_some] at h
    by_cases h0 : obErr p = 0
    · rw [if_pos h0] at h
      cases h
      obtain ⟨h1, h2⟩ := decR_bytes hr hl
      exact ⟨rfl, h0, h1, h2⟩
    · rw [if_neg h0] at h; cases h
def isBlob : Ob → Bool
  | .blob _ => true
  | _ => false
theorem longer_none {l : List UInt8} {o : Ob} (h : decR l = some o) (hl : l.length ≤ 549755813888) (hb : isBlob o = false) (x : UInt8) : decR (l ++ [x]) = none := by
  obtain ⟨h1, h2⟩ := decR_bytes h hl
  rw [← h1, decR_obB o h2 [x]]
  cases o with
  | blob b => cases hb
  | tree l => simp
  | com c => simp
theorem decG_none {l : List UInt8} (h : decR l = none) : decG l = none := by unfold decG; rw [h]; rfl
theorem obB_head (o : Ob) : (obB o).head? = some (match o with | .blob _ => 98 | .tree _ => 116 | .com _ => 99) := by
  cases o with
  | blob b => rfl
  | tree l => rfl
  | com c => simp [obB, comBB, comB]
theorem obB_two {o : Ob} (h : isBlob o = false) : 2 ≤ (obB o).length := by
  cases o with
  | blob b => cases h
  | tree l => have := shortF_pos 9 l.length; simp only [obB, treeB, List.length_cons, List.length_append, short]; omega
  | com c => simp only [obB, comBB, comB, List.length_append, owide_len, List.length_cons]; omega
theorem shorter_none {l : List UInt8} {o : Ob} (h : decR l = some o) (hl : l.length ≤ 549755813888) (hb : isBlob o = false) : decR (l.take (l.length - 1)) = none := by
  cases hr : decR (l.take (l.length - 1)) with
  | none => rfl
  | some o' =>
    exfalso
    obtain ⟨h1, h2⟩ := decR_bytes h hl
    obtain ⟨g1, g2⟩ := decR_bytes hr (by rw [List.length_take]; omega)
    have h3 := obB_two hb
    rw [h1] at h3
    have hh : (l.take (l.length - 1)).head? = l.head? := by
      cases l with
      | nil => simp at h3
      | cons c t =>
        cases t with
        | nil => simp at h3
        | cons d t => simp
    have k1 := obB_head o
    have k2 := obB_head o'
    rw [h1] at k1
    rw [g1, hh, k1] at k2
    have hb' : isBlob o' = false := by
      cases o' with
      | blob b => cases o <;> simp at k2; cases hb
      | tree _ => rfl
      | com _ => rfl
    have hx := longer_none hr (by rw [List.length_take]; omega) hb' (l[l.length - 1]'(by omega))
    have e : l.take (l.length - 1) ++ [l[l.length - 1]'(by omega)] = l := by
      have := List.take_append_getElem (l := l) (i := l.length - 1) (by omega)
      rw [show l.length - 1 + 1 = l.length by omega, List.take_length] at this
      exact this
    rw [e, h] at hx
    cases hx
end Go.Proofs.YthalpnpnbclipaaGreat

/- A blob: its types, its copy, the document's bytes. -/
namespace Go.Proofs.YthalpnpnbclipaaGreat
open Go.RowKit

theorem fresh_blob (a : Option Addr) (n c : Nat) (l : List UInt8) (w : World) (hb : Bytes w a n l) (hnil : a = none → n = 0 ∧ c = 0) (hn : n ≤ 1099511627776) :
    Calls Tryz.prog 73 #[.iface 65 (.agg #[.slice a n c])] w fun e w' => ∃ ad cp, e = .returned (.iface 65 (.agg #[.slice ad n cp])) ∧ OwnB w.heap.size l (.slice ad n cp) w' ∧ Below w.heap.size w w' := by
  have h1 := as_blob (.agg #[.slice a n c])
  have hB0 : Below w.heap.size w (w.alloc (.cells #[.slice a n c] 65)) := (Below.refl _ w).alloc (Nat.le_refl _) _
  have hll := hb.1
  have hcl : Calls Tryz.prog 63 #[.slice a n c] (w.alloc (.cells #[.slice a n c] 65)) fun e w' => ∃ ad cp, e = .returned (.slice ad n cp) ∧ Hid (w'.ownsRow (w.heap.size + 1) 5 1 (.slice ad n cp) n (cellsOf l) ∧ Below (w.heap.size + 1) (w.alloc (.cells #[.slice a n c] 65)) w') ∧ Boxed w' w.heap.size 65 (.slice a n c) := by
    refine (oclone_any a n c l _ (bytes_below hb hB0) hnil (by omega)).mono fun e w' ⟨v, he, ho, hB⟩ => ?_
    have hbx : Boxed w' w.heap.size 65 (.slice a n c) := (hB.block w.heap.size (by simp)).trans (World.alloc_heap_new _ _)
    rw [World.size_alloc] at ho hB
    obtain ⟨ad, cp, rfl, _⟩ := row_shape ho
    exact ⟨ad, cp, he, ⟨ho, hB⟩, hbx⟩
  go_enter Tryz.func73, Tryz.ntmps73
  go_wp2_with (go_at_call 63; refine hcl.mono ?_; clear hcl; rintro e w1 ⟨ad, cp, rfl, HO, hbx⟩; have cb := hbx.cell; have fb := hbx.frozen; have c2 := (hbx.set (.slice ad n cp)).cell)
  go_ret
  obtain ⟨ho, hB⟩ := HO.out
  refine ⟨ad, cp, rfl, ⟨?_⟩, (hB0.trans (hB.mono (by omega))).setCell (p := ⟨w.heap.size, 0, none⟩) (Nat.le_refl _) _⟩
  rw [hll]
  refine row_lower (ho.kept (row := some w.heap.size) (grownBy_setCell' w1 w.heap.size _) ?_) (by omega)
  exact .inr fun e => by have := (row_block ho w.heap.size e).1; omega
theorem Copy_blob (a : Option Addr) (n c : Nat) (l : List UInt8) (w : World) (hb : Bytes w a n l) (hnil : a = none → n = 0 ∧ c = 0) (hn : n ≤ 1099511627776) :
    Calls Tryz.prog 41 #[.iface 65 (.agg #[.slice a n c])] w fun e w' => ∃ ad cp, e = .returned (.iface 65 (.agg #[.slice ad n cp])) ∧ OwnB w.heap.size l (.slice ad n cp) w' ∧ Below w.heap.size w w' := by
  go_enter Tryz.func41, Tryz.ntmps41
  go_wp2_with (go_at_call 73; refine (fresh_blob a n c l _ hb hnil hn).mono ?_; rintro e w1 ⟨ad, cp, rfl, hO, hB⟩)
  go_ret
  exact ⟨ad, cp, rfl, hO, hB⟩

theorem refCheckBlob_any (a : Option Addr) (n c : Nat) (w : World) : Calls Tryz.prog 65 #[.slice a n c] w fun e w' => e = .returned (.int .i64 (blobErr n)) ∧ w' = w := by
  unfold blobErr
  by_cases h : 4096 < n
  · have i1 : (4096 : Int) < n := by omega
    rw [if_pos h]
    go_enter Tryz.func65, Tryz.ntmps65
    go_wp2
    go_ret
    exact ⟨rfl, rfl⟩
  · have i1 : ¬ (4096 : Int) < n := by omega
    rw [if_neg h]
    go_enter Tryz.func65, Tryz.ntmps65
    go_wp2
    go_ret
    exact ⟨rfl, rfl⟩
def blobN (n : Nat) : Nat := if 4096 < n then 0 else n + 1
theorem refBlob_any (a : Option Addr) (n c : Nat) (l : List UInt8) (w : World) (hb : Bytes w a n l) (hnil : a = none → n = 0 ∧ c = 0) :
    Calls Tryz.prog 32 #[.slice a n c] w fun e w' => ∃ ad cp, e = .returned (.tuple #[.slice ad (blobN n) cp, .int .i64 (blobErr n)]) ∧ Bytes w' ad (blobN n) (if 4096 < n then [] else 98 :: l) ∧ Below w.heap.size w w' := by
  have hck := refCheckBlob_any a n c w
  unfold blobErr at hck ⊢
  unfold blobN
  by_cases h : 4096 < n
  · rw [if_pos h] at hck
    rw [if_pos h, if_pos h, if_pos h]
    go_enter Tryz.func32, Tryz.ntmps32
    go_wp2_with (go_at_call 65; refine hck.mono ?_; rintro e w1 ⟨rfl, h1⟩; subst h1)
    go_ret2
    exact ⟨none, 0, rfl, ⟨rfl, fun h => absurd h (by omega)⟩, Below.refl _ _⟩
  · rw [if_neg h] at hck
    rw [if_neg h, if_neg h, if_neg h]
    have hB0 : Below w.heap.size w (w.alloc (.cells #[.int .u8 98] 5)) := (Below.refl _ w).alloc (Nat.le_refl _) _
    have hr0 : (w.alloc (.cells #[.int .u8 98] 5)).ownsRow w.heap.size 5 1 (.slice (some ⟨w.heap.size, 0, none⟩) 1 1) 1 (cellsOf [98]) := World.ownsRow_lit w #[.int .u8 98] 1 (Nat.le_refl _) (by unfold maxLen; omega) rfl
    have hb0 := bytes_below hb hB0
    have hll := hb.1
    go_enter Tryz.func32, Tryz.ntmps32
    go_wp2_with first
      | (go_at_call 65; refine hck.mono ?_; clear hck; rintro e w1 ⟨rfl, h1⟩; subst h1)
      | (at_builtin; refine wpList_app _ _ (by simp) rfl _ _ rfl _ 1 _ rfl hr0 a n c l rfl hb0 hnil (by omega) ?_; intro v' w2 hown hgrow _; have hO : OwnB w1.heap.size (98 :: l) v' w2 := ⟨by have h := hown; rw [← cellsOf_append] at h; simp only [List.length_cons, hll, List.singleton_append] at h ⊢; rw [Nat.add_comm n 1]; exact h⟩; obtain ⟨ad, cp, hv, _⟩ := hO.shape (n := n + 1) (by simp [hll]); subst hv; clear hown)
    go_ret2
    exact ⟨ad, cp, rfl, hO.bytes (by simp [hll]), hB0.grown hgrow (by simp) (by intro k hk; cases hk; exact Nat.le_refl _)⟩
end Go.Proofs.YthalpnpnbclipaaGreat
