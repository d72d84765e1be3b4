import Derived.Test.YtiafhbpklddlnaaGreatDoorE23
import Derived.Test.YtiafhbpklddlnaaGreatDoorE07
import Derived.Test.YtiafhbpklddlnaaGreatDoorE11
import Derived.Test.YtiafhbpklddlnaaGreatDoorE16
/- The walk of encode: the payload of a record that says changes. -/
namespace Go.Proofs.YtiafhbpklddlnaaGreatDoor
open Go.RowKit Go.Maps

attribute [local go_sem] Oper.semAt_some

def chB (x : Ch) : List UInt8 := (short x.1.size ++ x.1.data.toList) ++ wide x.2.toNat
def chsB (l : List Ch) : List UInt8 := (l.map chB).flatten
/-- the payload of a record that says changes -/
def encR (l : List Ch) : List UInt8 := short l.length ++ chsB l
theorem chsB_take (l : List Ch) (k : Nat) (x : Ch) (h : l[k]? = some x) : chsB (l.take (k + 1)) = chsB (l.take k) ++ chB x := by
  have hk := (List.getElem?_eq_some_iff.1 h).1
  have hx : l[k] = x := (List.getElem?_eq_some_iff.1 h).2
  rw [List.take_succ_eq_append_getElem hk, hx]
  simp [chsB]
theorem chsB_take_le (l : List Ch) (k : Nat) : (chsB (l.take k)).length ≤ (chsB l).length := by
  have : chsB l = chsB (l.take k) ++ chsB (l.drop k) := by
    conv => lhs; rw [← List.take_append_drop k l]
    simp only [chsB, List.map_append, List.flatten_append]
  rw [this, List.length_append]; omega
theorem bytes_nil (w : World) : Bytes w none 0 [] := ⟨rfl, fun h => absurd h (by omega)⟩
theorem wide_len8 (x : Nat) : (wide x).length = 8 := by simp [wide, wideTo]

set_option maxRecDepth 100000 in
set_option maxHeartbeats 4000000 in
theorem encode_any (w : World) (a : Option Addr) (m c : Nat) (l : List Ch) (hl : Chs w a m l) (hi : ∀ x ∈ l, 0 ≤ x.2 ∧ x.2 ≤ 18446744073709551615) (hm : m ≤ 1000000000000) (hE : (encR l).length ≤ 281474976710640) :
    Calls Tryz.prog 27 #[.slice a m c] w fun e w' => ∃ gg cp, e = .returned (.slice (some ⟨gg, 0, none⟩) (encR l).length cp) ∧ Bytes w' (some ⟨gg, 0, none⟩) (encR l).length (encR l) ∧ w.heap.size ≤ gg ∧ Below w.heap.size w w' := by
  have hll := hl.1
  obtain ⟨E, hEE⟩ : ∃ E, E = encR l := ⟨_, rfl⟩
  rw [← hEE]
  have HE : Hid (E = encR l) := hEE
  clear hEE
  go_enter Tryz.func27, Tryz.ntmps27
  have hu := putUint_any none 0 0 m [] w (bytes_nil w) (by omega) (by omega)
  have hsl := short_len m
  go_wp2_with (go_at_call 58; refine hu.mono ?_; clear hu; rintro e w1 ⟨g1, c1, rfl, ho1, hg1⟩; have H1 : Hid (w1.ownsRow w.heap.size 5 1 (.slice (some ⟨g1, 0, none⟩) (0 + (short m).length) c1) (0 + (short m).length) (cellsOf ([] ++ short m)) ∧ w.grownBy w1 none) := ⟨ho1, hg1⟩; clear ho1 hg1)
  go_loopw [3, 12] (fun v i wr => ∃ (k gg p cp : Nat), k ≤ m ∧ i = .int .i64 (k : Int) ∧ v = .slice (some ⟨gg, 0, none⟩) p cp ∧ Hid (p = (short m ++ chsB (l.take k)).length ∧ Bytes wr (some ⟨gg, 0, none⟩) p (short m ++ chsB (l.take k)) ∧ Below w.heap.size w wr ∧ w.heap.size ≤ gg)) (fun _ i _ => m - (intOf i).toNat)
  case atStart => exact ⟨0, g1, _, c1, Nat.zero_le _, rfl, rfl, by simp [chsB], by have := (ownsRow_toBytes H1.out.1).1; simpa [chsB] using this, (Below.refl _ w).grown H1.out.2 (Nat.le_refl _) (by simp), ((ownsRow_toBytes H1.out.1).2 _ rfl).1⟩
  case round =>
    obtain ⟨k, gg, p, cp, hk, rfl, rfl, H⟩ := hrel
    by_cases hlt : k < m
    · obtain ⟨x, hx⟩ : ∃ x, l[k]? = some x := ⟨_, List.getElem?_eq_getElem (by omega)⟩
      obtain ⟨b1, o1, rfl, hc1⟩ := hl.2 (by omega)
      obtain ⟨t1, t2⟩ := hc1 k x hx
      obtain ⟨hi0, hi1⟩ := hi x (List.mem_of_getElem? hx)
      obtain ⟨hp, hby, hB, hgg⟩ := H.out
      have q1 := (hB.cell (p := ⟨b1, o1 + k * 2, none⟩) (World.block_lt_of_cell? w _ t1)).trans t1
      have q2 := (hB.cell (p := ⟨b1, o1 + k * 2 + 1, none⟩) (World.block_lt_of_cell? w _ t2)).trans t2
      have hst := chsB_take l k x hx
      have hle := chsB_take_le l (k + 1)
      rw [hst] at hle
      simp only [encR, List.length_append, hll] at hE
      have i2 : (k : Int) < (m : Int) := by omega
      have i3 : ¬ m ≤ k := by omega
      clear hc1 hx t1 t2 H
      obtain ⟨nm, id⟩ := x
      simp only [chB, List.length_append, wide_len8] at q1 q2 hst hle hi0 hi1
      obtain ⟨idn, rfl⟩ : ∃ z : Nat, id = (z : Int) := ⟨id.toNat, by omega⟩
      have hnl : nm.data.toList.length = nm.size := by simp
      rw [hnl] at hle
      have hpl : p = (short m).length + (chsB (l.take k)).length := by rw [hp, List.length_append]
      have hBa : Below wr.heap.size wr (wr.alloc (.cells #[.string nm, .int .u64 (idn : Int)] 38)) := (Below.refl _ wr).alloc (Nat.le_refl _) _
      have hby1 := (Turn.of_below (fun _ => False) hBa).bytes hby (fun _ _ _ => id)
      have hT := putText_any (some ⟨gg, 0, none⟩) p cp nm _ (wr.alloc (.cells #[.string nm, .int .u64 (idn : Int)] 38)) hby1 (by omega)
      have HB : Hid (Below w.heap.size w (wr.alloc (.cells #[.string nm, .int .u64 (idn : Int)] 38))) := hB.trans (hBa.mono hB.size)
      have d0 : (wr.alloc (.cells #[.string nm, .int .u64 (idn : Int)] 38)).cell? ⟨wr.heap.size, 0, none⟩ = some (.string nm) := by simp only [World.cell?, World.alloc_heap_new]; rfl
      have d1 : (wr.alloc (.cells #[.string nm, .int .u64 (idn : Int)] 38)).cell? ⟨wr.heap.size, 1, none⟩ = some (.int .u64 (idn : Int)) := by simp only [World.cell?, World.alloc_heap_new]; rfl
      have HST : Hid (chsB (l.take (k + 1)) = chsB (l.take k) ++ (short nm.size ++ nm.data.toList ++ wide idn)) := show _ = _ by simpa using hst
      have hlt8 : Hid (p + (short nm.size).length + nm.size + 8 ≤ 281474976710640 ∧ idn < 18446744073709551616) := ⟨by omega, by omega⟩
      have HP : Hid (p = (short m).length + (chsB (l.take k)).length) := hpl
      clear hBa hB hby hby1 hp hpl hle hst hnl hE
      go_wp2_with first
        | (go_at_call 59; refine hT.mono ?_; clear hT; rintro e w2 ⟨g2, m2, c2, hm2, rfl, ho2, hg2⟩; have hB2 : Below (wr.alloc (.cells #[.string nm, .int .u64 (idn : Int)] 38)).heap.size (wr.alloc (.cells #[.string nm, .int .u64 (idn : Int)] 38)) w2 := (Below.refl _ _).grown hg2 (Nat.le_refl _) (by simp); have q4 := (hB2.cell (p := ⟨wr.heap.size, 1, none⟩) (by simp)).trans d1; have HB2 : Hid (Below w.heap.size w w2) := HB.out.trans (hB2.mono HB.out.size); have hW := putWord_any (some ⟨g2, 0, none⟩) m2 c2 idn _ w2 (ownsRow_toBytes ho2).1 (by have := hlt8.out; omega) hlt8.out.2; have HM : Hid (m2 = p + (short nm.size).length + nm.size) := hm2; clear hm2 ho2 hg2 hB2)
        | (go_at_call 60; refine hW.mono ?_; clear hW; rintro e w3 ⟨g3, c3, rfl, ho3, hg3⟩; have H3 : Hid (Bytes w3 (some ⟨g3, 0, none⟩) (m2 + 8) (((short m ++ chsB (l.take k)) ++ (short nm.size ++ nm.data.toList)) ++ wide idn) ∧ Below w.heap.size w w3 ∧ w.heap.size ≤ g3) := ⟨(ownsRow_toBytes ho3).1, HB2.out.trans (((Below.refl _ w2).grown hg3 (Nat.le_refl _) (by simp)).mono HB2.out.size), Nat.le_trans HB2.out.size ((ownsRow_toBytes ho3).2 _ rfl).1⟩; clear ho3 hg3)
      go_roundw
      case rel => exact ⟨k + 1, g3, m2 + 8, c3, by omega, by simp, rfl, by rw [HST.out, HM.out, HP.out]; simp [wide_len8]; omega, by rw [HST.out]; have := H3.out.1; simpa using this, H3.out.2⟩
      case measure => simp [intOf]; omega
    · obtain rfl : k = m := by omega
      have i2 : ¬ (k : Int) < (k : Int) := by omega
      have e0 : l.take k = l := List.take_of_length_le (by omega)
      rw [e0] at H
      obtain ⟨hp, hby, hB, hgg⟩ := H.out
      have e1 : encR l = short k ++ chsB l := by unfold encR; rw [hll]
      rw [← e1, ← HE.out] at hp hby
      subst hp
      go_wp2
      go_ret
      exact ⟨gg, ⟨cp, rfl⟩, hby, hgg, hB⟩
end Go.Proofs.YtiafhbpklddlnaaGreatDoor

/- Plain: a disk that is not cut, with a file that is just a row of records: what Append and Open make of it. -/
namespace Go.Proofs.YtiafhbpklddlnaaGreatDoor
open Go.RowKit

/-- the disk's file of that name has just these records; no cut is said -/
structure JGd (S : DG) (nm : List UInt8) (rs : List (List UInt8)) : Prop where
  bs : S.f nm = if rs = [] then none else some (fileB rs)
  cut : S.cut = false
  n : S.n ≤ 1
  n0 : rs = [] → S.n = 0
  wr : S.wr ≤ (fileB rs).length
  all : ∀ r ∈ rs, r.length ≤ 262144

theorem JGd.get {S : DG} {nm : List UInt8} {rs : List (List UInt8)} (h : JGd S nm rs) : S.bs nm = fileB rs := by
  unfold DG.bs; rw [h.bs]
  split
  · rename_i e; subst e; rfl
  · rfl

theorem JGd.new (nm : List UInt8) : JGd ⟨fun _ => none, 0, 0, false, 0⟩ nm [] := ⟨rfl, rfl, by simp, by simp, by simp, by simp⟩

theorem JGd.opened {S : DG} {nm : List UInt8} {rs : List (List UInt8)} (h : JGd S nm rs) : S.opened nm = (S, 0) ∧ parseL (S.bs nm) = (rs, (fileB rs).length, false) := by
  have hp : parseL (S.bs nm) = (rs, (fileB rs).length, false) := by rw [h.get]; exact parseL_whole rs h.all
  refine ⟨?_, hp⟩
  unfold DG.opened
  rw [hp, if_neg (by simp), if_neg (by rw [h.get]; simp)]

theorem fileB_ne {rs : List (List UInt8)} (h : rs ≠ []) : fileB rs ≠ [] := by
  cases rs with
  | nil => exact absurd rfl h
  | cons r rs => intro e; simp [fileB, recB_ne] at e

theorem JGd.app {S : DG} {nm : List UInt8} {rs : List (List UInt8)} (h : JGd S nm rs) (hnm : nameB nm = true) (l : List UInt8) (hl : l.length ≤ 262144) (hfit : (recB l).length + (fileB rs).length ≤ 4194304) :
    ∃ S', S.app nm (recB l) = (S', 0) ∧ JGd S' nm (rs ++ [l]) := by
  have hne := recB_ne l
  have hpos := (recB_pos l).1
  have hp := pieces_free ((recB l).length + 1) S nm (recB l) h.cut (Nat.le_refl _)
  rw [if_neg hne] at hp
  refine ⟨{ S with wr := S.wr + ((recB l).length + 31) / 32 }.add nm (recB l), ?_, ?_⟩
  · unfold DG.app
    rw [if_neg (by rw [hnm]; decide), if_neg ?_, if_neg (by simp [hne]), hp]
    rw [h.get]
    have hn := h.n
    intro e
    rcases e with e | e
    · omega
    · omega
  · have hbs := h.get
    unfold DG.bs at hbs
    refine ⟨?_, h.cut, ?_, by simp, ?_, ?_⟩
    · show (if nm = nm then _ else _) = _
      rw [if_pos rfl, if_neg (by simp), fileB_snoc, ← hbs]
    · show (if (S.f nm).isSome then S.n else S.n + 1) ≤ 1
      by_cases e : rs = []
      · rw [h.n0 e]; split <;> omega
      · rw [h.bs, if_neg e]; simp; exact h.n
    · show S.wr + ((recB l).length + 31) / 32 ≤ _
      have := h.wr
      rw [fileB_snoc, List.length_append]
      omega
    · intro r hr
      rcases List.mem_append.1 hr with hr | hr
      · exact h.all r hr
      · simp at hr; subst hr; exact hl

/-- a Journal and its disk, with blocks among those of Q -/
def JL (Q : Nat → Prop) (w : World) (j d : Nat) (nm : ByteArray) (rs : List (List UInt8)) (S : DG) : Prop :=
  ∃ F G, JAt w j d nm rs (fileB rs).length false F ∧ IsDisk w d S G ∧ (∀ k, F k → ¬ G k) ∧ (∀ k, F k → Q k) ∧ (∀ k, G k → Q k) ∧ (∀ k, Q k → k < w.heap.size)

theorem JL.below {Q : Nat → Prop} {w w' : World} {j d : Nat} {nm : ByteArray} {rs : List (List UInt8)} {S : DG} (h : JL Q w j d nm rs S) (hB : Below w.heap.size w w') : JL Q w' j d nm rs S := by
  obtain ⟨F, G, h1, h2, h3, h4, h5, h6⟩ := h
  exact ⟨F, G, h1.below hB, h2.below hB, h3, h4, h5, fun k hk => Nat.lt_of_lt_of_le (h6 k hk) hB.size⟩

/-- Open of a disk whose file has just these records -/
theorem jl_open (w : World) (d : Nat) (S : DG) (G : Nat → Prop) (s : ByteArray) (rs : List (List UInt8)) (hd : IsDisk w d S G) (hs : s.size ≤ maxLen) (hg : JGd S s.data.toList rs) (hbig : (fileB rs).length ≤ 4194304) :
    Calls Tryz.prog 20 #[.pointer (some ⟨d, 0, none⟩), .string s] w fun e w' => ∃ j, e = .returned (.tuple #[.pointer (some ⟨j, 0, none⟩), .int .i64 0]) ∧ JL (grow G w w') w' j d s rs S ∧ Turn G w w' := by
  have hn := hg.n
  have hwr := hg.wr
  refine (jopen_any w d S G s hd hs (by rw [hg.get]; exact hbig) (by omega) (by unfold maxLen; omega)).mono ?_
  rintro e w' ⟨hT, G', hd', hG', hcase⟩
  obtain ⟨ho, hp⟩ := hg.opened
  rw [ho] at hd' hcase
  rw [hp] at hcase
  rcases hcase with ⟨h0, _⟩ | ⟨_, j, F, he, hJ, hF, hFG⟩
  · exact absurd rfl h0
  · refine ⟨j, he, ⟨F, G', hJ, hd', hFG, fun k hk => .inr ⟨hF k hk, hJ.lt k hk⟩, fun k hk => (hG' k hk).imp id (fun h => ⟨h, hd'.lt k hk⟩), fun k hk => hk.elim (fun h => Nat.lt_of_lt_of_le (hd.lt k h) hT.size) (fun h => h.2)⟩, hT⟩

/-- Append to such a Journal, where it fits -/
theorem jl_append (Q : Nat → Prop) (w : World) (j d : Nat) (S : DG) (s : ByteArray) (rs : List (List UInt8)) (h : JL Q w j d s rs S) (hs : s.size ≤ maxLen) (hnm : nameB s.data.toList = true) (hg : JGd S s.data.toList rs)
    (a : Option Addr) (m c : Nat) (l : List UInt8) (hb : Bytes w a m l) (hm : m ≤ 262144) (ha : 0 < m → ∀ x, a = some x → ¬ Q x.block) (hfit : (recB l).length + (fileB rs).length ≤ 4194304) :
    Calls Tryz.prog 26 #[.pointer (some ⟨j, 0, none⟩), .slice a m c] w fun e w' => e = .returned (.int .i64 0) ∧ (∃ S', JL (grow Q w w') w' j d s (rs ++ [l]) S' ∧ JGd S' s.data.toList (rs ++ [l])) ∧ Turn Q w w' := by
  obtain ⟨F, G, h1, h2, h3, h4, h5, h6⟩ := h
  have hn := hg.n
  have hwr := hg.wr
  obtain ⟨S', happ, hg'⟩ := hg.app hnm l (by rw [hb.1]; exact hm) hfit
  refine (jappend_any w j d s rs _ F S G h1 h2 h3 a m c l hb hm (fun h0 x hx => ⟨fun hf => ha h0 x hx (h4 _ hf), fun hf => ha h0 x hx (h5 _ hf)⟩) hs (by rw [hg.get]; omega) (by rw [hg.get]; exact Nat.le_refl _) (by omega) (by omega)).mono ?_
  rintro e w' ⟨he, hT, F', G', hd', hF', hG', hFG', hcase⟩
  rw [happ] at he hd' hcase
  have hTQ : Turn Q w w' := hT.wide (fun k hk => hk.elim (h4 k) (h5 k))
  rcases hcase with ⟨_, hJ⟩ | ⟨h0, _⟩
  · refine ⟨he, ⟨S', ⟨F', G', ?_, hd', hFG', fun k hk => (hF' k hk).elim (fun h => .inl (h4 k h)) (fun h => .inr ⟨h, hJ.lt k hk⟩), fun k hk => (hG' k hk).elim (fun h => .inl (h5 k h)) (fun h => .inr ⟨h, hd'.lt k hk⟩), fun k hk => hk.elim (fun h => Nat.lt_of_lt_of_le (h6 k h) hTQ.size) (fun h => h.2)⟩, hg'⟩, hTQ⟩
    rw [fileB_snoc, List.length_append]; exact hJ
  · exact absurd rfl h0

theorem JGd.full {S : DG} {nm : List UInt8} {rs : List (List UInt8)} (h : JGd S nm rs) (hnm : nameB nm = true) (l : List UInt8) (hfit : 4194304 < (recB l).length + (fileB rs).length) : S.app nm (recB l) = (S, 3) := by
  unfold DG.app
  rw [if_neg (by rw [hnm]; decide), if_pos (by rw [h.get]; exact .inl hfit)]

end Go.Proofs.YtiafhbpklddlnaaGreatDoor
