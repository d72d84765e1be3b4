import Derived.Test.YtdjodigimhgklaaGreatDoorMC29
import Derived.Test.YtdjodigimhgklaaGreatDoorMC25
import Derived.Test.YtdjodigimhgklaaGreatDoorMC01
import Derived.Test.YtdjodigimhgklaaGreatDoorMC12
import Derived.Test.YtdjodigimhgklaaGreatDoorMC22
/- A memo in memory; Standin, Len. -/
namespace Go.Proofs.YtdjodigimhgklaaGreatDoor
open Go.RowKit Go.Shelf Go.Maps

attribute [local go_sem] Oper.semAt_some

/-- what a memo says: the key, the runs that count, the greatest number, the pairs, whether an Add failed -/
structure Me where
  key : Nat
  runs : List Nat
  top : Nat
  ps : List Pr
  failed : Bool
abbrev nV (x : Nat) : Value := .int .i64 (x : Int)
/-- a memo in memory: in block m, on disk d, with journal j -/
structure MeAt (w : World) (m d j : Nat) (g : Me) (vr : Value) (pa : Option Addr) (pc : Nat) (F : Nat → Prop) : Prop where
  box : w.heap[m]? = some (.cells #[.pointer (some ⟨d, 0, none⟩), .int .u64 (g.key : Int), .pointer (some ⟨j, 0, none⟩), vr, .int .i64 (g.top : Int), .slice pa g.ps.length pc, .bool g.failed] 91 (0, 0))
  row : w.ownsRow 0 3 1 vr g.runs.length (g.runs.map nV)
  prs : PrV w pa g.ps.length pc g.ps
  ris : Ris g.ps
  ok : PrOk g.ps
  small : g.ps.length ≤ 1000000
  fm : F m
  fr : ∀ k, vr.ownBlock = some k → F k ∧ k ≠ m
  fp : 0 < g.ps.length → ∀ x, pa = some x → F x.block ∧ x.block ≠ m
  lt : ∀ k, F k → k < w.heap.size
theorem MeAt.mlt {w : World} {m d j : Nat} {g : Me} {vr : Value} {pa : Option Addr} {pc : Nat} {F : Nat → Prop} (h : MeAt w m d j g vr pa pc F) : m < w.heap.size := h.lt _ h.fm
theorem PrV.blocks {w w' : World} {a : Option Addr} {n c : Nat} {l : List Pr} (h : PrV w a n c l) (hb : 0 < n → ∀ x, a = some x → w'.heap[x.block]? = w.heap[x.block]?) : PrV w' a n c l := by
  refine ⟨⟨h.prs.1, fun h0 => ?_⟩, h.nil, h.cap⟩
  obtain ⟨b, o, e, hc⟩ := h.prs.2 h0
  have hq := hb h0 _ e
  simp only at hq
  refine ⟨b, o, e, fun j x hx => ?_⟩
  have := hc j x hx
  simpa only [World.cell?, hq] using this
theorem yrow_move {w w' : World} {B n : Nat} {t : TypeId} {v : Value} {xs : List Value} (h : w.ownsRow B t 1 v n xs) (hb : ∀ g, v.ownBlock = some g → w'.heap[g]? = w.heap[g]?) : w'.ownsRow B t 1 v n xs := by
  refine ⟨h.1, ?_⟩
  rcases h.2 with h0 | ⟨g, cap, cur, rfl, h1, h2, h3⟩
  · exact .inl h0
  · exact .inr ⟨g, cap, cur, rfl, h1, by rw [hb g rfl]; exact h2, h3⟩
theorem MeAt.kept {w w' : World} {m d j : Nat} {g : Me} {vr : Value} {pa : Option Addr} {pc : Nat} {F : Nat → Prop} (h : MeAt w m d j g vr pa pc F) (hs : w.heap.size ≤ w'.heap.size) (hk : ∀ k, F k → w'.heap[k]? = w.heap[k]?) : MeAt w' m d j g vr pa pc F where
  box := (hk m h.fm).trans h.box
  row := yrow_move h.row fun k e => hk k (h.fr k e).1
  prs := h.prs.blocks fun h0 x e => hk _ (h.fp h0 x e).1
  ris := h.ris
  ok := h.ok
  small := h.small
  fm := h.fm
  fr := h.fr
  fp := h.fp
  lt := fun k hk => Nat.lt_of_lt_of_le (h.lt k hk) hs
theorem MeAt.below {w w' : World} {m d j : Nat} {g : Me} {vr : Value} {pa : Option Addr} {pc : Nat} {F : Nat → Prop} (h : MeAt w m d j g vr pa pc F) (hB : Below w.heap.size w w') : MeAt w' m d j g vr pa pc F :=
  h.kept hB.size fun k hk => hB.block k (h.lt k hk)
theorem MeAt.turn {w w' : World} {m d j : Nat} {g : Me} {vr : Value} {pa : Option Addr} {pc : Nat} {F X : Nat → Prop} (h : MeAt w m d j g vr pa pc F) (hT : Turn X w w') (hX : ∀ k, F k → ¬ X k) : MeAt w' m d j g vr pa pc F :=
  h.kept hT.size fun k hk => hT.block k (h.lt k hk) (hX k hk)
theorem MeAt.cells {w : World} {m d j : Nat} {g : Me} {vr : Value} {pa : Option Addr} {pc : Nat} {F : Nat → Prop} (h : MeAt w m d j g vr pa pc F) :
    w.cell? ⟨m, 0, none⟩ = some (.pointer (some ⟨d, 0, none⟩)) ∧ w.cell? ⟨m, 1, none⟩ = some (.int .u64 (g.key : Int)) ∧ w.cell? ⟨m, 2, none⟩ = some (.pointer (some ⟨j, 0, none⟩)) ∧ w.cell? ⟨m, 3, none⟩ = some vr ∧ w.cell? ⟨m, 4, none⟩ = some (.int .i64 (g.top : Int)) ∧ w.cell? ⟨m, 5, none⟩ = some (.slice pa g.ps.length pc) ∧ w.cell? ⟨m, 6, none⟩ = some (.bool g.failed) := by
  have hb := h.box
  refine ⟨?_, ?_, ?_, ?_, ?_, ?_, ?_⟩ <;> simp [World.cell?, hb]
theorem MeAt.frozen {w : World} {m d j : Nat} {g : Me} {vr : Value} {pa : Option Addr} {pc : Nat} {F : Nat → Prop} (h : MeAt w m d j g vr pa pc F) (i : Nat) : w.frozen? ⟨m, i, none⟩ = false := by
  have hb := h.box
  simp [World.frozen?, hb]
theorem look_at {l : List Pr} {x y : Nat} (hr : Ris l) (h : lookP l x = some y) : l[cntP l x]? = some (x, y) ∧ cntP l x < l.length := by
  have hle := cntP_le l x
  have hr2 := ris_at l x hr
  by_cases hlt : cntP l x < l.length
  · obtain ⟨p, hp⟩ : ∃ p, l[cntP l x]? = some p := ⟨_, List.getElem?_eq_getElem hlt⟩
    refine ⟨?_, hlt⟩
    by_cases e : p.1 = x
    · have := (hr2.1 p hp).1 e
      rw [h] at this
      cases this
      rw [hp, ← e]
    · have := (hr2.1 p hp).2 e
      rw [h] at this
      cases this
  · have := hr2.2 (by omega)
    rw [h] at this
    cases this

def stdV (o : Option Nat) : Value := .tuple #[.int .u64 ((o.getD 0 : Nat) : Int), .bool o.isSome]
theorem standin_nil (w : World) (c : Nat) : Calls Tryz.prog 27 #[.pointer none, .int .u64 (c : Int)] w fun e w' => e = .returned (stdV none) ∧ w' = w := by
  go_enter Tryz.func27, Tryz.ntmps27
  go_wp2
  go_ret2
  exact ⟨rfl, rfl⟩
set_option maxRecDepth 20000 in
set_option maxHeartbeats 1000000 in
theorem standin_any (w : World) (m d j : Nat) (g : Me) (vr : Value) (pa : Option Addr) (pc : Nat) (F : Nat → Prop) (h : MeAt w m d j g vr pa pc F) (c : Nat) :
    Calls Tryz.prog 27 #[.pointer (some ⟨m, 0, none⟩), .int .u64 (c : Int)] w fun e w' => e = .returned (stdV (lookP g.ps c)) ∧ Below w.heap.size w w' := by
  obtain ⟨_, _, _, _, _, c5, _⟩ := h.cells
  have hf := yfind_any w pa g.ps.length pc g.ps h.prs.prs h.ris c h.small
  have H : Hid (MeAt w m d j g vr pa pc F) := h
  clear h
  cases hlk : lookP g.ps c with
  | none =>
    rw [hlk] at hf
    simp only [Option.isSome_none] at hf
    generalize g.ps.length = N at *
    generalize (cntP g.ps c : Int) = P at *
    go_enter Tryz.func27, Tryz.ntmps27
    go_wp2_with (go_at_call 65; refine hf.mono ?_; clear hf; rintro e w1 ⟨rfl, hB1⟩)
    go_ret2
    exact ⟨rfl, hB1⟩
  | some y =>
    rw [hlk] at hf
    simp only [Option.isSome_some] at hf
    obtain ⟨hat, hlt⟩ := look_at H.out.ris hlk
    obtain ⟨P, hP⟩ : ∃ P, P = cntP g.ps c := ⟨_, rfl⟩
    rw [← hP] at hf hat hlt
    obtain ⟨b1, o1, rfl, hc1⟩ := H.out.prs.prs.2 (by omega)
    have HQ : Hid (∀ W, Below w.heap.size w W → W.cell? ⟨b1, o1 + P * 2 + 1, none⟩ = some (.int .u64 (y : Int)) ∧ W.cell? ⟨m, 5, none⟩ = some (.slice (some ⟨b1, o1, none⟩) g.ps.length pc)) := fun W hW => by
      have t := (hc1 P _ hat).2
      exact ⟨(hW.cell (p := ⟨b1, o1 + P * 2 + 1, none⟩) (World.block_lt_of_cell? w _ t)).trans t, (hW.cell (p := ⟨m, 5, none⟩) (World.block_lt_of_cell? w _ c5)).trans c5⟩
    have i1 : (P : Int) < (g.ps.length : Int) := by omega
    have i2 : ¬ g.ps.length ≤ P := by omega
    clear hc1 hat hP H hlt hlk
    generalize g.ps.length = N at *
    go_enter Tryz.func27, Tryz.ntmps27
    go_wp2_with (go_at_call 65; refine hf.mono ?_; clear hf; rintro e w1 ⟨rfl, hB1⟩; obtain ⟨q1, q2⟩ := HQ.out w1 hB1)
    go_ret2
    exact ⟨rfl, hB1⟩
theorem mlen_nil (w : World) : Calls Tryz.prog 30 #[.pointer none] w fun e w' => e = .returned (.int .i64 0) ∧ w' = w := by
  go_enter Tryz.func30, Tryz.ntmps30
  go_wp2
  go_ret
  exact ⟨rfl, rfl⟩
theorem mlen_any (w : World) (m d j : Nat) (g : Me) (vr : Value) (pa : Option Addr) (pc : Nat) (F : Nat → Prop) (h : MeAt w m d j g vr pa pc F) :
    Calls Tryz.prog 30 #[.pointer (some ⟨m, 0, none⟩)] w fun e w' => e = .returned (nV g.ps.length) ∧ w' = w := by
  obtain ⟨_, _, _, _, _, c5, _⟩ := h.cells
  clear h
  generalize g.ps.length = N at *
  go_enter Tryz.func30, Tryz.ntmps30
  go_wp2
  go_ret
  exact ⟨rfl, rfl⟩
theorem mruns_nil (w : World) : Calls Tryz.prog 31 #[.pointer none] w fun e w' => e = .returned (.slice none 0 0) ∧ w' = w := by
  go_enter Tryz.func31, Tryz.ntmps31
  go_wp2
  go_ret
  exact ⟨rfl, rfl⟩
end Go.Proofs.YtdjodigimhgklaaGreatDoor

/- A memo's record. -/
namespace Go.Proofs.YtdjodigimhgklaaGreatDoor
open Go.RowKit Go.Shelf Go.Maps

attribute [local go_sem] Oper.semAt_some

/-- a slice of numbers -/
def NsV (w : World) (a : Option Addr) (n : Nat) (l : List Nat) : Prop := l.length = n ∧ (0 < n → ∃ b o, a = some ⟨b, o, none⟩ ∧ ∀ (i : Nat) x, l[i]? = some x → w.cell? ⟨b, o + i, none⟩ = some (nV x))
theorem NsV.below {w w' : World} {a : Option Addr} {n : Nat} {l : List Nat} (h : NsV w a n l) (hB : Below w.heap.size w w') : NsV w' a n l :=
  ⟨h.1, fun h0 => by
    obtain ⟨b, o, e, hc⟩ := h.2 h0
    exact ⟨b, o, e, fun i x hx => (hB.cell (p := ⟨b, o + i, none⟩) (World.block_lt_of_cell? w _ (hc i x hx))).trans (hc i x hx)⟩⟩
theorem NsV.blocks {w w' : World} {a : Option Addr} {n : Nat} {l : List Nat} (h : NsV w a n l) (hb : 0 < n → ∀ x, a = some x → w'.heap[x.block]? = w.heap[x.block]?) : NsV w' a n l :=
  ⟨h.1, fun h0 => by
    obtain ⟨b, o, e, hc⟩ := h.2 h0
    have hq := hb h0 _ e
    simp only at hq
    exact ⟨b, o, e, fun i x hx => by have := hc i x hx; simpa only [World.cell?, hq] using this⟩⟩
theorem nrow_shape {w : World} {B n : Nat} {v : Value} {xs : List Value} (h : w.ownsRow B 3 1 v n xs) : ∃ ad c, v = .slice ad n c ∧ n ≤ c ∧ (ad = none → n = 0 ∧ c = 0) := by
  rcases h.2 with ⟨rfl, rfl⟩ | ⟨g, cap, cur, rfl, _, _, hc, _⟩
  · exact ⟨none, 0, rfl, Nat.le_refl _, fun _ => ⟨rfl, rfl⟩⟩
  · exact ⟨_, _, rfl, hc, fun h => by cases h⟩
theorem nrow_ns {w : World} {B n c : Nat} {ad : Option Addr} {l : List Nat} (h : w.ownsRow B 3 1 (.slice ad n c) n (l.map nV)) : NsV w ad n l := by
  have hl : l.length = n := by have := h.1; rw [List.length_map] at this; omega
  refine ⟨hl, fun h0 => ?_⟩
  rcases h.2 with ⟨e, h'⟩ | ⟨g, cap, cur, e, _⟩
  · omega
  · cases e
    refine ⟨g, 0, rfl, fun i x hx => ?_⟩
    have c1 := h.cells (g := g) rfl i (nV x) (by rw [List.getElem?_map, hx]; rfl)
    rw [Addr.add_lit] at c1
    exact c1
theorem nrow_block {W : World} {base n : Nat} {v : Value} {xs : List Value} (h : W.ownsRow base 3 1 v n xs) : ∀ r, v.ownBlock = some r → base ≤ r ∧ r < W.heap.size ∧ ∃ cur, W.heap[r]? = some (.cells cur 3 (0, 0)) := by
  intro r hr
  rcases h.2 with ⟨rfl, _⟩ | ⟨g, cap, cur, rfl, hb, hg, _⟩
  · cases hr
  · cases hr
    exact ⟨hb, (Array.getElem?_eq_some_iff.1 hg).1, cur, hg⟩
/-- the bytes of a record of numbers -/
def numsB : List Nat → List UInt8
  | [] => []
  | x :: r => short x ++ numsB r
def encR (l : List Nat) : List UInt8 := short l.length ++ numsB l
theorem numsB_app : ∀ l m : List Nat, numsB (l ++ m) = numsB l ++ numsB m
  | [], m => rfl
  | x :: r, m => by simp [numsB, numsB_app r m]
theorem numsB_len : ∀ l : List Nat, (numsB l).length ≤ l.length * 10
  | [] => Nat.le_refl _
  | x :: r => by
    have := short_len x
    have := numsB_len r
    simp only [numsB, List.length_append, List.length_cons]
    omega
/-- what encode answers -/
def EncA (w : World) (l : List Nat) (e : Ending) (w' : World) : Prop := ∃ ad cp, e = .returned (.slice ad (encR l).length cp) ∧ Bytes w' ad (encR l).length (encR l) ∧ (∀ x, ad = some x → w.heap.size ≤ x.block) ∧ Below w.heap.size w w'
set_option maxRecDepth 20000 in
set_option maxHeartbeats 2000000 in
theorem encode_any (w : World) (a : Option Addr) (n c : Nat) (l : List Nat) (h : NsV w a n l) (hn : n ≤ 1000000) (hl : ∀ x ∈ l, x ≤ 9223372036854775807) :
    Calls Tryz.prog 89 #[.slice a n c] w (EncA w l) := by
  have hp := putUint_any none 0 0 n [] w ⟨rfl, fun h => by omega⟩ (by omega) (by omega)
  have HN : Hid (l.length = n ∧ ∀ k, (numsB (l.take k)).length ≤ 10000000) := ⟨h.1, fun k => by
    have h1 := numsB_len (l.take k)
    have h2 := h.1
    rw [List.length_take] at h1
    omega⟩
  have H0 : Hid (NsV w a n l) := h
  have hsl := short_len n
  clear h
  go_enter Tryz.func89, Tryz.ntmps89
  go_wp2_with (go_at_call 109; refine hp.mono ?_; clear hp; rintro e w1 ⟨g1, cp1, rfl, ho1, hg1⟩)
  obtain ⟨N1, hN1⟩ : ∃ N1, N1 = (short n).length := ⟨_, rfl⟩
  have H1 : Hid (N1 = (short n ++ numsB (l.take 0)).length ∧ Bytes w1 (some ⟨g1, 0, none⟩) N1 (short n ++ numsB (l.take 0)) ∧ w.heap.size ≤ g1 ∧ Below w.heap.size w w1) := by
    rw [List.take_zero]
    simp only [numsB, List.append_nil]
    refine ⟨hN1, ?_, ?_, vgrown_below hg1⟩
    · have := vrow_bytes ho1
      rw [Nat.zero_add, ← hN1] at this
      exact this
    · exact (vrow_block ho1 g1 rfl).1
  rw [← hN1]
  rw [← hN1] at hsl
  clear ho1 hg1 hN1
  go_loopw [3, 12] (fun v i wr => ∃ (k g cp N : Nat), k ≤ n ∧ v = .slice (some ⟨g, 0, none⟩) N cp ∧ i = .int .i64 (k : Int) ∧ N ≤ 20000000 ∧ Hid (N = (short n ++ numsB (l.take k)).length ∧ Bytes wr (some ⟨g, 0, none⟩) N (short n ++ numsB (l.take k)) ∧ w.heap.size ≤ g ∧ Below w.heap.size w wr)) (fun _ i _ => n - (intOf i).toNat)
  case atStart => exact ⟨0, g1, cp1, N1, Nat.zero_le _, rfl, rfl, by omega, H1.out⟩
  case round =>
    clear H1
    obtain ⟨k, g, cp, N, hk, rfl, rfl, hN, H⟩ := hrel
    by_cases hlt : k < n
    · obtain ⟨x, hx⟩ : ∃ x, l[k]? = some x := ⟨_, List.getElem?_eq_getElem (by rw [HN.out.1]; exact hlt)⟩
      obtain ⟨b1, o1, rfl, hc1⟩ := (H0.out.below H.out.2.2.2).2 (by omega)
      have t1 := hc1 k x hx
      have i1 : (k : Int) < (n : Int) := by omega
      have i2 : ¬ n ≤ k := by omega
      have hxl := hl x (List.mem_of_getElem? hx)
      have hp := putUint_any (some ⟨g, 0, none⟩) N cp x _ wr H.out.2.1 (by omega) (by omega)
      have HT : Hid (numsB (l.take (k + 1)) = numsB (l.take k) ++ short x ∧ (short x).length ≤ 10 ∧ (short n ++ numsB (l.take (k + 1))).length ≤ 20000000) := by
        have e : l.take (k + 1) = l.take k ++ [x] := by rw [List.take_add_one, hx]; rfl
        refine ⟨by rw [e, numsB_app]; simp [numsB], short_len x, ?_⟩
        have := HN.out.2 (k + 1)
        have := short_len n
        rw [List.length_append]
        omega
      clear hc1 hx
      go_wp2_with (go_at_call 109; refine hp.mono ?_; clear hp; rintro e w2 ⟨g2, cp2, rfl, ho2, hg2⟩)
      obtain ⟨N2, hN2⟩ : ∃ N2, N2 = N + (short x).length := ⟨_, rfl⟩
      have H2 : Hid (N2 = (short n ++ numsB (l.take (k + 1))).length ∧ Bytes w2 (some ⟨g2, 0, none⟩) N2 (short n ++ numsB (l.take (k + 1))) ∧ w.heap.size ≤ g2 ∧ Below w.heap.size w w2) := by
        rw [HT.out.1, ← List.append_assoc]
        refine ⟨by rw [hN2, List.length_append, ← H.out.1], ?_, ?_, H.out.2.2.2.trans ((vgrown_below hg2).mono H.out.2.2.2.size)⟩
        · have := vrow_bytes ho2
          rw [← hN2] at this
          exact this
        · have := (vrow_block ho2 g2 rfl).1
          have := H.out.2.2.2.size
          omega
      have hN3 : N2 ≤ 20000000 := by rw [H2.out.1]; exact HT.out.2.2
      rw [← hN2]
      clear ho2 hg2 hN2
      go_wp2
      go_roundw
      case rel => exact ⟨k + 1, g2, cp2, N2, by omega, rfl, by go_num, hN3, H2.out⟩
      case measure => simp [intOf]; omega
    · obtain rfl : k = n := by omega
      have HZ : Hid (N = (encR l).length ∧ Bytes wr (some ⟨g, 0, none⟩) N (encR l) ∧ w.heap.size ≤ g ∧ Below w.heap.size w wr) := by
        have e := H.out
        rw [List.take_of_length_le (by rw [HN.out.1]; exact Nat.le_refl _)] at e
        unfold encR
        rw [HN.out.1]
        exact e
      have i1 : ¬ (k : Int) < (k : Int) := by omega
      clear H
      go_wp2
      go_ret
      obtain ⟨h1, h2, h3, h4⟩ := HZ.out
      subst h1
      exact ⟨some ⟨g, 0, none⟩, cp, rfl, h2, fun x e => by cases e; exact h3, h4⟩
end Go.Proofs.YtdjodigimhgklaaGreatDoor
