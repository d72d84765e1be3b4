import Derived.Test.YtiafhbpklddlnaaGreatDoorD26
import Derived.Test.YtiafhbpklddlnaaGreatDoorD07
/- The walk of news: the changes that say something else than what is so already. -/
namespace Go.Proofs.YtiafhbpklddlnaaGreatDoor
open Go.RowKit Go.Maps

attribute [local go_sem] Oper.semAt_some

def chCells : List Ch → List Value
  | [] => []
  | x :: r => .string x.1 :: .int .u64 x.2 :: chCells r
theorem chCells_len : ∀ l : List Ch, (chCells l).length = l.length * 2
  | [] => rfl
  | x :: r => by simp only [chCells, List.length_cons, chCells_len r]; omega
theorem chCells_one : ∀ (l : List Ch), ∀ u ∈ chCells l, u.oneCell' = true
  | [], u, h => by cases h
  | x :: r, u, h => by
    simp only [chCells, List.mem_cons] at h
    rcases h with rfl | rfl | h
    · rfl
    · rfl
    · exact chCells_one r u h
theorem chCells_append : ∀ (l m : List Ch), chCells (l ++ m) = chCells l ++ chCells m
  | [], m => rfl
  | x :: r, m => by simp [chCells, chCells_append r m]
theorem chCells_get : ∀ (l : List Ch) (j : Nat) (x : Ch), l[j]? = some x → (chCells l)[j * 2]? = some (.string x.1) ∧ (chCells l)[j * 2 + 1]? = some (.int .u64 x.2)
  | [], j, x, h => by simp at h
  | y :: r, 0, x, h => by
    simp at h; subst h
    exact ⟨rfl, rfl⟩
  | y :: r, j + 1, x, h => by
    have ih := chCells_get r j x (by simpa using h)
    rw [show (j + 1) * 2 = j * 2 + 2 by omega]
    exact ih
theorem row_shapeC {w : World} {B n : Nat} {v : Value} {xs : List Value} (h : w.ownsRow B 38 2 v n xs) : ∃ ad c, v = .slice ad n c ∧ n ≤ c ∧ (ad = none → n = 0 ∧ c = 0) := by
  rcases h.2 with ⟨rfl, rfl⟩ | ⟨g, cap, cur, rfl, _, _, hc, _⟩
  · exact ⟨none, 0, rfl, Nat.le_refl _, fun _ => ⟨rfl, rfl⟩⟩
  · exact ⟨_, _, rfl, hc, fun h => by cases h⟩
theorem own_chs {w : World} {B n c : Nat} {ad : Option Addr} {l : List Ch} (h : w.ownsRow B 38 2 (.slice ad n c) n (chCells l)) (hl : l.length = n) : Chs w ad n l := by
  refine ⟨hl, fun h0 => ?_⟩
  rcases h.2 with ⟨e, h'⟩ | ⟨g, cap, cur, e, _⟩
  · omega
  · cases e
    refine ⟨g, 0, rfl, fun j x hx => ?_⟩
    obtain ⟨h1, h2⟩ := chCells_get l j x hx
    have c1 := h.cells (g := g) rfl _ _ h1
    have c2 := h.cells (g := g) rfl _ _ h2
    rw [Addr.add_lit] at c1 c2
    simp only [Nat.zero_add] at c1 c2 ⊢
    exact ⟨c1, c2⟩
theorem row_blockC {W : World} {base n : Nat} {v : Value} {xs : List Value} (h : W.ownsRow base 38 2 v n xs) : ∀ r, v.ownBlock = some r → base ≤ r ∧ r < W.heap.size := by
  intro r hr
  rcases h.2 with ⟨rfl, _⟩ | ⟨g, cap, cur, rfl, hb, hg, _⟩
  · cases hr
  · cases hr
    exact ⟨hb, (Array.getElem?_eq_some_iff.1 hg).1⟩
theorem below_grC {W W' : World} {B n : Nat} {v : Value} {xs : List Value} (h : W.ownsRow B 38 2 v n xs) (hB : B ≤ W.heap.size) (hg : W.grownBy W' v.ownBlock) : Below B W W' :=
  ⟨hg.os, hg.tape, hg.output, hg.size, fun k hk => hg.block k (by omega) (fun e => by have := (row_blockC h k e.symm).1; omega)⟩
theorem row_movedC {w w' : World} {B n : Nat} {v : Value} {xs : List Value} (h : w.ownsRow B 38 2 v n xs) (hb : ∀ g, v.ownBlock = some g → w'.heap[g]? = w.heap[g]?) : w'.ownsRow B 38 2 v n xs := by
  refine ⟨h.1, ?_⟩
  rcases h.2 with h0 | ⟨g, cap, cur, rfl, h1, h2, h3⟩
  · exact .inl h0
  · exact .inr ⟨g, cap, cur, rfl, h1, by rw [hb g rfl]; exact h2, h3⟩
theorem infoRef : (Tryz.prog.info? 38).map (fun i => (i.zero, i.size, i.bytes)) = some (some (.agg #[.string ⟨#[]⟩, .int .u64 0]), 2, 24) := by kernel_rfl
/-- a change appended to a row of one's own -/
theorem cells_two_new (w : World) (x : Ch) : ∀ j u, (chCells [x])[j]? = some u → (w.alloc (.cells #[.string x.1, .int .u64 x.2] 38)).cell? ((⟨w.heap.size, 0, none⟩ : Addr).add j) = some u := by
  intro j u hj
  have d0 : (w.alloc (.cells #[.string x.1, .int .u64 x.2] 38)).cell? ⟨w.heap.size, 0, none⟩ = some (.string x.1) := by simp only [World.cell?, World.alloc_heap_new]; rfl
  have d1 : (w.alloc (.cells #[.string x.1, .int .u64 x.2] 38)).cell? ⟨w.heap.size, 1, none⟩ = some (.int .u64 x.2) := by simp only [World.cell?, World.alloc_heap_new]; rfl
  match j, hj with
  | 0, hj => simp [chCells] at hj; subst hj; rw [Addr.add_lit]; exact d0
  | 1, hj => simp [chCells] at hj; subst hj; rw [Addr.add_lit]; exact d1
  | j + 2, hj => simp [chCells] at hj

/-- the changes that say something else than what is so already -/
def newsR (g : List UInt8 → Int) (l : List Ch) : List Ch := l.filter fun x => g (bs x.1) != x.2
theorem newsR_take (g : List UInt8 → Int) (l : List Ch) (k : Nat) (x : Ch) (h : l[k]? = some x) : newsR g (l.take (k + 1)) = newsR g (l.take k) ++ (if g (bs x.1) = x.2 then [] else [x]) := by
  have hk := (List.getElem?_eq_some_iff.1 h).1
  have hx : l[k] = x := (List.getElem?_eq_some_iff.1 h).2
  rw [List.take_succ_eq_append_getElem hk, hx]
  simp only [newsR, List.filter_append]
  congr 1
  by_cases e : g (bs x.1) = x.2
  · rw [if_pos e]; simp [e]
  · rw [if_neg e]; simp [e]

set_option maxRecDepth 100000 in
set_option maxHeartbeats 4000000 in
theorem news_any (w : World) (r d j b : Nat) (M : DataW Value) (rs : List (List UInt8)) (g : List UInt8 → Int) (n sz : Nat) (cut : Bool) (FJ F : Nat → Prop) (h : RfAt w r d j b M rs g n sz cut FJ F) (a : Option Addr) (m c : Nat) (l : List Ch) (hl : Chs w a m l) (hs : ShortR l) (hm : m ≤ 1000000000000) :
    Calls Tryz.prog 25 #[.pointer (some ⟨r, 0, none⟩), .slice a m c] w fun e w' => ∃ ad cp, e = .returned (.slice ad (newsR g l).length cp) ∧ w'.ownsRow w.heap.size 38 2 (.slice ad (newsR g l).length cp) (newsR g l).length (chCells (newsR g l)) ∧ Below w.heap.size w w' := by
  have hll := hl.1
  obtain ⟨i0, hi, hz0, hz1, hz2⟩ := info_parts infoRef
  have HH : Hid (RfAt w r d j b M rs g n sz cut FJ F) := h
  clear h
  go_enter Tryz.func25, Tryz.ntmps25
  go_wp2
  go_loopw [5, 10] (fun v i wr => ∃ (k : Nat) (ad : Option Addr) (p cp : Nat), k ≤ m ∧ i = .int .i64 (k : Int) ∧ v = .slice ad p cp ∧ Hid (p = (newsR g (l.take k)).length ∧ wr.ownsRow w.heap.size 38 2 (.slice ad p cp) p (chCells (newsR g (l.take k))) ∧ Below w.heap.size w wr)) (fun _ i _ => m - (intOf i).toNat)
  case atStart => exact ⟨0, none, 0, 0, Nat.zero_le _, rfl, rfl, rfl, ⟨rfl, .inl ⟨rfl, rfl⟩⟩, Below.refl _ _⟩
  case round =>
    obtain ⟨k, ad, p, cp, hk, rfl, rfl, H⟩ := hrel
    by_cases hlt : k < m
    · obtain ⟨x, hx⟩ : ∃ x, l[k]? = some x := ⟨_, List.getElem?_eq_getElem (by omega)⟩
      obtain ⟨b1, o1, rfl, hc1⟩ := hl.2 (by omega)
      obtain ⟨t1, t2⟩ := hc1 k x hx
      have hsx := hs k x hx
      obtain ⟨hp, hrow, hB⟩ := H.out
      have q1 := (hB.cell (p := ⟨b1, o1 + k * 2, none⟩) (World.block_lt_of_cell? w _ t1)).trans t1
      have q2 := (hB.cell (p := ⟨b1, o1 + k * 2 + 1, none⟩) (World.block_lt_of_cell? w _ t2)).trans t2
      have hst : Hid _ := newsR_take g l k x hx
      have hpk : p ≤ k := by rw [hp]; unfold newsR; have := List.length_filter_le (fun x : Ch => g (bs x.1) != x.2) (l.take k); rw [List.length_take] at this; omega
      have i2 : (k : Int) < (m : Int) := by omega
      have i3 : ¬ m ≤ k := by omega
      clear hc1 hx t1 t2 H
      obtain ⟨nm, id⟩ := x
      simp only at q1 q2 hsx hst
      have hBa : Below wr.heap.size wr (wr.alloc (.cells #[.string nm, .int .u64 id] 38)) := (Below.refl _ wr).alloc (Nat.le_refl _) _
      have hR1 := (HH.out.below hB).below hBa
      have d0 : (wr.alloc (.cells #[.string nm, .int .u64 id] 38)).cell? ⟨wr.heap.size, 0, none⟩ = some (.string nm) := by simp only [World.cell?, World.alloc_heap_new]; rfl
      have d1 : (wr.alloc (.cells #[.string nm, .int .u64 id] 38)).cell? ⟨wr.heap.size, 1, none⟩ = some (.int .u64 id) := by simp only [World.cell?, World.alloc_heap_new]; rfl
      have d2 : (wr.alloc (.cells #[.string nm, .int .u64 id] 38)).cell? ⟨r, 1, none⟩ = some (.map (some b)) := hR1.c1
      have hget := fun q => hR1.get nm hsx ((wr.alloc (.cells #[.string nm, .int .u64 id] 38)).drewN q) rfl
      rw [show nm.data.toList = bs nm from rfl] at hget
      have HP : Hid (p = (newsR g (l.take k)).length) := hp
      have HS : Hid (∀ q, Below w.heap.size w ((wr.alloc (.cells #[.string nm, .int .u64 id] 38)).drewN q) ∧ ((wr.alloc (.cells #[.string nm, .int .u64 id] 38)).drewN q).ownsRow w.heap.size 38 2 (.slice ad p cp) p (chCells (newsR g (l.take k))) ∧ ((wr.alloc (.cells #[.string nm, .int .u64 id] 38)).drewN q).heap.size = wr.heap.size + 1) := fun q =>
        ⟨(hB.trans (hBa.mono hB.size)).trans ⟨rfl, rfl, rfl, Nat.le_refl _, fun _ _ => rfl⟩, row_movedC hrow (fun z hz => hBa.block z (row_blockC hrow z hz).2), by show (wr.alloc (.cells #[.string nm, .int .u64 id] 38)).heap.size = _; simp⟩
      have HB : Hid (Below w.heap.size w wr) := hB
      clear hBa hB hR1 hp hrow
      generalize g (bs nm) = gx at *
      by_cases he : gx = id
      · subst he
        rw [if_pos rfl, List.append_nil] at hst
        go_wp2
        go_quiet (fail)
        go_wp2
        go_roundw
        case rel => exact ⟨k + 1, ad, p, cp, by omega, by simp, rfl, by rw [hst.out]; exact HP.out, by rw [hst.out]; exact (HS.out _).2.1, (HS.out _).1⟩
        case measure => simp [intOf]; omega
      · rw [if_neg he] at hst
        have he' : (gx == id) = false := beq_eq_false_iff_ne.2 he
        go_wp2
        go_quiet (fail)
        obtain ⟨hBq, hrq, hsq⟩ := HS.out nq
        have e0 : ((wr.alloc (.cells #[.string nm, .int .u64 id] 38)).drewN nq).cell? ⟨wr.heap.size, 0, none⟩ = some (.string nm) := d0
        have e1 : ((wr.alloc (.cells #[.string nm, .int .u64 id] 38)).drewN nq).cell? ⟨wr.heap.size, 1, none⟩ = some (.int .u64 id) := d1
        generalize (wr.alloc (.cells #[.string nm, .int .u64 id] 38)).drewN nq = wq at *
        have hr2 := hrq.alloc (.cells #[.string nm, .int .u64 id] 38)
        have HB2 : Hid (Below w.heap.size w (wq.alloc (.cells #[.string nm, .int .u64 id] 38))) := hBq.alloc hBq.size _
        clear HS d0 d1 d2 hget hBq hsq
        go_wp2_with (at_builtin; (refine wpList_append_own_at _ rfl _ _ 30 rfl w.heap.size 38 i0 _ 2 24 Tryz.underlying30 hi hz0 hz1 hz2 rfl (by decide) _ p _ rfl hr2 ⟨wq.heap.size, 0, none⟩ 1 1 (chCells [(nm, id)]) rfl rfl (cells_two_new wq (nm, id)) (chCells_one _) (by unfold maxLen; omega) (by omega) HB2.out.size ?_; intro v' w5 hown5 hgr5 _ hat5; have HB5 : Hid (Below w.heap.size w w5) := HB2.out.trans (below_grC hr2 HB2.out.size hgr5); have H5 : Hid (w5.ownsRow w.heap.size 38 2 v' (p + 1) (chCells (newsR g (l.take k)) ++ chCells [(nm, id)])) := hown5; clear hgr5 hat5; obtain ⟨ad5, cp5, hv5, _⟩ := row_shapeC hown5; clear hown5; subst hv5))
        go_roundw
        case rel => exact ⟨k + 1, ad5, p + 1, cp5, by omega, by simp, rfl, by rw [hst.out, List.length_append, ← HP.out]; rfl, by rw [hst.out, chCells_append]; exact H5.out, HB5.out⟩
        case measure => simp [intOf]; omega
    · obtain rfl : k = m := by omega
      have i2 : ¬ (k : Int) < (k : Int) := by omega
      have e0 : l.take k = l := List.take_of_length_le (by omega)
      rw [e0] at H
      obtain ⟨hp, hrow, hB⟩ := H.out
      subst hp
      go_wp2
      go_ret
      exact ⟨ad, cp, rfl, hrow, hB⟩
end Go.Proofs.YtiafhbpklddlnaaGreatDoor

/- The walk of encode: the payload of a record that says changes. -/
namespace Go.Proofs.YtiafhbpklddlnaaGreatDoor
open Go.RowKit Go.Maps

attribute [local go_sem] Oper.semAt_some

def chB (x : Ch) : List UInt8 := (short x.1.size ++ x.1.data.toList) ++ wide x.2.toNat
def chsB (l : List Ch) : List UInt8 := (l.map chB).flatten
/-- the payload of a record that says changes -/
def encR (l : List Ch) : List UInt8 := short l.length ++ chsB l
theorem chsB_take (l : List Ch) (k : Nat) (x : Ch) (h : l[k]? = some x) : chsB (l.take (k + 1)) = chsB (l.take k) ++ chB x := by
  have hk := (List.getElem?_eq_some_iff.1 h).1
  have hx : l[k] = x := (List.getElem?_eq_some_iff.1 h).2
  rw [List.take_succ_eq_append_getElem hk, hx]
  simp [chsB]
theorem chsB_take_le (l : List Ch) (k : Nat) : (chsB (l.take k)).length ≤ (chsB l).length := by
  have : chsB l = chsB (l.take k) ++ chsB (l.drop k) := by
    conv => lhs; rw [← List.take_append_drop k l]
    simp only [chsB, List.map_append, List.flatten_append]
  rw [this, List.length_append]; omega
theorem bytes_nil (w : World) : Bytes w none 0 [] := ⟨rfl, fun h => absurd h (by omega)⟩
theorem wide_len8 (x : Nat) : (wide x).length = 8 := by simp [wide, wideTo]

set_option maxRecDepth 100000 in
set_option maxHeartbeats 4000000 in
theorem encode_any (w : World) (a : Option Addr) (m c : Nat) (l : List Ch) (hl : Chs w a m l) (hi : ∀ x ∈ l, 0 ≤ x.2 ∧ x.2 ≤ 18446744073709551615) (hm : m ≤ 1000000000000) (hE : (encR l).length ≤ 281474976710640) :
    Calls Tryz.prog 27 #[.slice a m c] w fun e w' => ∃ gg cp, e = .returned (.slice (some ⟨gg, 0, none⟩) (encR l).length cp) ∧ Bytes w' (some ⟨gg, 0, none⟩) (encR l).length (encR l) ∧ w.heap.size ≤ gg ∧ Below w.heap.size w w' := by
  have hll := hl.1
  obtain ⟨E, hEE⟩ : ∃ E, E = encR l := ⟨_, rfl⟩
  rw [← hEE]
  have HE : Hid (E = encR l) := hEE
  clear hEE
  go_enter Tryz.func27, Tryz.ntmps27
  have hu := putUint_any none 0 0 m [] w (bytes_nil w) (by omega) (by omega)
  have hsl := short_len m
  go_wp2_with (go_at_call 58; refine hu.mono ?_; clear hu; rintro e w1 ⟨g1, c1, rfl, ho1, hg1⟩; have H1 : Hid (w1.ownsRow w.heap.size 5 1 (.slice (some ⟨g1, 0, none⟩) (0 + (short m).length) c1) (0 + (short m).length) (cellsOf ([] ++ short m)) ∧ w.grownBy w1 none) := ⟨ho1, hg1⟩; clear ho1 hg1)
  go_loopw [3, 12] (fun v i wr => ∃ (k gg p cp : Nat), k ≤ m ∧ i = .int .i64 (k : Int) ∧ v = .slice (some ⟨gg, 0, none⟩) p cp ∧ Hid (p = (short m ++ chsB (l.take k)).length ∧ Bytes wr (some ⟨gg, 0, none⟩) p (short m ++ chsB (l.take k)) ∧ Below w.heap.size w wr ∧ w.heap.size ≤ gg)) (fun _ i _ => m - (intOf i).toNat)
  case atStart => exact ⟨0, g1, _, c1, Nat.zero_le _, rfl, rfl, by simp [chsB], by have := (ownsRow_toBytes H1.out.1).1; simpa [chsB] using this, (Below.refl _ w).grown H1.out.2 (Nat.le_refl _) (by simp), ((ownsRow_toBytes H1.out.1).2 _ rfl).1⟩
  case round =>
    obtain ⟨k, gg, p, cp, hk, rfl, rfl, H⟩ := hrel
    by_cases hlt : k < m
    · obtain ⟨x, hx⟩ : ∃ x, l[k]? = some x := ⟨_, List.getElem?_eq_getElem (by omega)⟩
      obtain ⟨b1, o1, rfl, hc1⟩ := hl.2 (by omega)
      obtain ⟨t1, t2⟩ := hc1 k x hx
      obtain ⟨hi0, hi1⟩ := hi x (List.mem_of_getElem? hx)
      obtain ⟨hp, hby, hB, hgg⟩ := H.out
      have q1 := (hB.cell (p := ⟨b1, o1 + k * 2, none⟩) (World.block_lt_of_cell? w _ t1)).trans t1
      have q2 := (hB.cell (p := ⟨b1, o1 + k * 2 + 1, none⟩) (World.block_lt_of_cell? w _ t2)).trans t2
      have hst := chsB_take l k x hx
      have hle := chsB_take_le l (k + 1)
      rw [hst] at hle
      simp only [encR, List.length_append, hll] at hE
      have i2 : (k : Int) < (m : Int) := by omega
      have i3 : ¬ m ≤ k := by omega
      clear hc1 hx t1 t2 H
      obtain ⟨nm, id⟩ := x
      simp only [chB, List.length_append, wide_len8] at q1 q2 hst hle hi0 hi1
      obtain ⟨idn, rfl⟩ : ∃ z : Nat, id = (z : Int) := ⟨id.toNat, by omega⟩
      have hnl : nm.data.toList.length = nm.size := by simp
      rw [hnl] at hle
      have hpl : p = (short m).length + (chsB (l.take k)).length := by rw [hp, List.length_append]
      have hBa : Below wr.heap.size wr (wr.alloc (.cells #[.string nm, .int .u64 (idn : Int)] 38)) := (Below.refl _ wr).alloc (Nat.le_refl _) _
      have hby1 := (Turn.of_below (fun _ => False) hBa).bytes hby (fun _ _ _ => id)
      have hT := putText_any (some ⟨gg, 0, none⟩) p cp nm _ (wr.alloc (.cells #[.string nm, .int .u64 (idn : Int)] 38)) hby1 (by omega)
      have HB : Hid (Below w.heap.size w (wr.alloc (.cells #[.string nm, .int .u64 (idn : Int)] 38))) := hB.trans (hBa.mono hB.size)
      have d0 : (wr.alloc (.cells #[.string nm, .int .u64 (idn : Int)] 38)).cell? ⟨wr.heap.size, 0, none⟩ = some (.string nm) := by simp only [World.cell?, World.alloc_heap_new]; rfl
      have d1 : (wr.alloc (.cells #[.string nm, .int .u64 (idn : Int)] 38)).cell? ⟨wr.heap.size, 1, none⟩ = some (.int .u64 (idn : Int)) := by simp only [World.cell?, World.alloc_heap_new]; rfl
      have HST : Hid (chsB (l.take (k + 1)) = chsB (l.take k) ++ (short nm.size ++ nm.data.toList ++ wide idn)) := show _ = _ by simpa using hst
      have hlt8 : Hid (p + (short nm.size).length + nm.size + 8 ≤ 281474976710640 ∧ idn < 18446744073709551616) := ⟨by omega, by omega⟩
      have HP : Hid (p = (short m).length + (chsB (l.take k)).length) := hpl
      clear hBa hB hby hby1 hp hpl hle hst hnl hE
      go_wp2_with first
        | (go_at_call 59; refine hT.mono ?_; clear hT; rintro e w2 ⟨g2, m2, c2, hm2, rfl, ho2, hg2⟩; have hB2 : Below (wr.alloc (.cells #[.string nm, .int .u64 (idn : Int)] 38)).heap.size (wr.alloc (.cells #[.string nm, .int .u64 (idn : Int)] 38)) w2 := (Below.refl _ _).grown hg2 (Nat.le_refl _) (by simp); have q4 := (hB2.cell (p := ⟨wr.heap.size, 1, none⟩) (by simp)).trans d1; have HB2 : Hid (Below w.heap.size w w2) := HB.out.trans (hB2.mono HB.out.size); have hW := putWord_any (some ⟨g2, 0, none⟩) m2 c2 idn _ w2 (ownsRow_toBytes ho2).1 (by have := hlt8.out; omega) hlt8.out.2; have HM : Hid (m2 = p + (short nm.size).length + nm.size) := hm2; clear hm2 ho2 hg2 hB2)
        | (go_at_call 60; refine hW.mono ?_; clear hW; rintro e w3 ⟨g3, c3, rfl, ho3, hg3⟩; have H3 : Hid (Bytes w3 (some ⟨g3, 0, none⟩) (m2 + 8) (((short m ++ chsB (l.take k)) ++ (short nm.size ++ nm.data.toList)) ++ wide idn) ∧ Below w.heap.size w w3 ∧ w.heap.size ≤ g3) := ⟨(ownsRow_toBytes ho3).1, HB2.out.trans (((Below.refl _ w2).grown hg3 (Nat.le_refl _) (by simp)).mono HB2.out.size), Nat.le_trans HB2.out.size ((ownsRow_toBytes ho3).2 _ rfl).1⟩; clear ho3 hg3)
      go_roundw
      case rel => exact ⟨k + 1, g3, m2 + 8, c3, by omega, by simp, rfl, by rw [HST.out, HM.out, HP.out]; simp [wide_len8]; omega, by rw [HST.out]; have := H3.out.1; simpa using this, H3.out.2⟩
      case measure => simp [intOf]; omega
    · obtain rfl : k = m := by omega
      have i2 : ¬ (k : Int) < (k : Int) := by omega
      have e0 : l.take k = l := List.take_of_length_le (by omega)
      rw [e0] at H
      obtain ⟨hp, hby, hB, hgg⟩ := H.out
      have e1 : encR l = short k ++ chsB l := by unfold encR; rw [hll]
      rw [← e1, ← HE.out] at hp hby
      subst hp
      go_wp2
      go_ret
      exact ⟨gg, ⟨cp, rfl⟩, hby, hgg, hB⟩
end Go.Proofs.YtiafhbpklddlnaaGreatDoor
