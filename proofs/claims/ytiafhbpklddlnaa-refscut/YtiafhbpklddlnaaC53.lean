import Derived.Test.YtiafhbpklddlnaaC45
import Derived.Test.YtiafhbpklddlnaaC52
/- What stands in the law RefsCut: refs on a disk that may be cut, refs on a copy of it, two lists. -/
namespace Go.Proofs.Ytiafhbpklddlnaa
open Go.RowKit Go.Shelf Go.Maps

theorem spot_ne6 (l : List UInt8) : (spot l).1 ≠ 6 := by
  unfold spot
  repeat' split
  all_goals simp
theorem pathFrom_ne6 (ns : List (List UInt8)) (i p : Nat) : (pathFrom ns i p).1 ≠ 6 := by
  induction ns generalizing i p with
  | nil => simp [pathFrom]
  | cons n r ih =>
    unfold pathFrom
    repeat' split
    · simp
    · exact ih _ _
    · exact spot_ne6 n
theorem pathSpot_ne6 (l : List UInt8) : (pathSpot l).1 ≠ 6 := by
  unfold pathSpot
  split
  · simp
  · exact pathFrom_ne6 _ _ _
theorem chgErr_ne6 (g : List UInt8 → Int) (A : List UInt8 → Bool) (s : ByteArray) (i : Int) : chgErr g A s i ≠ 6 := by
  have := pathSpot_ne6 (bs s)
  unfold chgErr
  repeat' split
  all_goals omega
theorem chkFrom_ne6 (g : List UInt8 → Int) : ∀ (l : List Ch) (A : List UInt8 → Bool) (c : Int), chkFrom g A c l ≠ 6
  | [], _, c => by unfold chkFrom; split <;> omega
  | x :: r, A, c => by
    unfold chkFrom
    split
    · exact chgErr_ne6 _ _ _ _
    · exact chkFrom_ne6 g r _ _
theorem chkR_ne6 (g : List UInt8 → Int) (n : Nat) (l : List Ch) : chkR g n l ≠ 6 := chkFrom_ne6 g l _ _

structure CT (w W : World) (r d r3 q : Nat) (g g3 : List UInt8 → Int) (n n3 : Nat) (rs rs3 : List (List UInt8)) (S S3 : DG) (F G F3 G3 : Nat → Prop) (dead : Bool) (ad : Option Addr) (LA : List Ch) (sa : Option Addr) (m : Nat) (L : List Ch) : Prop where
  a : RfC W r d g n rs S F G dead
  b : RfC W r3 q g3 n3 rs3 S3 F3 G3 false
  bel : Below w.heap.size w W
  x0 : ∀ z, F z ∨ G z → w.heap.size ≤ z
  y0 : ∀ z, F3 z ∨ G3 z → w.heap.size ≤ z
  xy : ∀ z, F z ∨ G z → ¬ (F3 z ∨ G3 z)
  adx : ∀ y, ad = some y → ¬ (F y.block ∨ G y.block) ∧ ¬ (F3 y.block ∨ G3 y.block) ∧ y.block < W.heap.size
  sax : ∀ y, sa = some y → ¬ (F y.block ∨ G y.block) ∧ ¬ (F3 y.block ∨ G3 y.block) ∧ y.block < W.heap.size
  adr : Chs W ad LA.length LA
  sar : Chs W sa m L
  nm : NamesR g n
  nm3 : NamesR g3 n3
  len : (fileB rs).length ≤ 2000000 ∧ S.wr ≤ 900000000
  len3 : (fileB rs3).length ≤ 2000000 ∧ S3.wr ≤ 900000000
theorem CT.below {w W W' : World} {r d r3 q : Nat} {g g3 : List UInt8 → Int} {n n3 : Nat} {rs rs3 : List (List UInt8)} {S S3 : DG} {F G F3 G3 : Nat → Prop} {dead : Bool} {ad : Option Addr} {LA : List Ch} {sa : Option Addr} {m : Nat} {L : List Ch} (h : CT w W r d r3 q g g3 n n3 rs rs3 S S3 F G F3 G3 dead ad LA sa m L) (hB : Below W.heap.size W W') : CT w W' r d r3 q g g3 n n3 rs rs3 S S3 F G F3 G3 dead ad LA sa m L :=
  { h with
    a := h.a.below hB
    b := h.b.below hB
    bel := h.bel.trans (hB.mono h.bel.size)
    adx := fun y hy => ⟨(h.adx y hy).1, (h.adx y hy).2.1, Nat.lt_of_lt_of_le (h.adx y hy).2.2 hB.size⟩
    sax := fun y hy => ⟨(h.sax y hy).1, (h.sax y hy).2.1, Nat.lt_of_lt_of_le (h.sax y hy).2.2 hB.size⟩
    adr := h.adr.kept hB
    sar := h.sar.kept hB }
theorem CT.setB {w W W' : World} {r d r3 q : Nat} {g g3 g3' : List UInt8 → Int} {n n3 n3' : Nat} {rs rs3 rs3' : List (List UInt8)} {S S3 S3' : DG} {F G F3 G3 F3' G3' : Nat → Prop} {dead : Bool} {ad : Option Addr} {LA : List Ch} {sa : Option Addr} {m : Nat} {L l : List Ch} {m' : Nat} {er : Int} (h : CT w W r d r3 q g g3 n n3 rs rs3 S S3 F G F3 G3 dead ad LA sa m L)
    (P : SetC W W' r3 q g3 g3' n3 n3' rs3 rs3' S3 S3' F3 G3 F3' G3' false l m' er) (hl : (fileB rs3').length ≤ 2000000 ∧ S3'.wr ≤ 900000000) : CT w W' r d r3 q g g3' n n3' rs rs3' S S3' F G F3' G3' dead ad LA sa m L := by
  have hs := P.tn.size
  have hy : ∀ z, F3' z ∨ G3' z → (F3 z ∨ G3 z) ∨ W.heap.size ≤ z := fun z hz => hz.elim (fun e => (P.hF z e).imp .inl (fun e => e)) (fun e => (P.hG z e).imp .inr (fun e => e))
  have hal := h.a.lt
  have hbs := h.bel.size
  refine ⟨h.a.turn P.tn (fun z hz => h.xy z hz), P.rf, h.bel.trans (P.tn.below hbs h.y0), h.x0, fun z hz => (hy z hz).elim (h.y0 z) (fun e => by omega), fun z hz hz' => (hy z hz').elim (h.xy z hz) (fun e => by have := hal z hz; omega), fun y hy' => ?_, fun y hy' => ?_, h.adr.turn P.tn (fun y hy' => (h.adx y hy').2.1), h.sar.turn P.tn (fun y hy' => (h.sax y hy').2.1), h.nm, P.nm, h.len, hl⟩
  · obtain ⟨h1, h2, h3⟩ := h.adx y hy'
    exact ⟨h1, fun e => (hy _ e).elim h2 (fun e => by omega), by omega⟩
  · obtain ⟨h1, h2, h3⟩ := h.sax y hy'
    exact ⟨h1, fun e => (hy _ e).elim h2 (fun e => by omega), by omega⟩
/-- the first refs, their disk, have turned into others -/
theorem CT.moveA {w W W' : World} {r r' d r3 q : Nat} {g g' g3 : List UInt8 → Int} {n n' n3 : Nat} {rs rs' rs3 : List (List UInt8)} {S S' S3 : DG} {F G F3 G3 F' G' : Nat → Prop} {dead dead' : Bool} {ad : Option Addr} {LA : List Ch} {sa : Option Addr} {m : Nat} {L : List Ch} (h : CT w W r d r3 q g g3 n n3 rs rs3 S S3 F G F3 G3 dead ad LA sa m L)
    (hT : Turn (fun k => F k ∨ G k) W W') (hR : RfC W' r' d g' n' rs' S' F' G' dead') (hx : ∀ z, F' z ∨ G' z → (F z ∨ G z) ∨ W.heap.size ≤ z) (hN : NamesR g' n') (hl : (fileB rs').length ≤ 2000000 ∧ S'.wr ≤ 900000000) : CT w W' r' d r3 q g' g3 n' n3 rs' rs3 S' S3 F' G' F3 G3 dead' ad LA sa m L := by
  have hs := hT.size
  have hal := h.b.lt
  have hbs := h.bel.size
  refine ⟨hR, h.b.turn hT (fun z hz hz' => h.xy z hz' hz), h.bel.trans (hT.below hbs h.x0), fun z hz => (hx z hz).elim (h.x0 z) (fun e => by omega), h.y0, fun z hz hz' => (hx z hz).elim (fun e => h.xy z e hz') (fun e => by have := hal z hz'; omega), fun y hy' => ?_, fun y hy' => ?_, h.adr.turn hT (fun y hy' => (h.adx y hy').1), h.sar.turn hT (fun y hy' => (h.sax y hy').1), hN, h.nm3, hl, h.len3⟩
  · obtain ⟨h1, h2, h3⟩ := h.adx y hy'
    exact ⟨fun e => (hx _ e).elim h1 (fun e => by omega), h2, by omega⟩
  · obtain ⟨h1, h2, h3⟩ := h.sax y hy'
    exact ⟨fun e => (hx _ e).elim h1 (fun e => by omega), h2, by omega⟩
theorem CT.setA {w W W' : World} {r d r3 q : Nat} {g g' g3 : List UInt8 → Int} {n n' n3 : Nat} {rs rs' rs3 : List (List UInt8)} {S S' S3 : DG} {F G F3 G3 F' G' : Nat → Prop} {dead dead' : Bool} {ad : Option Addr} {LA : List Ch} {sa : Option Addr} {m : Nat} {L l : List Ch} {m' : Nat} {er : Int} (h : CT w W r d r3 q g g3 n n3 rs rs3 S S3 F G F3 G3 dead ad LA sa m L)
    (P : SetC W W' r d g g' n n' rs rs' S S' F G F' G' dead' l m' er) (hl : (fileB rs').length ≤ 2000000 ∧ S'.wr ≤ 900000000) : CT w W' r d r3 q g' g3 n' n3 rs' rs3 S' S3 F' G' F3 G3 dead' ad LA sa m L :=
  h.moveA P.tn P.rf (fun z hz => hz.elim (fun e => (P.hF z e).imp .inl (fun e => e)) (fun e => (P.hG z e).imp .inr (fun e => e))) P.nm hl

structure CInv (w wr : World) (r d : Nat) (g : List UInt8 → Int) (n : Nat) (rs : List (List UInt8)) (S : DG) (F G : Nat → Prop) (k : Nat) (ad : Option Addr) (LA : List Ch) : Prop where
  rf : RfC wr r d g n rs S F G false
  nm : NamesR g n
  len : (fileB rs).length ≤ k * 17470
  wrs : S.wr ≤ k * 17470
  bel : Below w.heap.size w wr
  q : ∀ x, F x ∨ G x → w.heap.size ≤ x
  adx : ∀ y, ad = some y → ¬ (F y.block ∨ G y.block) ∧ y.block < wr.heap.size
  row : Chs wr ad LA.length LA
  all : AllR g n LA
theorem CInv.below {w wr w' : World} {r d : Nat} {g : List UInt8 → Int} {n : Nat} {rs : List (List UInt8)} {S : DG} {F G : Nat → Prop} {k : Nat} {ad : Option Addr} {LA : List Ch} (h : CInv w wr r d g n rs S F G k ad LA) (hB : Below wr.heap.size wr w') : CInv w w' r d g n rs S F G k ad LA :=
  { h with
    rf := h.rf.below hB
    bel := h.bel.trans (hB.mono h.bel.size)
    adx := fun y hy => ⟨(h.adx y hy).1, Nat.lt_of_lt_of_le (h.adx y hy).2 hB.size⟩
    row := h.row.kept hB }
end Go.Proofs.Ytiafhbpklddlnaa
