import Derived.Test.YthalpnpnbclipaaGreatC42
import Derived.Test.YthalpnpnbclipaaGreatC43
import Derived.ProofKit
import Derived.OpenShut
import Derived.ShutString
import Derived.ChangeOld
import Derived.SizedLaws
import Derived.Deep.Slices
import Derived.Test.YthalpnpnbclipaaGreatC39
import Derived.Test.YthalpnpnbclipaaGreatC30
import Derived.Test.YthalpnpnbclipaaGreatC48
import Derived.Test.YthalpnpnbclipaaGreatC49
/- The walk of the look whether a Journal has just these records, where it has. -/
namespace Go.Proofs.YthalpnpnbclipaaGreat
open Go.RowKit Go.Shelf

attribute [local go_sem] Oper.semAt_some

/-- a slice of n slices of bytes that leads to these lists -/
def Slices (w : World) (a : Option Addr) (n : Nat) (ls : List (List UInt8)) : Prop :=
  ls.length = n ∧ ∀ k, k < n → ∃ b off x m c, a = some ⟨b, off, none⟩ ∧ w.cell? ⟨b, off + k, none⟩ = some (.slice x m c) ∧ Bytes w x m (rc ls k)

theorem Slices.turn {w w' : World} {a : Option Addr} {n : Nat} {ls : List (List UInt8)} (h : Slices w a n ls) (hB : Below w.heap.size w w') : Slices w' a n ls := by
  refine ⟨h.1, fun k hk => ?_⟩
  obtain ⟨b, off, x, m, c, h1, h2, h3⟩ := h.2 k hk
  exact ⟨b, off, x, m, c, h1, (hB.cell (p := ⟨b, off + k, none⟩) (World.block_lt_of_cell? w _ h2)).trans h2, (Turn.of_below (fun _ => False) hB).bytes h3 (fun _ _ _ => id)⟩

end Go.Proofs.YthalpnpnbclipaaGreat

/- A slice of slices of bytes that came in, opened. -/
namespace Go.Proofs.YthalpnpnbclipaaGreat
open Go.ChangeShapes Go.WideShapes Go.ChangeAt Go.RowKit

theorem bytes_cell {H : Type} {enc : TypeId × Value → H} {W : World} {fuel : Nat} {v : Value} {x : DataW H × List MemPlace} (hf : DataW.trod enc Tryz.prog W 0 (fun _ => true) true fuel 36 [v] = some x) :
    ∃ a n cap l, v = .slice a n cap ∧ Bytes W a n l ∧ n ≤ cap ∧ (a = none → n = 0 ∧ cap = 0) ∧ n ≤ maxLen := by
  rcases open_ints Tryz.underlying36 Tryz.underlying5 (by kernel_rfl) hf with ⟨hcs, _⟩ | ⟨x, n, cap, zs, hcs, _, hl, hm, hz, hx, hcell, hwz⟩
  · simp only [List.cons.injEq, and_true] at hcs
    subst hcs
    exact ⟨none, 0, 0, [], rfl, ⟨rfl, fun h0 => by omega⟩, Nat.le_refl _, fun _ => ⟨rfl, rfl⟩, Nat.zero_le _⟩
  · simp only [List.cons.injEq, and_true] at hcs
    subst hcs
    simp only [if_true] at hz
    refine ⟨some x, n, cap, (zs.take n).map (fun z => UInt8.ofNat z.toNat), rfl, ⟨by simp; omega, fun h0 => ?_⟩, hl, (fun h => by cases h), by omega⟩
    obtain ⟨b, off, spot⟩ := x
    have hc := hcell 0 (by omega)
    have hspot : spot = none := by simpa [Addr.add] using World.cell?_spot hc
    subst hspot
    refine ⟨b, off, rfl, fun i hi => ?_⟩
    have hci := hcell i (by omega)
    rw [Addr.add_lit] at hci
    rw [hci]
    have hb : 0 ≤ zs.getD i 0 ∧ zs.getD i 0 ≤ 255 := by
      rw [List.getD_eq_getElem?_getD]
      exact range_u8 hwz i
    have e : bt ((zs.take n).map (fun z => UInt8.ofNat z.toNat)) i = zs.getD i 0 := by
      unfold bt
      have e1 : ((zs.take n).map (fun z => UInt8.ofNat z.toNat)).getD i 0 = UInt8.ofNat (zs.getD i 0).toNat := by
        simp [List.getD, hi, show i < zs.length by omega]
      rw [e1, UInt8.toNat_ofNat']
      omega
    rw [e]

/-- what an element of such a slice is -/
structure El where
  x : Option Addr
  m : Nat
  c : Nat
  l : List UInt8
deriving Inhabited
/-- a slice of n slices of bytes that came in -/
def Lists (W : World) (a : Option Addr) (n : Nat) (E : Nat → El) : Prop :=
  (0 < n → ∃ b off, a = some ⟨b, off, none⟩ ∧ ∀ k, k < n → W.cell? ⟨b, off + k, none⟩ = some (.slice (E k).x (E k).m (E k).c)) ∧
    ∀ k, k < n → Bytes W (E k).x (E k).m (E k).l ∧ (E k).m ≤ (E k).c ∧ ((E k).x = none → (E k).m = 0 ∧ (E k).c = 0) ∧ (E k).m ≤ maxLen

set_option maxRecDepth 20000 in
theorem lists_arg {H : Type} {enc : TypeId × Value → H} {W : World} {base : Nat} {v : Value} {d : DataW H} {ps : List MemPlace} (hok : Value.okWide Tryz.prog W .any base 33 v)
    (h : DataW.Trod enc Tryz.prog W 0 (fun _ => true) true 33 v d ps) :
    ∃ a n cap E, v = .slice a n cap ∧ Lists W a n E ∧ n ≤ maxLen := by
  obtain ⟨a, n, cap, rfl⟩ := okWide_slice Tryz.underlying33 hok
  obtain ⟨fuel, hf⟩ := h
  rcases Deep.open_slice Tryz.underlying33 hf with ⟨hcs, _⟩ | ⟨x, len, c, m, j, D, Pl, hcs, _, hl, hmx, hm, hx, hel⟩
  · simp [Value.cells] at hcs
    obtain ⟨rfl, rfl, rfl⟩ := hcs
    exact ⟨none, 0, 0, fun _ => ⟨none, 0, 0, []⟩, rfl, ⟨fun h0 => by omega, fun i hi => by omega⟩, Nat.zero_le _⟩
  · simp [Value.cells] at hcs
    obtain ⟨rfl, rfl, rfl⟩ := hcs
    simp only [if_true] at hm
    have hcell : ∀ i, i < n → ∃ p : El, W.cell? (x.add i) = some (.slice p.x p.m p.c) ∧ Bytes W p.x p.m p.l ∧ p.m ≤ p.c ∧ (p.x = none → p.m = 0 ∧ p.c = 0) ∧ p.m ≤ maxLen := by
      intro i hi
      obtain ⟨cs', hc1, hc2⟩ := hel i (by omega)
      rw [show Tryz.prog.cellsOf 36 = 1 from by kernel_rfl] at hc1
      obtain ⟨_, hlen2, hget⟩ := World.cells?_some hc1
      match cs', hlen2 with
      | [c0], _ =>
        have g0 := hget 0 (by omega)
        rw [Deep.add_add] at g0
        obtain ⟨a', n', cap', l', rfl, h1, h2, h3, h4⟩ := bytes_cell hc2
        exact ⟨⟨a', n', cap', l'⟩, by simpa using g0, h1, h2, h3, h4⟩
    obtain ⟨E, hE⟩ := Deep.choose_lt hcell
    refine ⟨some x, n, cap, E, rfl, ⟨fun h0 => ?_, fun i hi => (hE i hi).2⟩, by omega⟩
    obtain ⟨b, off, spot⟩ := x
    have hc := (hE 0 h0).1
    have hspot : spot = none := by simpa [Addr.add] using World.cell?_spot hc
    subst hspot
    refine ⟨b, off, rfl, fun i hi => ?_⟩
    have := (hE i hi).1
    rw [Addr.add_lit] at this
    exact this

end Go.Proofs.YthalpnpnbclipaaGreat

/- A list of slices of bytes that a law itself makes, one behind the other; bytes handed in, copied. -/
namespace Go.Proofs.YthalpnpnbclipaaGreat
open Go.RowKit

/-- v is a row of slices that lead to these lists; their bytes lie below B -/
def Done (B : Nat) (w : World) (v : Value) (ds : List (List UInt8)) : Prop :=
  ∃ xs, w.ownsRow 0 36 1 v ds.length xs ∧ (∀ g, v.ownBlock = some g → B ≤ g) ∧ ∀ i, i < ds.length → ∃ x m c, xs[i]? = some (.slice x m c) ∧ Bytes w x m (rc ds i) ∧ (0 < m → ∀ y, x = some y → y.block < B)

theorem Done.nil (B : Nat) (w : World) : Done B w (.slice none 0 0) [] := ⟨[], World.ownsRow_nil _ _ _ _, by simp [Value.ownBlock], fun i hi => by simp at hi⟩

theorem Done.turn {B : Nat} {w w' : World} {v : Value} {ds : List (List UInt8)} {Q : Nat → Prop} (h : Done B w v ds) (hT : Turn Q w w') (hQ : ∀ k, Q k → B ≤ k) (hv : ∀ g, v.ownBlock = some g → ¬ Q g) : Done B w' v ds := by
  obtain ⟨xs, h1, h2, h3⟩ := h
  refine ⟨xs, ownsRow_move' h1 (fun g hg => hT.block g (h1.lt g hg).2 (hv g hg)), h2, fun i hi => ?_⟩
  obtain ⟨x, m, c, e, hb, hx⟩ := h3 i hi
  exact ⟨x, m, c, e, hT.bytes hb (fun h0 y hy hq => by have := hx h0 y hy; have := hQ _ hq; omega), hx⟩
theorem Done.below {B : Nat} {w w' : World} {v : Value} {ds : List (List UInt8)} (h : Done B w v ds) (hB : Below w.heap.size w w') : Done B w' v ds :=
  h.turn (Turn.of_below (fun _ => False) hB) (fun _ h => h.elim) (fun _ _ => id)

theorem Done.slices {B : Nat} {w : World} {a : Option Addr} {n c : Nat} {ds : List (List UInt8)} (h : Done B w (.slice a n c) ds) : Slices w a n ds ∧ n = ds.length := by
  obtain ⟨xs, h1, h2, h3⟩ := h
  rcases h1.2 with ⟨e, h0⟩ | ⟨g, cap, cur, e, _⟩
  · cases e
    exact ⟨⟨h0, fun k hk => by omega⟩, h0.symm⟩
  · cases e
    refine ⟨⟨rfl, fun k hk => ?_⟩, rfl⟩
    obtain ⟨x, m, c', e, hb, _⟩ := h3 k hk
    refine ⟨g, 0, x, m, c', rfl, ?_, hb⟩
    rw [Nat.zero_add, h1.cellAt k (by omega)]
    exact e

/-- one list more -/
theorem Done.push {B : Nat} {w w' : World} {v v' : Value} {ds : List (List UInt8)} {xs : List Value} {x : Option Addr} {m c : Nat} {l : List UInt8} (h1 : w.ownsRow 0 36 1 v ds.length xs) (h2 : ∀ g, v.ownBlock = some g → B ≤ g)
    (h3 : ∀ i, i < ds.length → ∃ x m c, xs[i]? = some (.slice x m c) ∧ Bytes w x m (rc ds i) ∧ (0 < m → ∀ y, x = some y → y.block < B))
    (hb : Bytes w x m l) (hx : 0 < m → ∀ y, x = some y → y.block < B) (hBw : B ≤ w.heap.size) (hown : w'.ownsRow 0 36 1 v' (ds.length + 1) (xs ++ [.slice x m c])) (hg : w.grownBy w' v.ownBlock) (hat : v'.ownBlock = v.ownBlock ∨ v'.ownBlock = some w.heap.size) : Done B w' v' (ds ++ [l]) := by
  have hxl : xs.length = ds.length := by have := h1.1; omega
  have keep : ∀ {y : Option Addr} {k : Nat} {q : List UInt8}, Bytes w y k q → (0 < k → ∀ z, y = some z → z.block < B) → Bytes w' y k q := fun hy hz => ⟨hy.1, fun h0 => by
    obtain ⟨b, off, e, hc⟩ := hy.2 h0
    refine ⟨b, off, e, fun i hi => hg.cell (hc i hi) (fun e' => ?_)⟩
    have h1 := hz h0 _ e
    have h4 := h2 _ e'.symm
    simp only at h1 h4
    omega⟩
  refine ⟨xs ++ [.slice x m c], by rw [List.length_append, List.length_singleton]; exact hown, fun g hg' => ?_, fun i hi => ?_⟩
  · rcases hat with e | e
    · exact h2 g (by rw [← e]; exact hg')
    · rw [e] at hg'
      have : w.heap.size = g := by simpa using hg'
      omega
  · rw [List.length_append, List.length_singleton] at hi
    by_cases e : i = ds.length
    · subst e
      exact ⟨x, m, c, by rw [← hxl, List.getElem?_append_right (Nat.le_refl _)]; simp, by rw [rc_last]; exact keep hb hx, hx⟩
    · obtain ⟨y, k, d, e1, hy, hz⟩ := h3 i (by omega)
      exact ⟨y, k, d, by rw [List.getElem?_append_left (by omega)]; exact e1, by rw [rc_snoc _ _ _ (by omega)]; exact keep hy hz, hz⟩

/-- an empty slice just made, as a row -/
theorem empty_row (w : World) : (w.alloc (.cells #[] 5)).ownsRow 0 5 1 (.slice (some ⟨w.heap.size, 0, none⟩) 0 0) 0 [] :=
  ⟨rfl, .inr ⟨w.heap.size, 0, #[], rfl, Nat.zero_le _, World.alloc_heap_new w _, Nat.le_refl _, Nat.zero_le _, rfl, rfl⟩⟩

theorem empty_row_at (w : World) (B : Nat) (hB : B = w.heap.size) : (w.alloc (.cells #[] 5)).ownsRow 0 5 1 (.slice (some ⟨B, 0, none⟩) 0 0) 0 [] := by
  subst hB; exact empty_row w

end Go.Proofs.YthalpnpnbclipaaGreat

/- What stands in the law StoreCuts while objects are put in. -/
namespace Go.Proofs.YthalpnpnbclipaaGreat
open Go.RowKit Go.Shelf Go.Maps

attribute [local go_sem] Oper.semAt_some

structure KInv (w wr : World) (s d B8 : Nat) (os : List Ob) (S : DG) (F G : Nat → Prop) (dead : Bool) (k : Nat) (ids : List Int) (v : Value) : Prop where
  st : StC wr s d os S F G dead
  q : ∀ x, F x ∨ G x → w.heap.size < x ∧ x ≠ B8
  b8 : w.heap.size < B8
  cst : Cst w wr
  len : os.length ≤ k
  wrs : S.wr ≤ k * 4115
  box : Boxed wr B8 32 v
  row : wr.ownsRow (w.heap.size + 1) 24 1 v ids.length (ids.map (Value.int .u64))
  vq : ∀ g, v.ownBlock = some g → ¬ (F g ∨ G g) ∧ g ≠ B8
theorem KInv.mono {w wr : World} {s d B8 : Nat} {os : List Ob} {S : DG} {F G : Nat → Prop} {dead : Bool} {k k' : Nat} {ids : List Int} {v : Value} (h : KInv w wr s d B8 os S F G dead k ids v) (hk : k ≤ k') : KInv w wr s d B8 os S F G dead k' ids v :=
  { h with len := Nat.le_trans h.len hk, wrs := Nat.le_trans h.wrs (Nat.mul_le_mul hk (Nat.le_refl _)) }
theorem KInv.moved {w wr w5 w6 : World} {s d B8 : Nat} {os os' : List Ob} {S S' : DG} {F G F' G' : Nat → Prop} {dead dead' : Bool} {k : Nat} {ids : List Int} {v : Value} {b : List UInt8} {id er : Int} (h : KInv w wr s d B8 os S F G dead k ids v) (hB5 : Below wr.heap.size wr w5) (P : PutCut w5 w6 s d os os' S S' F G F' G' dead dead' b id er) : KInv w w6 s d B8 os' S' F' G' dead' (k + 1) ids v := by
  have hs5 := hB5.size
  have hbx := h.box.lt
  have c5 := h.cst.below hB5
  have b5 : Boxed w5 B8 32 v := (hB5.block _ h.box.lt).trans h.box
  have r5 : w5.ownsRow (w.heap.size + 1) 24 1 v ids.length (ids.map (Value.int .u64)) := row_keep h.row hB5
  have hcl := h.cst.bel.size
  have hcl2 := h.cst.box.lt
  have hq' : ∀ x, F' x ∨ G' x → (F x ∨ G x) ∨ w5.heap.size ≤ x := fun x hx => hx.elim (fun e => (P.hF x e).imp .inl (fun e => e)) (fun e => (P.hG x e).imp .inr (fun e => e))
  refine ⟨P.st, fun x hx => ?_, h.b8, c5.turn P.tn (fun x hx => (h.q x hx).1), ?_, ?_, (P.tn.block _ b5.lt (fun e => (h.q _ e).2 rfl)).trans b5, row_moved r5 (fun g hg => P.tn.block g (row_block r5 g hg).2.1 (h.vq g hg).1), fun g hg => ⟨fun e => ?_, (h.vq g hg).2⟩⟩
  · rcases hq' x hx with e | e
    · exact h.q x e
    · omega
  · have := h.len
    rcases P.res with ⟨_, e, _⟩ | ⟨e, _⟩
    · rw [e]; simp; omega
    · rw [e]; omega
  · have := h.wrs
    have := P.wr
    rw [Nat.add_mul]; omega
  · rcases hq' g e with e | e
    · exact (h.vq g hg).1 e
    · have := (row_block h.row g hg).2.1; omega
theorem KInv.push {w wr w7 : World} {s d B8 : Nat} {os : List Ob} {S : DG} {F G : Nat → Prop} {dead : Bool} {k : Nat} {ids : List Int} {v v' : Value} {x : Int} (h : KInv w wr s d B8 os S F G dead k ids v)
    (ho : w7.ownsRow (w.heap.size + 1) 24 1 v' (ids.length + 1) (ids.map (Value.int .u64) ++ [.int .u64 x])) (hg : (wr.alloc (.cells #[.int .u64 x] 24)).grownBy w7 v.ownBlock) (hat : v'.ownBlock = v.ownBlock ∨ v'.ownBlock = some (wr.alloc (.cells #[.int .u64 x] 24)).heap.size) :
    KInv w (w7.setCell ⟨B8, 0, none⟩ v') s d B8 os S F G dead k (ids ++ [x]) v' := by
  have hbx := h.box.lt
  have hT : Turn (fun k => k = B8 ∨ v.ownBlock = some k) wr (w7.setCell ⟨B8, 0, none⟩ v') :=
    ((Turn.of_below _ ((Below.refl _ wr).alloc (Nat.le_refl _) (.cells #[.int .u64 x] 24))).trans (Turn.of_grownBy (Fp := fun k => v.ownBlock = some k) hg (fun k e => .inl e)) (fun _ _ e => .inr e)).trans (turn_setCell w7 B8 0 _) (fun _ _ e => .inl e)
  have hvB : ∀ g, v.ownBlock = some g → w.heap.size < g := fun g e => by have := (row_block h.row g e).1; omega
  have b7 : Boxed w7 B8 32 v := (h.box.alloc (.cells #[.int .u64 x] 24)).kept hg (fun e => (h.vq _ e.symm).2 rfl)
  have hv' : ∀ g, v'.ownBlock = some g → g ≠ B8 ∧ ¬ (F g ∨ G g) := fun g e => by
    rcases hat with e' | e'
    · rw [e'] at e; exact ⟨(h.vq g e).2, (h.vq g e).1⟩
    · rw [e'] at e
      simp at e
      refine ⟨by omega, fun hx => ?_⟩
      have : g < wr.heap.size := hx.elim (fun h' => h.st.st.lt g h') (fun h' => h.st.dk.lt g h')
      omega
  refine ⟨h.st.turn hT (fun k hk e => ?_), h.q, h.b8, h.cst.turn hT (fun k e => ?_), h.len, h.wrs, b7.set v', ?_, fun g hg => ⟨(hv' g hg).2, (hv' g hg).1⟩⟩
  · rcases e with e | e
    · exact (h.q k hk).2 e
    · exact (h.vq k e).1 hk
  · rcases e with e | e
    · have := h.b8; omega
    · exact hvB k e
  · rw [List.length_append, List.map_append]
    exact row_moved ho (fun g e => Below.heap_setCell _ _ _ _ (hv' g e).1)
/-- what stands while ids are held against a list: the count in box g -/
def CntI (g : Nat) (wy : World) (pre : List Int) (W : World) : Prop := Boxed W g 3 (.int .i64 (pre.length : Int)) ∧ Turn (fun k => k = g) wy W
theorem cntI_own (g : Nat) (wy : World) (hg : g < wy.heap.size) : OwnFrom wy.heap.size (CntI g wy) := by
  rintro pre X Y row ⟨h1, hT⟩ hgr hr
  exact ⟨h1.kept hgr (fun e => by have := (hr g e.symm).1; omega), ⟨hgr.os.trans hT.os, hgr.tape.trans hT.tape, hgr.output.trans hT.output, Nat.le_trans hT.size hgr.size, fun k hk hn => (hgr.block k (Nat.lt_of_lt_of_le hk hT.size) (fun e => by have := (hr k e.symm).1; omega)).trans (hT.block k hk hn)⟩⟩
theorem lit_seven (W : World) (a b c d e f g : UInt8) (fz : Nat × Nat) : Bytes (W.alloc (.cells #[.int .u8 (a.toNat : Int), .int .u8 (b.toNat : Int), .int .u8 (c.toNat : Int), .int .u8 (d.toNat : Int), .int .u8 (e.toNat : Int), .int .u8 (f.toNat : Int), .int .u8 (g.toNat : Int)] 5 fz)) (some ⟨W.heap.size, 0, none⟩) 7 [a, b, c, d, e, f, g] := by
  have hb := World.alloc_heap_new W (.cells #[.int .u8 (a.toNat : Int), .int .u8 (b.toNat : Int), .int .u8 (c.toNat : Int), .int .u8 (d.toNat : Int), .int .u8 (e.toNat : Int), .int .u8 (f.toNat : Int), .int .u8 (g.toNat : Int)] 5 fz)
  generalize W.alloc (.cells #[.int .u8 (a.toNat : Int), .int .u8 (b.toNat : Int), .int .u8 (c.toNat : Int), .int .u8 (d.toNat : Int), .int .u8 (e.toNat : Int), .int .u8 (f.toNat : Int), .int .u8 (g.toNat : Int)] 5 fz) = W' at hb
  refine ⟨rfl, fun _ => ⟨W.heap.size, 0, rfl, fun i hi => ?_⟩⟩
  match i, hi with
  | 0, _ => simp [World.cell?, hb, bt]
  | 1, _ => simp [World.cell?, hb, bt]
  | 2, _ => simp [World.cell?, hb, bt]
  | 3, _ => simp [World.cell?, hb, bt]
  | 4, _ => simp [World.cell?, hb, bt]
  | 5, _ => simp [World.cell?, hb, bt]
  | 6, _ => simp [World.cell?, hb, bt]
end Go.Proofs.YthalpnpnbclipaaGreat
