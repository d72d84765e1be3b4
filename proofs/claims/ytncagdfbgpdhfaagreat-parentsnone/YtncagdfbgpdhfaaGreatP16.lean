import Derived.Test.YtncagdfbgpdhfaaGreatP14
import Derived.Test.YtncagdfbgpdhfaaGreatP15
import Derived.RangeFuncOwn
import Derived.Outline
/- Objects in memory of a store's own: what Copy and Decode answer lies in new blocks. -/
namespace Go.Proofs.YtncagdfbgpdhfaaGreat
open Go.RowKit

attribute [local go_sem] Oper.semAt_some

theorem raw_fresh (w : World) (r g p m n : Nat) (l : List UInt8) (h : Rd w r g p 0 l) (hm : l.length = p + m) (hn : n ≤ m) (hlim : m ≤ 281474976710656) :
    Calls Tryz.prog 127 #[.pointer (some ⟨r, 0, none⟩), .int .i64 n] w fun e w' => ∃ b c, e = .returned (.slice (some ⟨b, 0, none⟩) n c) ∧ w.heap.size ≤ b ∧ Bytes w' (some ⟨b, 0, none⟩) n ((l.drop p).take n) ∧ Rd w' r g (p + n) 0 l ∧ w.grownBy w' (some r) := by
  have Hm : Hid (l.length = p + m) := hm
  clear hm
  go_enter Tryz.func127, Tryz.ntmps127
  go_wp2_with fail
  refine (take_yes _ r g p m n l h Hm.out hn).mono ?_
  rintro e w1 ⟨a, c, rfl, hb, hr, hg⟩
  go_wp2_with fail
  refine (withRoom_any a n c 0 _ _ hb (by omega)).mono ?_
  rintro e w2 ⟨rfl, hown, hg2⟩
  go_wp2
  go_ret
  refine ⟨_, _, rfl, hg.size, (ownsRow_bytes hown).1, hr.kept hg2 (by simp) (by simp), grownBy_trans hg (grownBy_wide hg2)⟩
/-- an object that lies in memory of its own -/
def ObF (B : Nat) : Ob → Value → World → Prop
  | .blob b, v, W => ∃ g cp, v = .iface 82 (.agg #[.slice (some ⟨g, 0, none⟩) b.length cp]) ∧ Bytes W (some ⟨g, 0, none⟩) b.length b ∧ B ≤ g
  | .tree l, v, W => ∃ ad cp, v = trV ad l.length cp ∧ W.ownsRow B 179 3 (.slice ad l.length cp) l.length (entCells l)
  | .com c, v, W => ∃ ad cp, v = coV c.1 ad c.2.1.length cp c.2.2.1 c.2.2.2.1 c.2.2.2.2 ∧ W.ownsRow B 31 1 (.slice ad c.2.1.length cp) c.2.1.length (c.2.1.map (Value.int .u64))
theorem ObF.below {B : Nat} {o : Ob} {v : Value} {W W' : World} (h : ObF B o v W) (hB : Below W.heap.size W W') : ObF B o v W' := by
  cases o with
  | blob b => obtain ⟨g, cp, h1, h2, h3⟩ := h; exact ⟨g, cp, h1, bytes_below h2 hB, h3⟩
  | tree l => obtain ⟨ad, cp, h1, h2⟩ := h; exact ⟨ad, cp, h1, row_keep h2 hB⟩
  | com c => obtain ⟨ad, cp, h1, h2⟩ := h; exact ⟨ad, cp, h1, row_keep h2 hB⟩
theorem ObF.at_ {w w' : World} {o : Ob} {v : Value} (h : ObF w.heap.size o v w') (ok : ObOk o) (hs : (obB o).length ≤ 549755813888) : ObAt o v w' := by
  have hd : DecOut w (some o) (.returned v) w' := by
    cases o with
    | blob b => obtain ⟨g, cp, h1, h2, _⟩ := h; exact ⟨_, cp, by rw [h1], h2⟩
    | tree l => obtain ⟨ad, cp, h1, h2⟩ := h; exact ⟨ad, cp, by rw [h1], h2⟩
    | com c => obtain ⟨ad, cp, h1, h2⟩ := h; exact ⟨ad, cp, by rw [h1], h2⟩
  obtain ⟨v', hv, h'⟩ := dec_at hd ok hs
  cases hv
  exact h'
set_option maxRecDepth 20000 in
set_option maxHeartbeats 4000000 in
theorem decode_blobF (a : Option Addr) (n cap : Nat) (b : List UInt8) (w : World) (hb : Bytes w a n (98 :: b)) (hn : n ≤ 549755813888) :
    Calls Tryz.prog 99 #[.slice a n cap] w fun x w' => (∃ v, x = .returned v ∧ ObF w.heap.size (.blob b) v w') ∧ Below w.heap.size w w' := by
  have hrd := oread_any a n cap (98 :: b) w hb (by omega)
  have hll := hb.1
  have HB : Hid (byteR (98 :: b) 0 0 = (98, 1, 0)) := byte_of (l := 98 :: b) (p := 0) (c := 98) (r := b) rfl
  obtain ⟨m, hm⟩ : ∃ m, m = b.length := ⟨_, rfl⟩
  have Hm : Hid ((98 :: b).length = 1 + m) := (by rw [hm]; simp; omega : (98 :: b).length = 1 + m)
  have hm2 : m ≤ 549755813888 := by simp at hll; omega
  have HMB : Hid (m = b.length) := hm
  generalize hL : 98 :: b = L at *
  have HL : Hid (98 :: b = L) := hL
  clear hm hll hb hL
  go_enter Tryz.func99, Tryz.ntmps99
  go_wp2_with first
    | (go_at_call 91; refine hrd.mono ?_; clear hrd; rintro y w1 ⟨r, g, rfl, hr, hg, hR1, hG1⟩; have B1 : Hid (Below w.heap.size w w1) := ⟨hG1.os, hG1.tape, hG1.output, hG1.size, fun k hk => hG1.block k hk (by simp)⟩; have hby := byte_st w1 r g 0 0 L hR1; rw [HB.out] at hby; clear hR1 hG1)
    | (go_at_call 126; refine hby.mono ?_; clear hby; rintro y w2 ⟨rfl, hR2, hG2⟩; have R2 : Hid (Rd w2 r g 1 0 L ∧ Below w.heap.size w w2) := ⟨hR2, below_of_gr B1.out hG2 hr⟩; clear hR2 hG2 B1)
    | (go_at_call 92; refine (left_any _ r g 1 m 0 L R2.out.1 Hm.out).mono ?_; rintro y w3 ⟨rfl, kk, hw3⟩; have R3 : Hid (Rd w3 r g 1 0 L ∧ Below w.heap.size w w3) := ⟨by rw [hw3]; exact R2.out.1.drewN kk, by rw [hw3]; exact below_drewN R2.out.2 kk⟩; clear hw3 R2)
    | (go_at_call 127; refine (raw_fresh _ r g 1 m m L R3.out.1 Hm.out (Nat.le_refl _) (by omega)).mono ?_; rintro y w4 ⟨gb, cp, rfl, hfr, hy4, hR4, hG4⟩; have R4 : Hid (Rd w4 r g (1 + m) 0 L ∧ Below w.heap.size w w4 ∧ Bytes w4 (some ⟨gb, 0, none⟩) m ((L.drop 1).take m) ∧ w.heap.size ≤ gb) := ⟨hR4, below_of_gr R3.out.2 hG4 hr, hy4, Nat.le_trans R3.out.2.size hfr⟩; clear hR4 hG4 hy4 R3 hfr)
    | (go_at_call 130; refine (end_st _ r g _ _ L R4.out.1).mono ?_; rintro y w5 ⟨z, rfl, hz, hB5⟩; obtain rfl : z = 0 := hz.2 ⟨rfl, Hm.out.symm⟩; have R5 : Hid (Below w.heap.size w w5 ∧ Bytes w5 (some ⟨gb, 0, none⟩) m ((L.drop 1).take m) ∧ w.heap.size ≤ gb) := ⟨R4.out.2.1.trans (hB5.mono R4.out.2.1.size), bytes_below R4.out.2.2.1 hB5, R4.out.2.2.2⟩; clear hz hB5 R4)
  go_ret
  have h2 := R5.out.2.1
  rw [← HL.out] at h2
  have e : ((98 :: b).drop 1).take m = b := by rw [HMB.out]; simp
  rw [e, HMB.out] at h2
  exact ⟨⟨_, rfl, gb, cp, by rw [← HMB.out]; rfl, h2, R5.out.2.2⟩, R5.out.1⟩
theorem Decode_F (a : Option Addr) (n cap : Nat) (l : List UInt8) (w : World) (hb : Bytes w a n l) (hn : n ≤ 549755813888) (o : Ob) (hd : decG l = some o) :
    Calls Tryz.prog 72 #[.slice a n cap] w fun x w' => (∃ v, x = .returned (.tuple #[v, .int .i64 0]) ∧ ObF w.heap.size o v w') ∧ Below w.heap.size w w' := by
  have hll := hb.1
  obtain ⟨h1, h2, h3, h4⟩ := decG_some hd (by omega)
  have hde : Calls Tryz.prog 99 #[.slice a n cap] w fun x w' => (∃ v, x = .returned v ∧ ObF w.heap.size o v w') ∧ Below w.heap.size w w' := by
    have hx := decode_any a n cap l w hb hn
    rw [h1] at hx
    cases o with
    | blob b =>
      have e : l = 98 :: b := h3.symm
      subst e
      exact decode_blobF a n cap b w hb hn
    | tree R =>
      refine hx.mono fun x w' hx => ⟨?_, hx.2⟩
      obtain ⟨ad, cp, hv, ho⟩ := hx.1
      exact ⟨_, hv, ad, cp, rfl, ho⟩
    | com c =>
      refine hx.mono fun x w' hx => ⟨?_, hx.2⟩
      obtain ⟨ad, cp, hv, ho⟩ := hx.1
      exact ⟨_, hv, ad, cp, rfl, ho⟩
  have HK : Hid (∀ W v, ObF w.heap.size o v W → Calls Tryz.prog 74 #[v] W fun e w' => e = .returned (.int .i64 0) ∧ Below W.heap.size W w') := fun W v h => by
    have := check_ob W (h.at_ h4 (by rw [h3]; omega))
    rw [h2] at this
    exact this
  clear hb hd h1 h2 h3 h4 hll
  go_enter Tryz.func72, Tryz.ntmps72
  go_wp2_with first
    | (go_at_call 99; refine hde.mono ?_; clear hde; rintro y w1 ⟨⟨v, rfl, hO1⟩, hB1⟩)
    | (go_at_call 74; refine (HK.out _ _ hO1).mono ?_; rintro y w2 ⟨rfl, hB2⟩)
  go_ret2
  exact ⟨⟨v, rfl, hO1.below hB2⟩, hB1.trans (hB2.mono hB1.size)⟩

/-- the blocks of cells from n on -/
def Fresh (n : Nat) (W : World) : Nat → Prop := fun k => n ≤ k ∧ ∃ o : Obj, W.heap[k]? = some o ∧ o.isCells = true
theorem Fresh.lt {n : Nat} {W : World} {k : Nat} (h : Fresh n W k) : k < W.heap.size := by
  obtain ⟨_, o, ho, _⟩ := h
  exact (Array.getElem?_eq_some_iff.1 ho).1
/-- a slice that is nil has no entries -/
def NilOk : Ob → Value → Prop
  | .tree l, v => ∀ ad cp, v = trV ad l.length cp → ad = none → l.length = 0 ∧ cp = 0
  | _, _ => True
def ObS (o : Ob) (v : Value) (W : World) : Prop := ObAt o v W ∧ NilOk o v
/-- an object that lies in these blocks alone -/
def Held (O : Nat → Prop) (o : Ob) (v : Value) (W : World) : Prop := ∀ W' : World, (∀ k, O k → W'.heap[k]? = W.heap[k]?) → ObS o v W'
theorem Held.get {O : Nat → Prop} {o : Ob} {v : Value} {W : World} (h : Held O o v W) : ObS o v W := h W fun _ _ => rfl
theorem Held.kept {O : Nat → Prop} {o : Ob} {v : Value} {W W' : World} (h : Held O o v W) (hk : ∀ k, O k → W'.heap[k]? = W.heap[k]?) : Held O o v W' := fun X hX => h X fun k hk' => (hX k hk').trans (hk k hk')
theorem Held.wide {O O' : Nat → Prop} {o : Ob} {v : Value} {W : World} (h : Held O o v W) (hs : ∀ k, O k → O' k) : Held O' o v W := fun X hX => h X fun k hk => hX k (hs k hk)
theorem row_moved {w w' : World} {e : TypeId} {B n z : Nat} {v : Value} {xs : List Value} (h : w.ownsRow B e z v n xs) (hb : ∀ g, v.ownBlock = some g → w'.heap[g]? = w.heap[g]?) : w'.ownsRow B e z v n xs := by
  refine ⟨h.1, ?_⟩
  rcases h.2 with h0 | ⟨g, cap, cur, rfl, h1, h2, h3⟩
  · exact .inl h0
  · exact .inr ⟨g, cap, cur, rfl, h1, by rw [hb g rfl]; exact h2, h3⟩
theorem row_fresh {W : World} {B r : Nat} {e : TypeId} (h : B ≤ r ∧ r < W.heap.size ∧ ∃ cur, W.heap[r]? = some (.cells cur e (0, 0))) : Fresh B W r := by
  obtain ⟨h1, _, cur, hc⟩ := h
  exact ⟨h1, _, hc, rfl⟩
theorem Copy_ob {o : Ob} {v : Value} (W : World) (h : ObS o v W) (h0 : obErr o = 0) : Calls Tryz.prog 58 #[v] W fun e w' => ∃ u, e = .returned u ∧ Held (Fresh W.heap.size w') o u w' ∧ Below W.heap.size W w' := by
  cases o with
  | blob b =>
    obtain ⟨⟨ad, cp, rfl, h2, h3, h4⟩, _⟩ := h
    have hb : b.length ≤ 4096 := by
      have h0' : blobErr b.length = 0 := h0
      unfold blobErr at h0'
      split at h0'
      · omega
      · omega
    refine (Copy_blob ad _ cp b W h2 h3 (by omega)).mono fun e w' hx => ?_
    obtain ⟨a', c', rfl, ho, hB⟩ := hx
    refine ⟨_, rfl, fun X hX => ?_, hB⟩
    have hr : X.ownsRow W.heap.size 5 1 (.slice a' b.length c') b.length (cellsOf b) := row_moved ho.row (fun g hg => hX g (row_fresh (row_block ho.row g hg)))
    have hn := (row_shape hr)
    obtain ⟨a2, c2, e2, hc2, hn2⟩ := hn
    cases e2
    exact ⟨⟨a', c', rfl, OwnB.bytes ⟨hr⟩ rfl, hn2, h4⟩, trivial⟩
  | tree l =>
    obtain ⟨⟨ad, cp, rfl, h2, h3, h4⟩, hnil⟩ := h
    have hl : l.length ≤ 256 := (fits_of h3 h0).1
    refine (Copy_tree ad _ cp l W h2 (hnil ad cp rfl) (by omega)).mono fun e w' hx => ?_
    obtain ⟨a', c', rfl, ho, hB⟩ := hx
    refine ⟨_, rfl, fun X hX => ?_, hB⟩
    have hr := row_moved ho (fun g hg => hX g (row_fresh (row_block3 ho g hg)))
    obtain ⟨a2, c2, e2, hc2, hn2⟩ := row_shape3 hr
    cases e2
    refine ⟨⟨a', c', rfl, own_ents hr rfl, h3, h4⟩, fun x y e => ?_⟩
    cases e
    exact hn2
  | com c =>
    obtain ⟨⟨ad, cp, rfl, h2⟩, hnil⟩ := h
    have hl : c.2.1.length ≤ 8 := by
      have h0' : comErr c.1 c.2.1 c.2.2.1 c.2.2.2.2 = 0 := h0
      unfold comErr at h0'
      split at h0'
      · omega
      · split at h0'
        · rename_i hp; omega
        · rename_i hp
          simp only [ne_eq, Decidable.not_not] at hp
          unfold parErr at hp
          split at hp
          · omega
          · omega
    refine (Copy_com c.1 ad _ cp c.2.1 _ _ _ W h2.par h2.len.2.2 (by omega)).mono fun e w' hx => ?_
    obtain ⟨a', c', rfl, ho, hB⟩ := hx
    refine ⟨_, rfl, fun X hX => ?_, hB⟩
    have hr := row_moved ho (fun g hg => hX g (row_fresh (row_block ho g hg)))
    obtain ⟨a2, c2, e2, hc2, hn2⟩ := row_shape hr
    cases e2
    obtain ⟨a2, c2, e2, hI⟩ := own_ids hr
    cases e2
    exact ⟨⟨a', c', rfl, ⟨h2.tree, hI, h2.pars, ⟨hc2, h2.len.2.1, hn2⟩, h2.author, h2.date, h2.text⟩⟩, trivial⟩
theorem ObF.held {w w' : World} {o : Ob} {v : Value} (h : ObF w.heap.size o v w') (ok : ObOk o) (hs : (obB o).length ≤ 549755813888) : Held (Fresh w.heap.size w') o v w' := by
  intro X hX
  have hF : ObF w.heap.size o v X := by
    cases o with
    | blob b =>
      obtain ⟨g, cp, h1, h2, h3⟩ := h
      refine ⟨g, cp, h1, ⟨h2.1, fun h0 => ?_⟩, h3⟩
      obtain ⟨b', off, e, hc⟩ := h2.2 h0
      cases e
      refine ⟨_, _, rfl, fun i hi => ?_⟩
      have := hc i hi
      rw [World.cell?_of_block (hX _ ⟨h3, cells_of_cell this⟩)]
      exact this
    | tree l => obtain ⟨ad, cp, h1, h2⟩ := h; exact ⟨ad, cp, h1, row_moved h2 (fun g hg => hX g (row_fresh (row_block3 h2 g hg)))⟩
    | com c => obtain ⟨ad, cp, h1, h2⟩ := h; exact ⟨ad, cp, h1, row_moved h2 (fun g hg => hX g (row_fresh (row_block h2 g hg)))⟩
  refine ⟨hF.at_ ok hs, ?_⟩
  cases o with
  | blob b => trivial
  | tree l =>
    obtain ⟨ad, cp, rfl, h2⟩ := hF
    obtain ⟨a2, c2, e2, hc2, hn2⟩ := row_shape3 h2
    cases e2
    intro x y e
    cases e
    exact hn2
  | com c => trivial
end Go.Proofs.YtncagdfbgpdhfaaGreat

/- The walk of the one method by which files change: a raw write is done whole and counted, or not at all. -/
namespace Go.Proofs.YtncagdfbgpdhfaaGreat
open Go.RowKit Go.Maps

def DG.can (S : DG) : Bool := !S.cut || S.left != 0
def DG.done (S : DG) : DG := { S with wr := S.wr + 1, left := if S.cut then S.left - 1 else S.left }

theorem turn_setCell (w : World) (p o : Nat) (v : Value) : Turn (fun k => k = p) w (w.setCell ⟨p, o, none⟩ v) :=
  ⟨rfl, rfl, rfl, by simp [World.setCell], fun k _ hk => Below.heap_setCell _ _ _ _ hk⟩

set_option maxHeartbeats 1000000 in
theorem raw_done (k p : Nat) (caps : Array Value) (S : DG) (Fp : Nat → Prop) (w : World) (R : World → Prop) (hk : ∀ w, (callFunc k caps).run Tryz.prog w = .ok (.enter k caps) w) (hd : IsDisk w p S Fp) (hw : S.wr < 4611686018427387904) (hc : S.can = true)
    (hcl : ∀ w1, (∀ b M, DiskAt w p b M S Fp → DiskAt w1 p b M S.done Fp) → IsDisk w1 p S.done Fp → Turn (fun i => i = p) w w1 → w1.heap.size = w.heap.size → Calls Tryz.prog k caps w1 fun e w' => e = .returned (.tuple #[]) ∧ R w') :
    Calls Tryz.prog 97 #[.pointer (some ⟨p, 0, none⟩), .func (.func k) #[] caps] w fun e w' => e = .returned (.int .i64 0) ∧ R w' := by
  obtain ⟨b, M, hd⟩ := hd
  obtain ⟨f, n, wr, cut, left⟩ := S
  have c1 := hd.c1
  have c2 := hd.c2
  have c3 := hd.c3
  have f1 := hd.f1
  have f3 := hd.f3
  have hl := hd.hl
  simp only at c1 c2 c3 hl hw
  cases cut with
  | false =>
    have hd1 := fun b' M' (hd : DiskAt w p b' M' (DG.mk f n wr false left) Fp) => hd.field 1 (.int .i64 ((wr : Int) + 1)) (by decide) (DG.mk f n (wr + 1) false left) rfl rfl hl (by rw [World.cell?_setCell_same _ _ _ c1]; rfl) (by rw [World.cell?_setCell_other _ _ _ _ (by simp)]; exact c2) (by rw [World.cell?_setCell_other _ _ _ _ (by simp)]; exact c3)
    have hx := hcl _ hd1 ⟨b, M, hd1 b M hd⟩ (turn_setCell w p 1 _) (by simp [World.setCell])
    clear hcl hd hd1
    go_enter Tryz.func97, Tryz.ntmps97
    go_wp2_with fail
    refine hx.mono ?_
    rintro e w' ⟨rfl, hR⟩
    go_wp2
    go_ret
    exact ⟨rfl, hR⟩
  | true =>
    have h0 : left ≠ 0 := by simpa [DG.can] using hc
    have h0' : ¬ (left : Int) = 0 := by omega
    have e1 : ((left - 1 : Nat) : Int) = (left : Int) - 1 := by omega
    have hd1 := fun b' M' (hd : DiskAt w p b' M' (DG.mk f n wr true left) Fp) => hd.field 3 (.int .i64 ((left : Int) - 1)) (by decide) (DG.mk f n wr true (left - 1)) rfl rfl (by simp only; omega) (by rw [World.cell?_setCell_other _ _ _ _ (by simp)]; exact c1) (by rw [World.cell?_setCell_other _ _ _ _ (by simp)]; exact c2) (by rw [World.cell?_setCell_same _ _ _ c3]; simp only; rw [e1])
    have hd2 := fun b' M' (hd : DiskAt w p b' M' (DG.mk f n wr true left) Fp) => (hd1 b' M' hd).field 1 (.int .i64 ((wr : Int) + 1)) (by decide) (DG.mk f n (wr + 1) true (left - 1)) rfl rfl (by simp only; omega) (by rw [World.cell?_setCell_same _ _ _ (hd1 b' M' hd).c1]; rfl) (by rw [World.cell?_setCell_other _ _ _ _ (by simp)]; exact (hd1 b' M' hd).c2) (by rw [World.cell?_setCell_other _ _ _ _ (by simp)]; exact (hd1 b' M' hd).c3)
    have hx := hcl _ hd2 ⟨b, M, hd2 b M hd⟩ ((turn_setCell w p 3 _).trans (turn_setCell _ p 1 _) (fun _ _ h => h)) (by simp [World.setCell])
    clear hcl hd hd1 hd2
    go_enter Tryz.func97, Tryz.ntmps97
    go_wp2_with fail
    refine hx.mono ?_
    rintro e w' ⟨rfl, hR⟩
    go_wp2
    go_ret
    exact ⟨rfl, hR⟩

set_option maxHeartbeats 1000000 in
theorem raw_cut (k p : Nat) (caps : Array Value) (S : DG) (Fp : Nat → Prop) (w : World) (hd : IsDisk w p S Fp) (hc : S.can = false) :
    Calls Tryz.prog 97 #[.pointer (some ⟨p, 0, none⟩), .func (.func k) #[] caps] w fun e w' => e = .returned (.int .i64 6) ∧ w' = w := by
  obtain ⟨b, M, hd⟩ := hd
  obtain ⟨f, n, wr, cut, left⟩ := S
  have hc' : cut = true ∧ left = 0 := by simpa [DG.can] using hc
  obtain ⟨rfl, rfl⟩ := hc'
  have c2 := hd.c2
  have c3 := hd.c3
  simp only at c2 c3
  clear hd hc
  go_enter Tryz.func97, Tryz.ntmps97
  go_wp2
  go_ret
  exact ⟨rfl, rfl⟩

end Go.Proofs.YtncagdfbgpdhfaaGreat
