import Derived.Test.YtcbmofapnjdmgaaDoorDD34
import Derived.Deep.CutRange
/- The walk of the law's does: a disk is cut, mended, read. -/
namespace Go.Proofs.YtcbmofapnjdmgaaDoor
open Go.RowKit Go.Maps

attribute [local go_sem] Oper.semAt_some

/-- the document's disk is cut or mended: its field is written -/
theorem DoI.left {w : World} {p q : Nat} {o : GOp} {l : List UInt8} {Fp Gp : Nat → Prop} {W : World} {S1 S2 : DG} (h : DoI w p q o l Fp Gp W S1 S2) (x : Int) (c : Bool) (n : Nat) (hx : (c = false ∧ x = -1) ∨ (c = true ∧ x = (n : Int))) :
    (∃ u, W.cell? ⟨q, 2, none⟩ = some u) ∧ W.frozen? ⟨q, 2, none⟩ = false ∧ DoI w p q o l Fp Gp (W.setCell ⟨q, 2, none⟩ (.int .i64 x)) S1 { S2 with cut := c, left := n } := by
  obtain ⟨F, G, h⟩ := h
  obtain ⟨fs, is, left, hR, hM⟩ := h.r
  have hR' := hR.field 2 (.int .i64 x) (by decide) S2.wr x (by rw [World.cell?_setCell_other _ _ _ _ (by simp)]; exact hR.c1) (World.cell?_setCell_same _ _ _ hR.c2)
  have hT : Turn (fun k => k = q) W (W.setCell ⟨q, 2, none⟩ (.int .i64 x)) := turn_setCell W q 2 _
  refine ⟨⟨_, hR.c2⟩, hR.f2, F, G, h.turned hT (fun k hk => .inr (.inl (hk ▸ hR.fp))) (h.d.turn hT (fun k hk e => h.dis k hk (e ▸ hR.fp))) ⟨fs, is, x, hR', ⟨hM.f, hM.n, hM.nd, hx⟩⟩ h.dis (fun k hk => hk.elim .inl (fun h => .inr (.inl h)))⟩

set_option maxRecDepth 100000 in
set_option maxHeartbeats 8000000 in
theorem wdoes_cut (w : World) (p q : Nat) (kind nn : Int) (nm nt : ByteArray) (ad : Option Addr) (ln cp : Nat) (l : List UInt8) (S : DG) (b : Nat) (Fp Gp : Nat → Prop) (h : Pair2 w p q S Fp Gp) (hi : OpIn w ⟨kind, nm, nt, nn, ad, ln, cp⟩ l Fp Gp) (hg : Good S b) (_hb : b ≤ 1000000000) (hk : (IntKind.u64.wrap kind).tmod 9 = 4) :
    Calls Tryd.prog 11 #[.agg #[.pointer (some ⟨p, 0, none⟩), .pointer (some ⟨q, 0, none⟩)], .agg #[.int .i64 kind, .string nm, .string nt, .int .i64 nn, .slice ad ln cp]] w fun e w' => e = .returned (.bool true) ∧ DoOut w w' p q (b + 4194305) Fp Gp := by
  have H0 : Hid (DoI w p q ⟨kind, nm, nt, nn, ad, ln, cp⟩ l Fp Gp ((w.alloc (.cells #[.pointer (some ⟨p, 0, none⟩), .pointer (some ⟨q, 0, none⟩)] 29)).alloc (.cells #[.int .i64 kind, .string nm, .string nt, .int .i64 nn, .slice ad ln cp] 34)) S S) := ⟨_, _, DoP.start h hi⟩
  have HG : Hid (Good S (b + 4194305)) := hg.more (by omega)
  have HI : Hid (nm.size ≤ maxLen ∧ nt.size ≤ maxLen ∧ -9223372036854775808 ≤ nn ∧ nn ≤ 9223372036854775807) := ⟨hi.name, hi.tsz, hi.n⟩
  obtain ⟨c0, c1, c2, c3, c4, c5, c6⟩ := H0.out.cells
  clear h hi hg
  by_cases hneg : nn < 0
  · go_enter Tryd.func11, Tryd.ntmps11
    go_wp2_with (go_at_call 29; go_loud (refine (cut_no p _ nn hneg).mono ?_; rintro e w2 ⟨rfl, hw2⟩; have H2 : Hid (DoI w p q ⟨kind, nm, nt, nn, ad, ln, cp⟩ l Fp Gp w2 S S) := (by rw [hw2]; exact H0.out); obtain ⟨b0, b1, b2, b3, b4, b5, b6⟩ := H2.out.cells; clear hw2))
    exact bodyPost_ret (v := .bool true) (by simp [results, Tryd.results11, go_sem]) rfl ⟨rfl, H2.out.out HG.out⟩
  · obtain ⟨N, rfl⟩ : ∃ N : Nat, nn = (N : Int) := ⟨nn.toNat, by omega⟩
    have HC : Hid (∀ W, DoI w p q ⟨kind, nm, nt, (N : Int), ad, ln, cp⟩ l Fp Gp W S S → Calls Tryd.prog 29 #[.pointer (some ⟨p, 0, none⟩), .int .i64 (N : Int)] W fun e w' => ∃ u, e = .returned u ∧ (u = .int .i64 0 ∧ DoI w p q ⟨kind, nm, nt, (N : Int), ad, ln, cp⟩ l Fp Gp w' { S with cut := true, left := N } S)) := fun W hW => hW.prog fun F hF => (cut_any p S F W N hF (by have := HI.out.2.2.2; omega)).mono fun e w' ⟨h1, h2, h3⟩ => ⟨h1, grow_lt h2 hF.lt (fun k hk => .inl hk) h3.size, h3⟩
    have HGc : Hid (Good { S with cut := true, left := N } (b + 4194305)) := HG.out.cut N (by have := HI.out.2.2.2; omega)
    go_enter Tryd.func11, Tryd.ntmps11
    go_upto_region 24 with (go_at_call 29; go_loud (refine (HC.out _ H0.out).mono ?_; rintro e w2 ⟨_, rfl, rfl, h2⟩; have H2 : Hid (DoI w p q ⟨kind, nm, nt, (N : Int), ad, ln, cp⟩ l Fp Gp w2 { S with cut := true, left := N } S) := h2; obtain ⟨b0, b1, b2, b3, b4, b5, b6⟩ := H2.out.cells; obtain ⟨⟨u, d2⟩, f2, h3⟩ := H2.out.left (N : Int) true N (.inr ⟨rfl, rfl⟩); have H3 : Hid (DoI w p q ⟨kind, nm, nt, (N : Int), ad, ln, cp⟩ l Fp Gp (w2.setCell ⟨q, 2, none⟩ (.int .i64 (N : Int))) { S with cut := true, left := N } { S with cut := true, left := N }) := h3; clear h2 h3))
    have HE : Hid (DoOut w (w2.setCell ⟨q, 2, none⟩ (.int .i64 (N : Int))) p q (b + 4194305) Fp Gp) := H3.out.out HGc.out
    clear H0 H2 H3 HC
    go_wp2
    exact bodyPost_ret (v := .bool true) (by simp [results, Tryd.results11, go_sem]) rfl ⟨rfl, HE.out⟩

set_option maxRecDepth 100000 in
set_option maxHeartbeats 8000000 in
theorem wdoes_mend (w : World) (p q : Nat) (kind nn : Int) (nm nt : ByteArray) (ad : Option Addr) (ln cp : Nat) (l : List UInt8) (S : DG) (b : Nat) (Fp Gp : Nat → Prop) (h : Pair2 w p q S Fp Gp) (hi : OpIn w ⟨kind, nm, nt, nn, ad, ln, cp⟩ l Fp Gp) (hg : Good S b) (_hb : b ≤ 1000000000) (hk : (IntKind.u64.wrap kind).tmod 9 = 5) :
    Calls Tryd.prog 11 #[.agg #[.pointer (some ⟨p, 0, none⟩), .pointer (some ⟨q, 0, none⟩)], .agg #[.int .i64 kind, .string nm, .string nt, .int .i64 nn, .slice ad ln cp]] w fun e w' => e = .returned (.bool true) ∧ DoOut w w' p q (b + 4194305) Fp Gp := by
  have H0 : Hid (DoI w p q ⟨kind, nm, nt, nn, ad, ln, cp⟩ l Fp Gp ((w.alloc (.cells #[.pointer (some ⟨p, 0, none⟩), .pointer (some ⟨q, 0, none⟩)] 29)).alloc (.cells #[.int .i64 kind, .string nm, .string nt, .int .i64 nn, .slice ad ln cp] 34)) S S) := ⟨_, _, DoP.start h hi⟩
  have HG : Hid (Good S (b + 4194305)) := hg.more (by omega)
  have HI : Hid (nm.size ≤ maxLen ∧ nt.size ≤ maxLen ∧ -9223372036854775808 ≤ nn ∧ nn ≤ 9223372036854775807) := ⟨hi.name, hi.tsz, hi.n⟩
  obtain ⟨c0, c1, c2, c3, c4, c5, c6⟩ := H0.out.cells
  clear h hi hg
  have HGc : Hid (Good { S with cut := false, left := 0 } (b + 4194305)) := HG.out.mend
  have HC : Hid (∀ W, DoI w p q ⟨kind, nm, nt, nn, ad, ln, cp⟩ l Fp Gp W S { S with cut := false, left := 0 } → Calls Tryd.prog 30 #[.pointer (some ⟨p, 0, none⟩)] W fun e w' => ∃ u, e = .returned u ∧ (u = .int .i64 0 ∧ DoI w p q ⟨kind, nm, nt, nn, ad, ln, cp⟩ l Fp Gp w' { S with cut := false, left := 0 } { S with cut := false, left := 0 })) := fun W hW => hW.prog fun F hF => (mend_any p S F W hF).mono fun e w' ⟨h1, h2, h3⟩ => ⟨h1, grow_lt h2 hF.lt (fun k hk => .inl hk) h3.size, h3⟩
  obtain ⟨⟨u, d2⟩, f2, h3⟩ := H0.out.left (-1) false 0 (.inl ⟨rfl, rfl⟩)
  have H3 : Hid (DoI w p q ⟨kind, nm, nt, nn, ad, ln, cp⟩ l Fp Gp (((w.alloc (.cells #[.pointer (some ⟨p, 0, none⟩), .pointer (some ⟨q, 0, none⟩)] 29)).alloc (.cells #[.int .i64 kind, .string nm, .string nt, .int .i64 nn, .slice ad ln cp] 34)).setCell ⟨q, 2, none⟩ (.int .i64 (-1))) S { S with cut := false, left := 0 }) := h3
  obtain ⟨b0, b1, b2, b3, b4, b5, b6⟩ := H3.out.cells
  clear h3
  go_enter Tryd.func11, Tryd.ntmps11
  go_wp2_with (go_at_call 30; go_loud (refine (HC.out _ H3.out).mono ?_; rintro e w2 ⟨_, rfl, rfl, h2⟩; have H2 : Hid (DoI w p q ⟨kind, nm, nt, nn, ad, ln, cp⟩ l Fp Gp w2 { S with cut := false, left := 0 } { S with cut := false, left := 0 }) := h2; clear h2))
  exact bodyPost_ret (v := .bool true) (by simp [results, Tryd.results11, go_sem]) rfl ⟨rfl, H2.out.out HGc.out⟩

set_option maxRecDepth 100000 in
set_option maxHeartbeats 8000000 in
theorem wdoes_read (w : World) (p q : Nat) (kind nn : Int) (nm nt : ByteArray) (ad : Option Addr) (ln cp : Nat) (l : List UInt8) (S : DG) (b : Nat) (Fp Gp : Nat → Prop) (h : Pair2 w p q S Fp Gp) (hi : OpIn w ⟨kind, nm, nt, nn, ad, ln, cp⟩ l Fp Gp) (hg : Good S b) (_hb : b ≤ 1000000000) (hk : (IntKind.u64.wrap kind).tmod 9 = 7) :
    Calls Tryd.prog 11 #[.agg #[.pointer (some ⟨p, 0, none⟩), .pointer (some ⟨q, 0, none⟩)], .agg #[.int .i64 kind, .string nm, .string nt, .int .i64 nn, .slice ad ln cp]] w fun e w' => e = .returned (.bool true) ∧ DoOut w w' p q (b + 4194305) Fp Gp := by
  have H0 : Hid (DoI w p q ⟨kind, nm, nt, nn, ad, ln, cp⟩ l Fp Gp ((w.alloc (.cells #[.pointer (some ⟨p, 0, none⟩), .pointer (some ⟨q, 0, none⟩)] 29)).alloc (.cells #[.int .i64 kind, .string nm, .string nt, .int .i64 nn, .slice ad ln cp] 34)) S S) := ⟨_, _, DoP.start h hi⟩
  have HG : Hid (Good S (b + 4194305)) := hg.more (by omega)
  have HI : Hid (nm.size ≤ maxLen ∧ nt.size ≤ maxLen ∧ -9223372036854775808 ≤ nn ∧ nn ≤ 9223372036854775807) := ⟨hi.name, hi.tsz, hi.n⟩
  obtain ⟨c0, c1, c2, c3, c4, c5, c6⟩ := H0.out.cells
  clear h hi hg
  go_enter Tryd.func11, Tryd.ntmps11
  go_wp2_with (go_at_call 18; go_loud (refine (H0.out.file HG.out nm HI.out.1).mono ?_; rintro e w2 ⟨_, rfl, rfl, h2⟩; have H2 : Hid (DoI w p q ⟨kind, nm, nt, nn, ad, ln, cp⟩ l Fp Gp w2 S S) := h2; clear h2))
  exact bodyPost_ret (v := .bool true) (by simp [results, Tryd.results11, go_sem]) rfl ⟨rfl, H2.out.out HG.out⟩

end Go.Proofs.YtcbmofapnjdmgaaDoor
