import Derived.Test.YtcbmofapnjdmgaaDoorDD38
import Derived.Test.YtcbmofapnjdmgaaDoorDD35
import Derived.Test.YtcbmofapnjdmgaaDoorDD36
import Derived.Test.YtcbmofapnjdmgaaDoorDD37
import Derived.Test.YtcbmofapnjdmgaaDoorDD28
/- Two pairs of disks, as the law holds them: what stands of them while one of them is worked at. -/
namespace Go.Proofs.YtcbmofapnjdmgaaDoor
open Go.RowKit Go.Maps

theorem nine (x : Int) (h0 : 0 ≤ x) : x.tmod 9 = 0 ∨ x.tmod 9 = 1 ∨ x.tmod 9 = 2 ∨ x.tmod 9 = 3 ∨ x.tmod 9 = 4 ∨ x.tmod 9 = 5 ∨ x.tmod 9 = 6 ∨ x.tmod 9 = 7 ∨ x.tmod 9 = 8 := by
  rw [Int.tmod_eq_emod_of_nonneg h0]
  omega

theorem wdoes_any (w : World) (p q : Nat) (kind nn : Int) (nm nt : ByteArray) (ad : Option Addr) (ln cp : Nat) (l : List UInt8) (S : DG) (b : Nat) (Fp Gp : Nat → Prop) (h : Pair2 w p q S Fp Gp) (hi : OpIn w ⟨kind, nm, nt, nn, ad, ln, cp⟩ l Fp Gp) (hg : Good S b) (hb : b ≤ 1000000000) (hk : ¬ (IntKind.u64.wrap kind).tmod 9 = 6)
    (htab : ∀ W, Turn (fun k => Fp k ∨ Gp k) w W → Lib.TabIs Tryd.prog W "internal/strconv.uint64pow10" .u64 Lib.pow10Tab) :
    Calls Tryd.prog 11 #[.agg #[.pointer (some ⟨p, 0, none⟩), .pointer (some ⟨q, 0, none⟩)], .agg #[.int .i64 kind, .string nm, .string nt, .int .i64 nn, .slice ad ln cp]] w fun e w' => e = .returned (.bool true) ∧ DoOut w w' p q (b + 4194305) Fp Gp := by
  have h0 : 0 ≤ IntKind.u64.wrap kind := by
    have : IntKind.u64.wrap kind = kind % 18446744073709551616 := rfl
    rw [this]
    omega
  rcases nine _ h0 with e | e | e | e | e | e | e | e | e
  · exact wdoes_append w p q kind nn nm nt ad ln cp l S b Fp Gp h hi hg hb e
  · exact wdoes_trunc w p q kind nn nm nt ad ln cp l S b Fp Gp h hi hg hb e
  · exact wdoes_renam w p q kind nn nm nt ad ln cp l S b Fp Gp h hi hg hb e
  · exact wdoes_remov w p q kind nn nm nt ad ln cp l S b Fp Gp h hi hg hb e
  · exact wdoes_cut w p q kind nn nm nt ad ln cp l S b Fp Gp h hi hg hb e
  · exact wdoes_mend w p q kind nn nm nt ad ln cp l S b Fp Gp h hi hg hb e
  · exact absurd e hk
  · exact wdoes_read w p q kind nn nm nt ad ln cp l S b Fp Gp h hi hg hb e
  · exact wdoes_many w p q kind nn nm nt ad ln cp l S b Fp Gp h hi hg hb e htab

/-- one of the two pairs -/
structure Sd (w wr : World) (sa : Option Addr) (B p q : Nat) (S : DG) (F G : Nat → Prop) (b : Nat) : Prop where
  pr : Pair2 wr p q S F G
  good : Good S b
  lo : ∀ k, (F k ∨ G k) → w.heap.size ≤ k ∧ k ≠ B ∧ (∀ x, sa = some x → x.block ≠ k)
/-- what else stands -/
structure Env (w wr : World) (sa : Option Addr) (sops : List GOp) (B : Nat) : Prop where
  seen : Seen wr sa sops
  below : Below w.heap.size w wr
  b : w.heap.size ≤ B ∧ B < wr.heap.size
  sab : ∀ x, sa = some x → x.block < wr.heap.size ∧ x.block ≠ B ∧ w.heap.size ≤ x.block
/-- the array of the two -/
def Cl (wr : World) (B p0 q0 p1 q1 : Nat) : Prop := wr.cell? ⟨B, 0, none⟩ = some (.pointer (some ⟨p0, 0, none⟩)) ∧ wr.cell? ⟨B, 1, none⟩ = some (.pointer (some ⟨q0, 0, none⟩)) ∧ wr.cell? ⟨B, 2, none⟩ = some (.pointer (some ⟨p1, 0, none⟩)) ∧ wr.cell? ⟨B, 3, none⟩ = some (.pointer (some ⟨q1, 0, none⟩)) ∧ ∀ j, wr.frozen? ⟨B, j, none⟩ = false

structure Two3 (w wr : World) (sa : Option Addr) (sops : List GOp) (B p0 q0 p1 q1 : Nat) (S0 S1 : DG) (F0 G0 F1 G1 : Nat → Prop) (b : Nat) : Prop where
  env : Env w wr sa sops B
  cl : Cl wr B p0 q0 p1 q1
  x : Sd w wr sa B p0 q0 S0 F0 G0 b
  y : Sd w wr sa B p1 q1 S1 F1 G1 b
  dis : ∀ k, (F0 k ∨ G0 k) → ¬ (F1 k ∨ G1 k)

theorem IsRef.kept {w w' : World} {p : Nat} {S : DG} {Gp : Nat → Prop} (h : IsRef w p S Gp) (hB : Below w.heap.size w w') : IsRef w' p S Gp := by
  obtain ⟨fs, is, left, hR, hM⟩ := h
  exact ⟨fs, is, left, hR.below hB, hM⟩
theorem Sd.below {w wr W : World} {sa : Option Addr} {B p q : Nat} {S : DG} {F G : Nat → Prop} {b : Nat} (h : Sd w wr sa B p q S F G b) (hB : Below wr.heap.size wr W) : Sd w W sa B p q S F G b := ⟨h.pr.below hB, h.good, h.lo⟩
theorem Sd.more {w wr : World} {sa : Option Addr} {B p q : Nat} {S : DG} {F G : Nat → Prop} {b c : Nat} (h : Sd w wr sa B p q S F G b) (hbc : b ≤ c) : Sd w wr sa B p q S F G c := ⟨h.pr, h.good.more hbc, h.lo⟩
theorem Sd.turn {w wr W : World} {sa : Option Addr} {B p q : Nat} {S : DG} {F G X : Nat → Prop} {b : Nat} (h : Sd w wr sa B p q S F G b) (hT : Turn X wr W) (hX : ∀ k, (F k ∨ G k) → ¬ X k) : Sd w W sa B p q S F G b :=
  ⟨⟨h.pr.d.turn hT (fun k hk => hX k (.inl hk)), h.pr.r.turn hT (fun k hk => hX k (.inr hk)), h.pr.dis⟩, h.good, h.lo⟩
theorem Env.turn {w wr W : World} {sa : Option Addr} {sops : List GOp} {B : Nat} {X : Nat → Prop} (h : Env w wr sa sops B) (hT : Turn X wr W) (hX : ∀ k, X k → w.heap.size ≤ k ∧ (∀ x, sa = some x → x.block ≠ k)) : Env w W sa sops B :=
  ⟨h.seen.turn hT (fun x hx hk => (hX _ hk).2 x hx rfl), h.below.trans (hT.below h.below.size (fun k hk => (hX k hk).1)), ⟨h.b.1, Nat.lt_of_lt_of_le h.b.2 hT.size⟩, fun x hx => ⟨Nat.lt_of_lt_of_le (h.sab x hx).1 hT.size, (h.sab x hx).2⟩⟩
theorem Cl.turn {wr W : World} {B p0 q0 p1 q1 : Nat} {X : Nat → Prop} (h : Cl wr B p0 q0 p1 q1) (hT : Turn X wr W) (hX : ¬ X B) (hb : B < wr.heap.size) : Cl W B p0 q0 p1 q1 :=
  ⟨hT.cell h.1 hX, hT.cell h.2.1 hX, hT.cell h.2.2.1 hX, hT.cell h.2.2.2.1 hX, fun j => by rw [hT.frozen hb hX]; exact h.2.2.2.2 j⟩
theorem Two3.turn {w wr W : World} {sa : Option Addr} {sops : List GOp} {B p0 q0 p1 q1 : Nat} {S0 S1 : DG} {F0 G0 F1 G1 : Nat → Prop} {b : Nat} (h : Two3 w wr sa sops B p0 q0 p1 q1 S0 S1 F0 G0 F1 G1 b) (hB : Below wr.heap.size wr W) : Two3 w W sa sops B p0 q0 p1 q1 S0 S1 F0 G0 F1 G1 b :=
  ⟨h.env.turn (Turn.of_below (fun _ => False) hB) (fun _ hk => hk.elim), h.cl.turn (Turn.of_below (fun _ => False) hB) id h.env.b.2, h.x.below hB, h.y.below hB, h.dis⟩
theorem Two3.more {w wr : World} {sa : Option Addr} {sops : List GOp} {B p0 q0 p1 q1 : Nat} {S0 S1 : DG} {F0 G0 F1 G1 : Nat → Prop} {b c : Nat} (h : Two3 w wr sa sops B p0 q0 p1 q1 S0 S1 F0 G0 F1 G1 b) (hbc : b ≤ c) : Two3 w wr sa sops B p0 q0 p1 q1 S0 S1 F0 G0 F1 G1 c := ⟨h.env, h.cl, h.x.more hbc, h.y.more hbc, h.dis⟩

/-- .. whatever they hold -/
def Two4 (w wr : World) (sa : Option Addr) (sops : List GOp) (B b : Nat) : Prop := ∃ p0 q0 p1 q1 S0 S1 F0 G0 F1 G1, Two3 w wr sa sops B p0 q0 p1 q1 S0 S1 F0 G0 F1 G1 b
theorem Two3.four {w wr : World} {sa : Option Addr} {sops : List GOp} {B p0 q0 p1 q1 : Nat} {S0 S1 : DG} {F0 G0 F1 G1 : Nat → Prop} {b : Nat} (h : Two3 w wr sa sops B p0 q0 p1 q1 S0 S1 F0 G0 F1 G1 b) : Two4 w wr sa sops B b := ⟨_, _, _, _, _, _, _, _, _, _, h⟩

/-- a step was done to one of them -/
theorem side_does {w wr W : World} {sa : Option Addr} {sops : List GOp} {B p q p' q' : Nat} {S S' : DG} {F G F' G' : Nat → Prop} {b c : Nat} (he : Env w wr sa sops B) (h : Sd w wr sa B p q S F G b) (h' : Sd w wr sa B p' q' S' F' G' b) (dis : ∀ k, (F k ∨ G k) → ¬ (F' k ∨ G' k)) (ho : DoOut wr W p q c F G) (hbc : b ≤ c) :
    ∃ T F2 G2, Env w W sa sops B ∧ Sd w W sa B p q T F2 G2 c ∧ Sd w W sa B p' q' S' F' G' c ∧ (∀ k, (F2 k ∨ G2 k) → ¬ (F' k ∨ G' k)) ∧ ∀ p0 q0 p1 q1, Cl wr B p0 q0 p1 q1 → Cl W B p0 q0 p1 q1 := by
  obtain ⟨T, F2, G2, hT, hP, hTu, hs⟩ := ho
  have hlt' : ∀ k, (F' k ∨ G' k) → k < wr.heap.size := fun k hk => hk.elim (h'.pr.d.lt k) (h'.pr.r.lt k)
  refine ⟨T, F2, G2, he.turn hTu (fun k hk => ⟨(h.lo k hk).1, (h.lo k hk).2.2⟩), ⟨hP, hT, fun k hk => ?_⟩, (h'.turn hTu (fun k hk hx => dis k hx hk)).more hbc, fun k hk hk' => ?_, fun p0 q0 p1 q1 hc => hc.turn hTu (fun hx => (h.lo B hx).2.1 rfl) he.b.2⟩
  · rcases hs k hk with h1 | h1 | h1
    · exact h.lo k (.inl h1)
    · exact h.lo k (.inr h1)
    · have := he.b; have := he.below.size
      exact ⟨by omega, by omega, fun x hx e => by have := (he.sab x hx).1; omega⟩
  · rcases hs k hk with h1 | h1 | h1
    · exact dis k (.inl h1) hk'
    · exact dis k (.inr h1) hk'
    · have := hlt' k hk'; omega
theorem Two3.doesX {w wr W : World} {sa : Option Addr} {sops : List GOp} {B p0 q0 p1 q1 : Nat} {S0 S1 : DG} {F0 G0 F1 G1 : Nat → Prop} {b c : Nat} (h : Two3 w wr sa sops B p0 q0 p1 q1 S0 S1 F0 G0 F1 G1 b) (ho : DoOut wr W p0 q0 c F0 G0) (hbc : b ≤ c) : Two4 w W sa sops B c := by
  obtain ⟨T, F2, G2, h1, h2, h3, h4, h5⟩ := side_does h.env h.x h.y h.dis ho hbc
  exact ⟨_, _, _, _, _, _, _, _, _, _, h1, h5 _ _ _ _ h.cl, h2, h3, h4⟩
theorem Two3.doesY {w wr W : World} {sa : Option Addr} {sops : List GOp} {B p0 q0 p1 q1 : Nat} {S0 S1 : DG} {F0 G0 F1 G1 : Nat → Prop} {b c : Nat} (h : Two3 w wr sa sops B p0 q0 p1 q1 S0 S1 F0 G0 F1 G1 b) (ho : DoOut wr W p1 q1 c F1 G1) (hbc : b ≤ c) : Two4 w W sa sops B c := by
  obtain ⟨T, F2, G2, h1, h2, h3, h4, h5⟩ := side_does h.env h.y h.x (fun k hk hk' => h.dis k hk' hk) ho hbc
  exact ⟨_, _, _, _, _, _, _, _, _, _, h1, h5 _ _ _ _ h.cl, h3, h2, fun k hk hk' => h4 k hk' hk⟩

/-- a pair copied, in new blocks -/
structure Cp (w wr W : World) (sa : Option Addr) (B p q : Nat) (S : DG) (b : Nat) : Prop where
  below : Below wr.heap.size wr W
  sd : ∃ F G, Sd w W sa B p q S F G b ∧ ∀ k, (F k ∨ G k) → wr.heap.size ≤ k
theorem Cp.mk2 {w wr W1 W2 : World} {sa : Option Addr} {sops : List GOp} {B p q : Nat} {S : DG} {b : Nat} (he : Env w wr sa sops B) (hg : Good S b) (hB1 : Below wr.heap.size wr W1) (hd : IsDisk W1 p S.copy (grow (fun _ => False) wr W1)) (hB2 : Below W1.heap.size W1 W2) (hr : IsRef W2 q S.copy (grow (fun _ => False) W1 W2)) : Cp w wr W2 sa B p q S.copy b := by
  have h1 := hB1.size
  have hlo : ∀ k, wr.heap.size ≤ k → w.heap.size ≤ k ∧ k ≠ B ∧ (∀ x, sa = some x → x.block ≠ k) := fun k hk => by
    have := he.b; have := he.below.size
    exact ⟨by omega, by omega, fun x hx e => by have := (he.sab x hx).1; omega⟩
  refine ⟨hB1.trans (hB2.mono h1), _, _, ⟨⟨hd.below hB2, hr, fun k hk hk' => ?_⟩, hg.copy, fun k hk => ?_⟩, fun k hk => ?_⟩
  · rcases hk with hk | hk
    · exact hk
    · rcases hk' with hk' | hk'
      · exact hk'
      · omega
  · rcases hk with (hk | hk) | (hk | hk)
    · exact hk.elim
    · exact hlo k hk.1
    · exact hk.elim
    · exact hlo k (by omega)
  · rcases hk with (hk | hk) | (hk | hk)
    · exact hk.elim
    · exact hk.1
    · exact hk.elim
    · omega
/-- cells of the array are written: all else stays -/
theorem setB {w wr : World} {sa : Option Addr} {sops : List GOp} {B : Nat} (he : Env w wr sa sops B) (i j : Nat) (u v : Value) : Env w ((wr.setCell ⟨B, i, none⟩ u).setCell ⟨B, j, none⟩ v) sa sops B ∧ Turn (fun k => k = B) wr ((wr.setCell ⟨B, i, none⟩ u).setCell ⟨B, j, none⟩ v) := by
  have hT : Turn (fun k => k = B) wr ((wr.setCell ⟨B, i, none⟩ u).setCell ⟨B, j, none⟩ v) := (turn_setCell wr B i u).trans (turn_setCell _ B j v) (fun _ _ h => h)
  exact ⟨he.turn hT (fun k hk => by subst hk; exact ⟨he.b.1, fun x hx => (he.sab x hx).2.1⟩), hT⟩
theorem Two3.copyX {w wr W : World} {sa : Option Addr} {sops : List GOp} {B p0 q0 p1 q1 p q : Nat} {S0 S1 T : DG} {F0 G0 F1 G1 : Nat → Prop} {b : Nat} (h : Two3 w wr sa sops B p0 q0 p1 q1 S0 S1 F0 G0 F1 G1 b) (hc : Cp w wr W sa B p q T b) :
    ∃ F G, Two3 w ((W.setCell ⟨B, 2, none⟩ (.pointer (some ⟨p, 0, none⟩))).setCell ⟨B, 3, none⟩ (.pointer (some ⟨q, 0, none⟩))) sa sops B p0 q0 p q S0 T F0 G0 F G b := by
  have h1 := h.turn hc.below
  obtain ⟨F, G, h2, h3⟩ := hc.sd
  obtain ⟨h4, h5⟩ := setB h1.env 2 3 (.pointer (some ⟨p, 0, none⟩)) (.pointer (some ⟨q, 0, none⟩))
  obtain ⟨c0, c1, c2, c3, cf⟩ := h1.cl
  have e : ∀ (i j : Nat) (W : World) (u v : Value), i ≠ j → W.cell? ⟨B, i, none⟩ = some u → (W.setCell ⟨B, j, none⟩ v).cell? ⟨B, i, none⟩ = some u := fun i j W u v hij hu => by
    rw [World.cell?_setCell_other _ _ _ _ (by intro e; cases e; exact hij rfl)]; exact hu
  refine ⟨F, G, h4, ⟨e 0 3 _ _ _ (by decide) (e 0 2 _ _ _ (by decide) c0), e 1 3 _ _ _ (by decide) (e 1 2 _ _ _ (by decide) c1), e 2 3 _ _ _ (by decide) (World.cell?_setCell_same _ _ _ c2), World.cell?_setCell_same _ _ _ (e 3 2 _ _ _ (by decide) c3), fun j => by rw [World.frozen?_setCell, World.frozen?_setCell]; exact cf j⟩,
    h1.x.turn h5 (fun k hk => (h1.x.lo k hk).2.1), h2.turn h5 (fun k hk => (h2.lo k hk).2.1), fun k hk hk' => ?_⟩
  have := h3 k hk'
  have := hk.elim (h.x.pr.d.lt k) (h.x.pr.r.lt k)
  omega
theorem Two3.copyY {w wr W : World} {sa : Option Addr} {sops : List GOp} {B p0 q0 p1 q1 p q : Nat} {S0 S1 T : DG} {F0 G0 F1 G1 : Nat → Prop} {b : Nat} (h : Two3 w wr sa sops B p0 q0 p1 q1 S0 S1 F0 G0 F1 G1 b) (hc : Cp w wr W sa B p q T b) :
    ∃ F G, Two3 w ((W.setCell ⟨B, 0, none⟩ (.pointer (some ⟨p, 0, none⟩))).setCell ⟨B, 1, none⟩ (.pointer (some ⟨q, 0, none⟩))) sa sops B p q p1 q1 T S1 F G F1 G1 b := by
  have h1 := h.turn hc.below
  obtain ⟨F, G, h2, h3⟩ := hc.sd
  obtain ⟨h4, h5⟩ := setB h1.env 0 1 (.pointer (some ⟨p, 0, none⟩)) (.pointer (some ⟨q, 0, none⟩))
  obtain ⟨c0, c1, c2, c3, cf⟩ := h1.cl
  have e : ∀ (i j : Nat) (W : World) (u v : Value), i ≠ j → W.cell? ⟨B, i, none⟩ = some u → (W.setCell ⟨B, j, none⟩ v).cell? ⟨B, i, none⟩ = some u := fun i j W u v hij hu => by
    rw [World.cell?_setCell_other _ _ _ _ (by intro e; cases e; exact hij rfl)]; exact hu
  refine ⟨F, G, h4, ⟨e 0 1 _ _ _ (by decide) (World.cell?_setCell_same _ _ _ c0), World.cell?_setCell_same _ _ _ (e 1 0 _ _ _ (by decide) c1), e 2 1 _ _ _ (by decide) (e 2 0 _ _ _ (by decide) c2), e 3 1 _ _ _ (by decide) (e 3 0 _ _ _ (by decide) c3), fun j => by rw [World.frozen?_setCell, World.frozen?_setCell]; exact cf j⟩,
    h2.turn h5 (fun k hk => (h2.lo k hk).2.1), h1.y.turn h5 (fun k hk => (h1.y.lo k hk).2.1), fun k hk hk' => ?_⟩
  have := h3 k hk
  have := hk'.elim (h.y.pr.d.lt k) (h.y.pr.r.lt k)
  omega

end Go.Proofs.YtcbmofapnjdmgaaDoor
