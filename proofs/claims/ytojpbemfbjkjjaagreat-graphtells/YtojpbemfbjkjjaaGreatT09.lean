import Derived.Test.YtojpbemfbjkjjaaGreatT03
import Derived.Test.YtojpbemfbjkjjaaGreatT08
/- An entry, as it is read. -/
namespace Go.Proofs.YtojpbemfbjkjjaaGreat
open Go.RowKit

attribute [local go_sem] Oper.semAt_some

/-- one entry, as it is read -/
def entR (l : List UInt8) (p : Nat) (e : Int) : Option Ent × Nat × Int :=
  let t := textR l p e 32
  let b := byteR l t.2.1 t.2.2
  let x := wordR l b.2.1 b.2.2
  (if x.2.2 ≠ 0 ∨ 1 < b.1 then none else some (t.1, b.1 == 1, x.1), x.2.1, x.2.2)
def entV : Option Ent → Value
  | none => .agg #[.string ⟨#[]⟩, .bool false, .int .u64 0]
  | some x => .agg #[.string x.1, .bool x.2.1, .int .u64 x.2.2]
theorem Box3.all {W : World} {g : Nat} {v0 v1 v2 : Value} (h : Box3 W g v0 v1 v2) (u0 u1 u2 : Value) : Box3 (((W.setCell ⟨g, 0, none⟩ u0).setCell ⟨g, 1, none⟩ u1).setCell ⟨g, 2, none⟩ u2) g u0 u1 u2 := by
  have h' : W.heap[g]? = _ := h
  have hl := h.lt
  unfold Box3
  simp [World.setCell, Array.getElem?_modify, h']
theorem Box3.frozen {W : World} {g : Nat} {u0 u1 u2 : Value} (h : Box3 W g u0 u1 u2) : W.frozen? ⟨g, 0, none⟩ = false ∧ W.frozen? ⟨g, 1, none⟩ = false ∧ W.frozen? ⟨g, 2, none⟩ = false := by
  unfold Box3 at h
  simp [World.frozen?, h]
theorem Box3.grown {W W' : World} {g r : Nat} {u0 u1 u2 : Value} (h : Box3 W g u0 u1 u2) (hg : W.grownBy W' (some r)) (hr : g ≠ r) : Box3 W' g u0 u1 u2 := (hg.block g h.lt (fun e => hr (Option.some.inj e))).trans h

set_option maxRecDepth 20000 in
set_option maxHeartbeats 2000000 in
theorem readEntry_any (w : World) (r g p : Nat) (e : Int) (l : List UInt8) (h : Rd w r g p e l) (hr : r < w.heap.size) (hg : g < w.heap.size) :
    Calls Tryz.prog 106 #[.pointer (some ⟨r, 0, none⟩)] w fun x w' => x = .returned (.tuple #[entV (entR l p e).1, .bool (entR l p e).1.isSome]) ∧ Rd w' r g (entR l p e).2.1 (entR l p e).2.2 l ∧ w.grownBy w' (some r) := by
  have hg0 : w.grownBy (w.alloc (.cells #[.string ⟨#[]⟩, .bool false, .int .u64 0] 157)) (some r) := ⟨rfl, rfl, rfl, by simp, fun k hk _ => Below.heap_alloc _ _ _ hk⟩
  have h0 : Rd (w.alloc (.cells #[.string ⟨#[]⟩, .bool false, .int .u64 0] 157)) r g p e l := h.kept (row := none) ⟨rfl, rfl, rfl, by simp, fun k hk _ => Below.heap_alloc _ _ _ hk⟩ (by simp) (by simp)
  have b0 := Box3.new w (.string ⟨#[]⟩) (.bool false) (.int .u64 0)
  have hne : w.heap.size ≠ r := by omega
  have hbf := byteR_fits l (textR l p e 32).2.1 (textR l p e 32).2.2
  obtain ⟨t, ht⟩ : ∃ t, t = textR l p e 32 := ⟨_, rfl⟩
  rw [← ht] at hbf
  obtain ⟨b, hb⟩ : ∃ b, b = byteR l t.2.1 t.2.2 := ⟨_, rfl⟩
  rw [← hb] at hbf
  obtain ⟨x, hx⟩ : ∃ x, x = wordR l b.2.1 b.2.2 := ⟨_, rfl⟩
  have hE : entR l p e = (if x.2.2 ≠ 0 ∨ 1 < b.1 then none else some (t.1, b.1 == 1, x.1), x.2.1, x.2.2) := by rw [hx, hb, ht]; rfl
  rw [hE]
  have HT : Hid (∀ W, Rd W r g p e l → Calls Tryz.prog 63 #[.pointer (some ⟨r, 0, none⟩), .int .i64 32] W fun y w' => y = .returned (.string t.1) ∧ Rd w' r g t.2.1 t.2.2 l ∧ W.grownBy w' (some r)) := fun W hW => by rw [ht]; exact text_st W r g p e 32 l hW (by omega)
  have HBy : Hid (∀ W, Rd W r g t.2.1 t.2.2 l → Calls Tryz.prog 88 #[.pointer (some ⟨r, 0, none⟩)] W fun y w' => y = .returned (.int .u8 b.1) ∧ Rd w' r g b.2.1 b.2.2 l ∧ W.grownBy w' (some r)) := fun W hW => by rw [hb]; exact byte_st W r g _ _ l hW
  have HW : Hid (∀ W, Rd W r g b.2.1 b.2.2 l → Calls Tryz.prog 64 #[.pointer (some ⟨r, 0, none⟩)] W fun y w' => y = .returned (.int .u64 x.1) ∧ Rd w' r g x.2.1 x.2.2 l ∧ W.grownBy w' (some r)) := fun W hW => by rw [hx]; exact word_st W r g _ _ l hW
  clear ht hb hx hE
  obtain ⟨t1, tp, te⟩ := t
  obtain ⟨bv, bp, be⟩ := b
  obtain ⟨xv, xp, xe⟩ := x
  simp only at HT HBy HW hbf ⊢
  have key : ∀ ok : Bool, ok = (!(decide (xe ≠ 0 ∨ 1 < bv))) → Calls Tryz.prog 106 #[.pointer (some ⟨r, 0, none⟩)] w fun x w' => x = .returned (.tuple #[if ok = true then .agg #[.string t1, .bool (bv == 1), .int .u64 xv] else .agg #[.string ⟨#[]⟩, .bool false, .int .u64 0], .bool ok]) ∧ Rd w' r g xp xe l ∧ w.grownBy w' (some r) := by
    intro ok hok
    have H0 : Hid (Rd (w.alloc (.cells #[.string ⟨#[]⟩, .bool false, .int .u64 0] 157)) r g p e l) := h0
    have HG0 : Hid (w.grownBy (w.alloc (.cells #[.string ⟨#[]⟩, .bool false, .int .u64 0] 157)) (some r)) := hg0
    have HK : Hid (∀ W, Rd W r g xp xe l → w.grownBy W (some r) → ∀ u0 u1 u2, Rd (((W.setCell ⟨w.heap.size, 0, none⟩ u0).setCell ⟨w.heap.size, 1, none⟩ u1).setCell ⟨w.heap.size, 2, none⟩ u2) r g xp xe l ∧ w.grownBy (((W.setCell ⟨w.heap.size, 0, none⟩ u0).setCell ⟨w.heap.size, 1, none⟩ u1).setCell ⟨w.heap.size, 2, none⟩ u2) (some r)) := fun W hR hG u0 u1 u2 => by
      have s1 : W.grownBy (((W.setCell ⟨w.heap.size, 0, none⟩ u0).setCell ⟨w.heap.size, 1, none⟩ u1).setCell ⟨w.heap.size, 2, none⟩ u2) (some w.heap.size) := grownBy_trans (grownBy_trans (grownBy_setCell _ _ _ _) (grownBy_setCell _ _ _ _)) (grownBy_setCell _ _ _ _)
      refine ⟨hR.kept s1 (by simp; omega) (by simp; omega), ⟨s1.os.trans hG.os, s1.tape.trans hG.tape, s1.output.trans hG.output, Nat.le_trans hG.size s1.size, fun k hk hn => ?_⟩⟩
      exact (s1.block k (Nat.lt_of_lt_of_le hk hG.size) (by simp; omega)).trans (hG.block k hk hn)
    clear h0 hg0 h
    by_cases hxe : xe = 0
    · subst hxe
      by_cases hbv : 1 < bv
      · have e0 : ok = false := by rw [hok]; simp [hbv]
        subst e0
        have i1 : decide ((1 : Int) < bv) = true := decide_eq_true hbv
        clear hok
        go_enter Tryz.func106, Tryz.ntmps106
        go_wp2_with first
          | (go_at_call 63; refine (HT.out _ H0.out).mono ?_; clear HT H0; rintro y w1 ⟨rfl, hR1, hG1⟩; have R1 : Hid (Rd w1 r g tp te l) := hR1; have G1 : Hid (w.grownBy w1 (some r)) := grownBy_trans HG0.out hG1; have b1 := b0.grown hG1 hne; clear hR1 hG1)
          | (go_at_call 88; refine (HBy.out _ R1.out).mono ?_; clear HBy R1; rintro y w2 ⟨rfl, hR2, hG2⟩; have R2 : Hid (Rd w2 r g bp be l) := hR2; have G2 : Hid (w.grownBy w2 (some r)) := grownBy_trans G1.out hG2; have b2 := b1.grown hG2 hne; clear hR2 hG2)
          | (go_at_call 64; refine (HW.out _ R2.out).mono ?_; clear HW R2; rintro y w3 ⟨rfl, hR3, hG3⟩; have R3 : Hid (Rd w3 r g xp 0 l) := hR3; have G3 : Hid (w.grownBy w3 (some r)) := grownBy_trans G2.out hG3; have b3 := b2.grown hG3 hne; obtain ⟨c0, c1, c2⟩ := b3.cell; obtain ⟨f0, f1, f2⟩ := b3.frozen; have re := hR3.c1; clear hR3 hG3)
          | (go_at_call 65; refine (err_any _ r 0 re).mono ?_; rintro y w4 ⟨rfl, hw4⟩; subst hw4)
        obtain ⟨d0, d1, d2⟩ := (b3.all (.string ⟨#[]⟩) (.bool false) (.int .u64 0)).cell
        obtain ⟨hRR, hGG⟩ := HK.out _ R3.out G3.out (.string ⟨#[]⟩) (.bool false) (.int .u64 0)
        refine bodyPost_ret (v := .tuple #[.agg #[.string ⟨#[]⟩, .bool false, .int .u64 0], .bool false]) (by simp [results, Tryz.results106, go_sem, d0, d1, d2]) rfl ⟨rfl, hRR, hGG⟩
      · have e0 : ok = true := by rw [hok]; simp [hbv]
        subst e0
        have i1 : decide ((1 : Int) < bv) = false := decide_eq_false hbv
        clear hok
        go_enter Tryz.func106, Tryz.ntmps106
        go_wp2_with first
          | (go_at_call 63; refine (HT.out _ H0.out).mono ?_; clear HT H0; rintro y w1 ⟨rfl, hR1, hG1⟩; have R1 : Hid (Rd w1 r g tp te l) := hR1; have G1 : Hid (w.grownBy w1 (some r)) := grownBy_trans HG0.out hG1; have b1 := b0.grown hG1 hne; clear hR1 hG1)
          | (go_at_call 88; refine (HBy.out _ R1.out).mono ?_; clear HBy R1; rintro y w2 ⟨rfl, hR2, hG2⟩; have R2 : Hid (Rd w2 r g bp be l) := hR2; have G2 : Hid (w.grownBy w2 (some r)) := grownBy_trans G1.out hG2; have b2 := b1.grown hG2 hne; clear hR2 hG2)
          | (go_at_call 64; refine (HW.out _ R2.out).mono ?_; clear HW R2; rintro y w3 ⟨rfl, hR3, hG3⟩; have R3 : Hid (Rd w3 r g xp 0 l) := hR3; have G3 : Hid (w.grownBy w3 (some r)) := grownBy_trans G2.out hG3; have b3 := b2.grown hG3 hne; obtain ⟨c0, c1, c2⟩ := b3.cell; obtain ⟨f0, f1, f2⟩ := b3.frozen; have re := hR3.c1; clear hR3 hG3)
          | (go_at_call 65; refine (err_any _ r 0 re).mono ?_; rintro y w4 ⟨rfl, hw4⟩; subst hw4)
        obtain ⟨d0, d1, d2⟩ := (b3.all (.string t1) (.bool (bv == 1)) (.int .u64 xv)).cell
        obtain ⟨hRR, hGG⟩ := HK.out _ R3.out G3.out (.string t1) (.bool (bv == 1)) (.int .u64 xv)
        refine bodyPost_ret (v := .tuple #[.agg #[.string t1, .bool (bv == 1), .int .u64 xv], .bool true]) (by simp [results, Tryz.results106, go_sem, d0, d1, d2]) rfl ⟨rfl, hRR, hGG⟩
    · have e0 : ok = false := by rw [hok]; simp [hxe]
      subst e0
      have i1 : (xe != 0) = true := by simp [hxe]
      have i2 : (xe == 0) = false := by simp [hxe]
      clear hok
      go_enter Tryz.func106, Tryz.ntmps106
      go_wp2_with first
        | (go_at_call 63; refine (HT.out _ H0.out).mono ?_; clear HT H0; rintro y w1 ⟨rfl, hR1, hG1⟩; have R1 : Hid (Rd w1 r g tp te l) := hR1; have G1 : Hid (w.grownBy w1 (some r)) := grownBy_trans HG0.out hG1; have b1 := b0.grown hG1 hne; clear hR1 hG1)
        | (go_at_call 88; refine (HBy.out _ R1.out).mono ?_; clear HBy R1; rintro y w2 ⟨rfl, hR2, hG2⟩; have R2 : Hid (Rd w2 r g bp be l) := hR2; have G2 : Hid (w.grownBy w2 (some r)) := grownBy_trans G1.out hG2; have b2 := b1.grown hG2 hne; clear hR2 hG2)
        | (go_at_call 64; refine (HW.out _ R2.out).mono ?_; clear HW R2; rintro y w3 ⟨rfl, hR3, hG3⟩; have R3 : Hid (Rd w3 r g xp xe l) := hR3; have G3 : Hid (w.grownBy w3 (some r)) := grownBy_trans G2.out hG3; have b3 := b2.grown hG3 hne; obtain ⟨c0, c1, c2⟩ := b3.cell; obtain ⟨f0, f1, f2⟩ := b3.frozen; have re := hR3.c1; clear hR3 hG3)
        | (go_at_call 65; refine (err_any _ r xe re).mono ?_; rintro y w4 ⟨rfl, hw4⟩; subst hw4)
      obtain ⟨d0, d1, d2⟩ := (b3.all (.string ⟨#[]⟩) (.bool false) (.int .u64 0)).cell
      obtain ⟨hRR, hGG⟩ := HK.out _ R3.out G3.out (.string ⟨#[]⟩) (.bool false) (.int .u64 0)
      refine bodyPost_ret (v := .tuple #[.agg #[.string ⟨#[]⟩, .bool false, .int .u64 0], .bool false]) (by simp [results, Tryz.results106, go_sem, d0, d1, d2]) rfl ⟨rfl, hRR, hGG⟩
  refine (key _ rfl).mono fun y w' hy => ⟨?_, hy.2⟩
  rw [hy.1]
  by_cases hq : xe ≠ 0 ∨ 1 < bv
  · rw [if_pos hq, decide_eq_true hq]; rfl
  · rw [if_neg hq, decide_eq_false hq]; rfl
end Go.Proofs.YtojpbemfbjkjjaaGreat

/- A tree, as it is read. -/
namespace Go.Proofs.YtojpbemfbjkjjaaGreat
open Go.RowKit

attribute [local go_sem] Oper.semAt_some

theorem byteR_ok {l : List UInt8} {p : Nat} {e : Int} (h : (byteR l p e).2.2 = 0) : e = 0 ∧ (byteR l p e).2.1 = p + 1 ∧ p < l.length := by
  unfold byteR at h ⊢
  by_cases he : e ≠ 0
  · rw [if_pos he] at h; exact absurd h he
  · rw [if_neg he] at h ⊢
    by_cases hp : p < l.length
    · rw [if_pos hp]; exact ⟨by omega, rfl, hp⟩
    · rw [if_neg hp] at h; simp at h
theorem wordR_ok {l : List UInt8} {p : Nat} {e : Int} (h : (wordR l p e).2.2 = 0) : e = 0 ∧ (wordR l p e).2.1 = p + 8 ∧ p + 8 ≤ l.length := by
  unfold wordR at h ⊢
  by_cases he : e ≠ 0
  · rw [if_pos he] at h; exact absurd h he
  · rw [if_neg he] at h ⊢
    by_cases hp : l.length < p + 8
    · rw [if_pos hp] at h; simp at h
    · rw [if_neg hp]; exact ⟨by omega, rfl, by omega⟩
theorem textR_ok {l : List UInt8} {p : Nat} {e m : Int} (h : (textR l p e m).2.2 = 0) : e = 0 ∧ p ≤ (textR l p e m).2.1 := by
  unfold textR at h ⊢
  by_cases he : e ≠ 0
  · rw [if_pos he] at h; exact absurd h he
  · rw [if_neg he] at h ⊢
    by_cases hp : (txt (l.drop p) m).2.2 = 0
    · rw [if_pos hp]; exact ⟨by omega, by simp⟩
    · rw [if_neg hp] at h; exact absurd h hp
theorem entR_some {l : List UInt8} {p : Nat} {e : Int} {x : Ent} (h : (entR l p e).1 = some x) : e = 0 ∧ p + 9 ≤ (entR l p e).2.1 ∧ (entR l p e).2.2 = 0 := by
  unfold entR at h ⊢
  simp only at h ⊢
  by_cases hq : (wordR l (byteR l (textR l p e 32).2.1 (textR l p e 32).2.2).2.1 (byteR l (textR l p e 32).2.1 (textR l p e 32).2.2).2.2).2.2 ≠ 0 ∨ 1 < (byteR l (textR l p e 32).2.1 (textR l p e 32).2.2).1
  · rw [if_pos hq] at h; cases h
  · have h1 : (wordR l (byteR l (textR l p e 32).2.1 (textR l p e 32).2.2).2.1 (byteR l (textR l p e 32).2.1 (textR l p e 32).2.2).2.2).2.2 = 0 := by
      by_cases h1 : (wordR l (byteR l (textR l p e 32).2.1 (textR l p e 32).2.2).2.1 (byteR l (textR l p e 32).2.1 (textR l p e 32).2.2).2.2).2.2 = 0
      · exact h1
      · exact absurd (.inl h1) hq
    obtain ⟨a1, a2, _⟩ := wordR_ok h1
    obtain ⟨b1, b2, _⟩ := byteR_ok a1
    obtain ⟨c1, c2⟩ := textR_ok b1
    exact ⟨c1, by omega, h1⟩
/-- n entries, as they are read, behind those that are read -/
def entsR : Nat → List UInt8 → Nat → Int → List Ent → Option (List Ent) × Nat × Int
  | 0, _, p, e, acc => (some acc, p, e)
  | n + 1, l, p, e, acc => match (entR l p e).1 with
    | none => (none, (entR l p e).2.1, (entR l p e).2.2)
    | some x => entsR n l (entR l p e).2.1 (entR l p e).2.2 (acc ++ [x])
def treeR (l : List UInt8) (p : Nat) (e : Int) : Option (List Ent) × Nat × Int := entsR (uintR l p e).1.toNat l (uintR l p e).2.1 (uintR l p e).2.2 []
theorem ents_one (w : World) (x : Ent) : Ents (w.alloc (.cells #[.string x.1, .bool x.2.1, .int .u64 x.2.2] 157)) (some ⟨w.heap.size, 0, none⟩) 1 [x] := by
  refine ⟨rfl, fun _ => ⟨_, _, rfl, fun j y hy => ?_⟩⟩
  match j, hy with
  | 0, hy =>
    simp at hy; subst hy
    have := (Box3.new w (.string x.1) (.bool x.2.1) (.int .u64 x.2.2)).cell
    simp only [Nat.zero_mul, Nat.add_zero]
    exact this
theorem own_grown {W W' : World} {B r n : Nat} {t : TypeId} {z : Nat} {v : Value} {xs : List Value} (h : W.ownsRow B t z v n xs) (hg : W.grownBy W' (some r)) (hr : r < B) : W'.ownsRow B t z v n xs :=
  h.kept hg (.inr fun e => by
    rcases h.2 with ⟨rfl, _⟩ | ⟨g, cap, cur, rfl, hb, _⟩
    · cases e
    · have : g = r := Option.some.inj e
      omega)
theorem boxed_grown {W W' : World} {B r : Nat} {t : TypeId} {v : Value} (h : Boxed W B t v) (hg : W.grownBy W' (some r)) (hr : r ≠ B) : Boxed W' B t v := (hg.block B h.lt (fun e => hr (Option.some.inj e).symm)).trans h
/-- what stands while a tree is read -/
structure TR (w : World) (r g : Nat) (l : List UInt8) (p : Nat) (e : Int) (acc : List Ent) (ad : Option Addr) (n cp : Nat) (W : World) : Prop where
  rd : Rd W r g p e l
  gr : w.grownBy W (some r)
  box : Boxed W w.heap.size 107 (.slice ad n cp)
  row : W.ownsRow (w.heap.size + 1) 157 3 (.slice ad n cp) n (entCells acc)
  len : acc.length = n
  le : n ≤ p
  low : w.heap.size + 1 ≤ W.heap.size
theorem TR.next {w W W1 : World} {r g : Nat} {l : List UInt8} {p p' : Nat} {e e' : Int} {acc : List Ent} {ad : Option Addr} {n cp : Nat} (h : TR w r g l p e acc ad n cp W) (hr : r < w.heap.size) (hR : Rd W1 r g p' e' l) (hg : W.grownBy W1 (some r)) (hp : p ≤ p') : TR w r g l p' e' acc ad n cp W1 :=
  ⟨hR, grownBy_trans h.gr hg, boxed_grown h.box hg (by omega), own_grown h.row hg (by omega), h.len, Nat.le_trans h.le hp, Nat.le_trans h.low hg.size⟩
theorem TR.alloc {w W : World} {r g : Nat} {l : List UInt8} {p : Nat} {e : Int} {acc : List Ent} {ad : Option Addr} {n cp : Nat} (h : TR w r g l p e acc ad n cp W) (hr : r < w.heap.size) (o : Obj) : TR w r g l p e acc ad n cp (W.alloc o) := by
  have hg : W.grownBy (W.alloc o) none := ⟨rfl, rfl, rfl, by simp, fun k hk _ => Below.heap_alloc _ _ _ hk⟩
  exact h.next hr (h.rd.kept hg (by simp) (by simp)) (grownBy_wide hg) (Nat.le_refl _)
theorem TR.boxed {w W W1 : World} {r g : Nat} {l : List UInt8} {p : Nat} {e : Int} {acc : List Ent} {ad : Option Addr} {n cp : Nat} (h : TR w r g l p e acc ad n cp W) (hg : W.grownBy W1 (Value.slice ad n cp).ownBlock) : Boxed W1 w.heap.size 107 (.slice ad n cp) :=
  (hg.block _ h.box.lt (fun e => by
    rcases h.row.2 with ⟨e', _⟩ | ⟨g', cap, cur, e', hb, _⟩
    · rw [e'] at e; cases e
    · rw [e'] at e
      have : w.heap.size = g' := Option.some.inj e
      omega)).trans h.box
theorem TR.push {w W W1 : World} {r g : Nat} {l : List UInt8} {p : Nat} {e : Int} {acc : List Ent} {ad : Option Addr} {n cp : Nat} {x : Ent} {ad' : Option Addr} {cp' : Nat} (h : TR w r g l p e acc ad n cp W) (hr : r < w.heap.size) (hgw : g < w.heap.size) (hp : n + 1 ≤ p)
    (ho : W1.ownsRow (w.heap.size + 1) 157 3 (.slice ad' (n + 1) cp') (n + 1) (entCells (acc ++ [x]))) (hg : W.grownBy W1 (Value.slice ad n cp).ownBlock) :
    TR w r g l p e (acc ++ [x]) ad' (n + 1) cp' (W1.setCell ⟨w.heap.size, 0, none⟩ (.slice ad' (n + 1) cp')) := by
  have hob : ∀ k, (Value.slice ad n cp).ownBlock = some k → w.heap.size + 1 ≤ k := fun k hk => by
    rcases h.row.2 with ⟨e, _⟩ | ⟨g', cap, cur, e, hb, _⟩
    · rw [e] at hk; cases hk
    · rw [e] at hk; cases hk; exact hb
  have hB1 : Below (w.heap.size + 1) W W1 := ⟨hg.os, hg.tape, hg.output, hg.size, fun k hk => hg.block k (by have := h.low; omega) (fun e => by have := hob k e.symm; omega)⟩
  have hS : W1.grownBy (W1.setCell ⟨w.heap.size, 0, none⟩ (.slice ad' (n + 1) cp')) (some w.heap.size) := grownBy_setCell _ _ _ _
  have hbx : Boxed W1 w.heap.size 107 (.slice ad n cp) := (hB1.block _ (by omega)).trans h.box
  have hR1 : Rd W1 r g p e l := h.rd.kept (row := (Value.slice ad n cp).ownBlock) hg (fun e => by have := hob r e; omega) (fun e => by have := hob g e; omega)
  refine ⟨hR1.kept hS (by simp; omega) (by simp; omega), ?_, ?_, ?_, by simp [h.len], by omega, ?_⟩
  · refine ⟨hS.os.trans (hg.os.trans h.gr.os), hS.tape.trans (hg.tape.trans h.gr.tape), hS.output.trans (hg.output.trans h.gr.output), Nat.le_trans h.gr.size (Nat.le_trans hg.size hS.size), fun k hk hn => ?_⟩
    rw [hS.block k (by have := h.gr.size; have := hg.size; omega) (by simp; omega), hB1.block k (by omega)]
    exact h.gr.block k hk hn
  · have h' : W1.heap[w.heap.size]? = _ := hbx
    have hl := hbx.lt
    unfold Boxed
    simp [World.setCell, Array.getElem?_modify, h']
  · exact ho.kept hS (.inr fun e => by
      rcases ho.2 with ⟨e', _⟩ | ⟨g', cap, cur, e', hb, _⟩
      · rw [e'] at e; cases e
      · rw [e'] at e
        have : g' = w.heap.size := Option.some.inj e
        omega)
  · have := h.low; have := hg.size; have := hS.size; omega

/-- what a call that reads a tree answers -/
def TreeOut (w : World) : Option (List Ent) → Ending → World → Prop
  | none, x, _ => x = .returned .nilIface
  | some ents, x, w' => ∃ ad cp, x = .returned (trV ad ents.length cp) ∧ w'.ownsRow w.heap.size 157 3 (.slice ad ents.length cp) ents.length (entCells ents)

set_option maxRecDepth 20000 in
set_option maxHeartbeats 4000000 in
theorem readTree_any (w : World) (r g p : Nat) (e : Int) (l : List UInt8) (h : Rd w r g p e l) (hr : r < w.heap.size) (hg : g < w.heap.size) (hl : l.length ≤ 549755813888) :
    Calls Tryz.prog 90 #[.pointer (some ⟨r, 0, none⟩)] w fun x w' => Rd w' r g (treeR l p e).2.1 (treeR l p e).2.2 l ∧ w.grownBy w' (some r) ∧
      TreeOut w (treeR l p e).1 x w' := by
  have h0 : Rd (w.alloc (.cells #[.slice none 0 0] 107)) r g p e l := h.kept (row := none) ⟨rfl, rfl, rfl, by simp, fun k hk _ => Below.heap_alloc _ _ _ hk⟩ (by simp) (by simp)
  have hT0 : TR w r g l p e [] none 0 0 (w.alloc (.cells #[.slice none 0 0] 107)) := ⟨h0, ⟨rfl, rfl, rfl, by simp, fun k hk _ => Below.heap_alloc _ _ _ hk⟩, Boxed.new _ _ _, World.ownsRow_nil _ _ _ _, rfl, Nat.zero_le _, by simp⟩
  have T0 : Hid (TR w r g l p e [] none 0 0 (w.alloc (.cells #[.slice none 0 0] 107))) := hT0
  obtain ⟨RES, hRES⟩ : ∃ RES, RES = treeR l p e := ⟨_, rfl⟩
  rw [← hRES]
  have huf := uintR_fits l p e
  have hup : p ≤ (uintR l p e).2.1 := by
    unfold uintR
    split
    · exact Nat.le_refl _
    · split
      · simp
      · exact Nat.le_refl _
  have HU : Hid (∀ W, Rd W r g p e l → Calls Tryz.prog 105 #[.pointer (some ⟨r, 0, none⟩)] W fun x w' => x = .returned (.int .u64 (uintR l p e).1) ∧ Rd w' r g (uintR l p e).2.1 (uintR l p e).2.2 l ∧ W.grownBy w' (some r)) := fun W hW => uint_st W r g p e l hW
  unfold treeR at hRES
  generalize uintR l p e = U at huf hup HU hRES
  obtain ⟨u, up, ue⟩ := U
  simp only at huf hup HU hRES
  obtain ⟨c, rfl⟩ := Int.eq_ofNat_of_zero_le huf.1
  have HR : Hid (RES = entsR c l up ue []) := hRES
  have HE : Hid (∀ W q f, Rd W r g q f l → r < W.heap.size → g < W.heap.size → Calls Tryz.prog 106 #[.pointer (some ⟨r, 0, none⟩)] W fun x w' => x = .returned (.tuple #[entV (entR l q f).1, .bool (entR l q f).1.isSome]) ∧ Rd w' r g (entR l q f).2.1 (entR l q f).2.2 l ∧ W.grownBy w' (some r)) := fun W q f hW a b => readEntry_any W r g q f l hW a b
  clear h0 hT0 hRES h
  go_enter Tryz.func90, Tryz.ntmps90
  go_wp2_with (go_at_call 105; refine (HU.out _ T0.out.rd).mono ?_; clear HU; rintro y w1 ⟨rfl, hR1, hG1⟩; have T1 : Hid (TR w r g l up ue [] none 0 0 w1) := T0.out.next hr hR1 hG1 hup; clear T0 hR1 hG1)
  go_loopw [4] (fun i wr => ∃ (k q : Nat) (f : Int) (acc : List Ent) (ad : Option Addr) (n cp : Nat), k ≤ 18446744073709551615 ∧ i = .int .u64 (k : Int) ∧ Hid (TR w r g l q f acc ad n cp wr ∧ RES = entsR k l q f acc)) (fun i _ => (intOf i).toNat)
  case atStart => exact ⟨c, up, ue, [], none, 0, 0, by omega, rfl, T1.out, HR.out⟩
  case round =>
    clear T1 HR huf hup
    obtain ⟨k, q, f, acc, ad, n, cp, hk, rfl, H⟩ := hrel
    have hbx := H.out.1.box.cell
    have hn1 := H.out.1.le
    have hn2 := H.out.1.rd.hp
    cases k with
    | zero =>
      have HF := H.out.2
      unfold entsR at HF
      go_wp2
      go_ret
      rw [HF]
      refine ⟨H.out.1.rd, H.out.1.gr, ?_⟩
      have hlen := H.out.1.len
      subst hlen
      exact ⟨ad, cp, rfl, by
        rcases H.out.1.row with ⟨h1, h2⟩
        refine ⟨h1, ?_⟩
        rcases h2 with h2 | ⟨g', cap, cur, e', hb, h3⟩
        · exact .inl h2
        · exact .inr ⟨g', cap, cur, e', by omega, h3⟩⟩
    | succ k =>
      have i1 : (0 : Int) < ((k + 1 : Nat) : Int) := by omega
      have i2 : ((k + 1 : Nat) : Int) - 1 = (k : Int) := by omega
      have hr1 : r < wr.heap.size := Nat.lt_of_lt_of_le hr H.out.1.gr.size
      have hg1 : g < wr.heap.size := Nat.lt_of_lt_of_le hg H.out.1.gr.size
      have hcall := HE.out wr q f H.out.1.rd hr1 hg1
      have HF := H.out.2
      unfold entsR at HF
      cases hx : (entR l q f).1 with
      | none =>
        rw [hx] at HF hcall
        simp only [entV, Option.isSome_none] at hcall
        have HFF : Hid (RES = (none, (entR l q f).2.1, (entR l q f).2.2)) := HF
        have HT : Hid (TR w r g l q f acc ad n cp wr) := H.out.1
        generalize (entR l q f).2.1 = q' at *
        generalize (entR l q f).2.2 = f' at *
        clear hx HE H HF
        go_wp2_with (go_at_call 106; refine hcall.mono ?_; clear hcall; rintro y w2 ⟨rfl, hR2, hG2⟩; have R2 : Hid (∀ o, Rd (w2.alloc o) r g q' f' l ∧ w.grownBy (w2.alloc o) (some r)) := fun o => ⟨hR2.kept (row := none) ⟨rfl, rfl, rfl, by simp, fun k hk _ => Below.heap_alloc _ _ _ hk⟩ (by simp) (by simp), grownBy_trans (grownBy_trans HT.out.gr hG2) ⟨rfl, rfl, rfl, by simp, fun k hk _ => Below.heap_alloc _ _ _ hk⟩⟩; clear hR2 hG2)
        go_ret
        rw [HFF.out]
        exact ⟨(R2.out _).1, (R2.out _).2, rfl⟩
      | some x =>
        obtain ⟨_, hx2, hx3⟩ := entR_some hx
        rw [hx] at HF hcall
        simp only [entV, Option.isSome_some] at hcall
        simp only at HF
        have HT : Hid (TR w r g l q f acc ad n cp wr) := H.out.1
        have HFF : Hid (RES = entsR k l (entR l q f).2.1 (entR l q f).2.2 (acc ++ [x])) := HF
        generalize (entR l q f).2.1 = q' at *
        generalize (entR l q f).2.2 = f' at *
        obtain ⟨nm, fo, id⟩ := x
        simp only at hcall
        clear hx HE H HF
        go_wp2_with first
          | (go_at_call 106; refine hcall.mono ?_; clear hcall; rintro y w2 ⟨rfl, hR2, hG2⟩; have T2 : Hid (TR w r g l q' f' acc ad n cp (w2.alloc (.cells #[.string nm, .bool fo, .int .u64 id] 157))) := (HT.out.next hr hR2 hG2 (by omega)).alloc hr _; have T3 : Hid (TR w r g l q' f' acc ad n cp ((w2.alloc (.cells #[.string nm, .bool fo, .int .u64 id] 157)).alloc (.cells #[.string nm, .bool fo, .int .u64 id] 157))) := T2.out.alloc hr _; have c2 := T2.out.box.cell; have E3 : Hid (Ents ((w2.alloc (.cells #[.string nm, .bool fo, .int .u64 id] 157)).alloc (.cells #[.string nm, .bool fo, .int .u64 id] 157)) (some ⟨w2.heap.size + 1, 0, none⟩) 1 [(nm, fo, id)]) := (by have := ents_one (w2.alloc (.cells #[.string nm, .bool fo, .int .u64 id] 157)) (nm, fo, id); rw [World.size_alloc] at this; exact this); clear HT hR2 hG2 hbx T2)
          | (at_builtin; refine wpList_app3 _ (w.heap.size + 1) T3.out.low rfl _ _ rfl (.slice ad n cp) n acc rfl T3.out.row (some ⟨w2.heap.size + 1, 0, none⟩) 1 1 [(nm, fo, id)] rfl E3.out (fun h => by cases h) (by omega) ?_; intro v4 w4 ho4 hg4; obtain ⟨ad4, c4, hv4, _⟩ := row_shape3 ho4; subst hv4; have bx4 := T3.out.boxed hg4; have cb4 := bx4.cell; have fb4 := bx4.frozen; have T4 : Hid (TR w r g l q' f' (acc ++ [(nm, fo, id)]) ad4 (n + 1) c4 (w4.setCell ⟨w.heap.size, 0, none⟩ (.slice ad4 (n + 1) c4))) := T3.out.push hr hg (by omega) ho4 hg4; clear T3 E3 ho4 hg4 bx4 c2)
        go_roundw
        case rel => exact ⟨k, q', f', acc ++ [(nm, fo, id)], ad4, n + 1, c4, by omega, by simp, T4.out, HFF.out⟩
        case measure => simp [intOf]
end Go.Proofs.YtojpbemfbjkjjaaGreat
