import Derived.Test.YtncagdfbgpdhfaaGreatP08
import Derived.Test.YtncagdfbgpdhfaaGreatP05
/- A tree, as it is read. -/
namespace Go.Proofs.YtncagdfbgpdhfaaGreat
open Go.RowKit

attribute [local go_sem] Oper.semAt_some

theorem byteR_ok {l : List UInt8} {p : Nat} {e : Int} (h : (byteR l p e).2.2 = 0) : e = 0 ∧ (byteR l p e).2.1 = p + 1 ∧ p < l.length := by
  unfold byteR at h ⊢
  by_cases he : e ≠ 0
  · rw [if_pos he] at h; exact absurd h he
  · rw [if_neg he] at h ⊢
    by_cases hp : p < l.length
    · rw [if_pos hp]; exact ⟨by omega, rfl, hp⟩
    · rw [if_neg hp] at h; simp at h
theorem wordR_ok {l : List UInt8} {p : Nat} {e : Int} (h : (wordR l p e).2.2 = 0) : e = 0 ∧ (wordR l p e).2.1 = p + 8 ∧ p + 8 ≤ l.length := by
  unfold wordR at h ⊢
  by_cases he : e ≠ 0
  · rw [if_pos he] at h; exact absurd h he
  · rw [if_neg he] at h ⊢
    by_cases hp : l.length < p + 8
    · rw [if_pos hp] at h; simp at h
    · rw [if_neg hp]; exact ⟨by omega, rfl, by omega⟩
theorem textR_ok {l : List UInt8} {p : Nat} {e m : Int} (h : (textR l p e m).2.2 = 0) : e = 0 ∧ p ≤ (textR l p e m).2.1 := by
  unfold textR at h ⊢
  by_cases he : e ≠ 0
  · rw [if_pos he] at h; exact absurd h he
  · rw [if_neg he] at h ⊢
    by_cases hp : (txt (l.drop p) m).2.2 = 0
    · rw [if_pos hp]; exact ⟨by omega, by simp⟩
    · rw [if_neg hp] at h; exact absurd h hp
theorem entR_some {l : List UInt8} {p : Nat} {e : Int} {x : Ent} (h : (entR l p e).1 = some x) : e = 0 ∧ p + 9 ≤ (entR l p e).2.1 ∧ (entR l p e).2.2 = 0 := by
  unfold entR at h ⊢
  simp only at h ⊢
  by_cases hq : (wordR l (byteR l (textR l p e 32).2.1 (textR l p e 32).2.2).2.1 (byteR l (textR l p e 32).2.1 (textR l p e 32).2.2).2.2).2.2 ≠ 0 ∨ 1 < (byteR l (textR l p e 32).2.1 (textR l p e 32).2.2).1
  · rw [if_pos hq] at h; cases h
  · have h1 : (wordR l (byteR l (textR l p e 32).2.1 (textR l p e 32).2.2).2.1 (byteR l (textR l p e 32).2.1 (textR l p e 32).2.2).2.2).2.2 = 0 := by
      by_cases h1 : (wordR l (byteR l (textR l p e 32).2.1 (textR l p e 32).2.2).2.1 (byteR l (textR l p e 32).2.1 (textR l p e 32).2.2).2.2).2.2 = 0
      · exact h1
      · exact absurd (.inl h1) hq
    obtain ⟨a1, a2, _⟩ := wordR_ok h1
    obtain ⟨b1, b2, _⟩ := byteR_ok a1
    obtain ⟨c1, c2⟩ := textR_ok b1
    exact ⟨c1, by omega, h1⟩
/-- n entries, as they are read, behind those that are read -/
def entsR : Nat → List UInt8 → Nat → Int → List Ent → Option (List Ent) × Nat × Int
  | 0, _, p, e, acc => (some acc, p, e)
  | n + 1, l, p, e, acc => match (entR l p e).1 with
    | none => (none, (entR l p e).2.1, (entR l p e).2.2)
    | some x => entsR n l (entR l p e).2.1 (entR l p e).2.2 (acc ++ [x])
def treeR (l : List UInt8) (p : Nat) (e : Int) : Option (List Ent) × Nat × Int := entsR (uintR l p e).1.toNat l (uintR l p e).2.1 (uintR l p e).2.2 []
theorem ents_one (w : World) (x : Ent) : Ents (w.alloc (.cells #[.string x.1, .bool x.2.1, .int .u64 x.2.2] 179)) (some ⟨w.heap.size, 0, none⟩) 1 [x] := by
  refine ⟨rfl, fun _ => ⟨_, _, rfl, fun j y hy => ?_⟩⟩
  match j, hy with
  | 0, hy =>
    simp at hy; subst hy
    have := (Box3.new w (.string x.1) (.bool x.2.1) (.int .u64 x.2.2)).cell
    simp only [Nat.zero_mul, Nat.add_zero]
    exact this
theorem own_grown {W W' : World} {B r n : Nat} {t : TypeId} {z : Nat} {v : Value} {xs : List Value} (h : W.ownsRow B t z v n xs) (hg : W.grownBy W' (some r)) (hr : r < B) : W'.ownsRow B t z v n xs :=
  h.kept hg (.inr fun e => by
    rcases h.2 with ⟨rfl, _⟩ | ⟨g, cap, cur, rfl, hb, _⟩
    · cases e
    · have : g = r := Option.some.inj e
      omega)
theorem boxed_grown {W W' : World} {B r : Nat} {t : TypeId} {v : Value} (h : Boxed W B t v) (hg : W.grownBy W' (some r)) (hr : r ≠ B) : Boxed W' B t v := (hg.block B h.lt (fun e => hr (Option.some.inj e).symm)).trans h
/-- what stands while a tree is read -/
structure TR (w : World) (r g : Nat) (l : List UInt8) (p : Nat) (e : Int) (acc : List Ent) (ad : Option Addr) (n cp : Nat) (W : World) : Prop where
  rd : Rd W r g p e l
  gr : w.grownBy W (some r)
  box : Boxed W w.heap.size 125 (.slice ad n cp)
  row : W.ownsRow (w.heap.size + 1) 179 3 (.slice ad n cp) n (entCells acc)
  len : acc.length = n
  le : n ≤ p
  low : w.heap.size + 1 ≤ W.heap.size
theorem TR.next {w W W1 : World} {r g : Nat} {l : List UInt8} {p p' : Nat} {e e' : Int} {acc : List Ent} {ad : Option Addr} {n cp : Nat} (h : TR w r g l p e acc ad n cp W) (hr : r < w.heap.size) (hR : Rd W1 r g p' e' l) (hg : W.grownBy W1 (some r)) (hp : p ≤ p') : TR w r g l p' e' acc ad n cp W1 :=
  ⟨hR, grownBy_trans h.gr hg, boxed_grown h.box hg (by omega), own_grown h.row hg (by omega), h.len, Nat.le_trans h.le hp, Nat.le_trans h.low hg.size⟩
theorem TR.alloc {w W : World} {r g : Nat} {l : List UInt8} {p : Nat} {e : Int} {acc : List Ent} {ad : Option Addr} {n cp : Nat} (h : TR w r g l p e acc ad n cp W) (hr : r < w.heap.size) (o : Obj) : TR w r g l p e acc ad n cp (W.alloc o) := by
  have hg : W.grownBy (W.alloc o) none := ⟨rfl, rfl, rfl, by simp, fun k hk _ => Below.heap_alloc _ _ _ hk⟩
  exact h.next hr (h.rd.kept hg (by simp) (by simp)) (grownBy_wide hg) (Nat.le_refl _)
theorem TR.boxed {w W W1 : World} {r g : Nat} {l : List UInt8} {p : Nat} {e : Int} {acc : List Ent} {ad : Option Addr} {n cp : Nat} (h : TR w r g l p e acc ad n cp W) (hg : W.grownBy W1 (Value.slice ad n cp).ownBlock) : Boxed W1 w.heap.size 125 (.slice ad n cp) :=
  (hg.block _ h.box.lt (fun e => by
    rcases h.row.2 with ⟨e', _⟩ | ⟨g', cap, cur, e', hb, _⟩
    · rw [e'] at e; cases e
    · rw [e'] at e
      have : w.heap.size = g' := Option.some.inj e
      omega)).trans h.box
theorem TR.push {w W W1 : World} {r g : Nat} {l : List UInt8} {p : Nat} {e : Int} {acc : List Ent} {ad : Option Addr} {n cp : Nat} {x : Ent} {ad' : Option Addr} {cp' : Nat} (h : TR w r g l p e acc ad n cp W) (hr : r < w.heap.size) (hgw : g < w.heap.size) (hp : n + 1 ≤ p)
    (ho : W1.ownsRow (w.heap.size + 1) 179 3 (.slice ad' (n + 1) cp') (n + 1) (entCells (acc ++ [x]))) (hg : W.grownBy W1 (Value.slice ad n cp).ownBlock) :
    TR w r g l p e (acc ++ [x]) ad' (n + 1) cp' (W1.setCell ⟨w.heap.size, 0, none⟩ (.slice ad' (n + 1) cp')) := by
  have hob : ∀ k, (Value.slice ad n cp).ownBlock = some k → w.heap.size + 1 ≤ k := fun k hk => by
    rcases h.row.2 with ⟨e, _⟩ | ⟨g', cap, cur, e, hb, _⟩
    · rw [e] at hk; cases hk
    · rw [e] at hk; cases hk; exact hb
  have hB1 : Below (w.heap.size + 1) W W1 := ⟨hg.os, hg.tape, hg.output, hg.size, fun k hk => hg.block k (by have := h.low; omega) (fun e => by have := hob k e.symm; omega)⟩
  have hS : W1.grownBy (W1.setCell ⟨w.heap.size, 0, none⟩ (.slice ad' (n + 1) cp')) (some w.heap.size) := grownBy_setCell _ _ _ _
  have hbx : Boxed W1 w.heap.size 125 (.slice ad n cp) := (hB1.block _ (by omega)).trans h.box
  have hR1 : Rd W1 r g p e l := h.rd.kept (row := (Value.slice ad n cp).ownBlock) hg (fun e => by have := hob r e; omega) (fun e => by have := hob g e; omega)
  refine ⟨hR1.kept hS (by simp; omega) (by simp; omega), ?_, ?_, ?_, by simp [h.len], by omega, ?_⟩
  · refine ⟨hS.os.trans (hg.os.trans h.gr.os), hS.tape.trans (hg.tape.trans h.gr.tape), hS.output.trans (hg.output.trans h.gr.output), Nat.le_trans h.gr.size (Nat.le_trans hg.size hS.size), fun k hk hn => ?_⟩
    rw [hS.block k (by have := h.gr.size; have := hg.size; omega) (by simp; omega), hB1.block k (by omega)]
    exact h.gr.block k hk hn
  · have h' : W1.heap[w.heap.size]? = _ := hbx
    have hl := hbx.lt
    unfold Boxed
    simp [World.setCell, Array.getElem?_modify, h']
  · exact ho.kept hS (.inr fun e => by
      rcases ho.2 with ⟨e', _⟩ | ⟨g', cap, cur, e', hb, _⟩
      · rw [e'] at e; cases e
      · rw [e'] at e
        have : g' = w.heap.size := Option.some.inj e
        omega)
  · have := h.low; have := hg.size; have := hS.size; omega

/-- what a call that reads a tree answers -/
def TreeOut (w : World) : Option (List Ent) → Ending → World → Prop
  | none, x, _ => x = .returned .nilIface
  | some ents, x, w' => ∃ ad cp, x = .returned (trV ad ents.length cp) ∧ w'.ownsRow w.heap.size 179 3 (.slice ad ents.length cp) ents.length (entCells ents)

set_option maxRecDepth 20000 in
set_option maxHeartbeats 4000000 in
theorem readTree_any (w : World) (r g p : Nat) (e : Int) (l : List UInt8) (h : Rd w r g p e l) (hr : r < w.heap.size) (hg : g < w.heap.size) (hl : l.length ≤ 549755813888) :
    Calls Tryz.prog 128 #[.pointer (some ⟨r, 0, none⟩)] w fun x w' => Rd w' r g (treeR l p e).2.1 (treeR l p e).2.2 l ∧ w.grownBy w' (some r) ∧
      TreeOut w (treeR l p e).1 x w' := by
  have h0 : Rd (w.alloc (.cells #[.slice none 0 0] 125)) r g p e l := h.kept (row := none) ⟨rfl, rfl, rfl, by simp, fun k hk _ => Below.heap_alloc _ _ _ hk⟩ (by simp) (by simp)
  have hT0 : TR w r g l p e [] none 0 0 (w.alloc (.cells #[.slice none 0 0] 125)) := ⟨h0, ⟨rfl, rfl, rfl, by simp, fun k hk _ => Below.heap_alloc _ _ _ hk⟩, Boxed.new _ _ _, World.ownsRow_nil _ _ _ _, rfl, Nat.zero_le _, by simp⟩
  have T0 : Hid (TR w r g l p e [] none 0 0 (w.alloc (.cells #[.slice none 0 0] 125))) := hT0
  obtain ⟨RES, hRES⟩ : ∃ RES, RES = treeR l p e := ⟨_, rfl⟩
  rw [← hRES]
  have huf := uintR_fits l p e
  have hup : p ≤ (uintR l p e).2.1 := by
    unfold uintR
    split
    · exact Nat.le_refl _
    · split
      · simp
      · exact Nat.le_refl _
  have HU : Hid (∀ W, Rd W r g p e l → Calls Tryz.prog 156 #[.pointer (some ⟨r, 0, none⟩)] W fun x w' => x = .returned (.int .u64 (uintR l p e).1) ∧ Rd w' r g (uintR l p e).2.1 (uintR l p e).2.2 l ∧ W.grownBy w' (some r)) := fun W hW => uint_st W r g p e l hW
  unfold treeR at hRES
  generalize uintR l p e = U at huf hup HU hRES
  obtain ⟨u, up, ue⟩ := U
  simp only at huf hup HU hRES
  obtain ⟨c, rfl⟩ := Int.eq_ofNat_of_zero_le huf.1
  have HR : Hid (RES = entsR c l up ue []) := hRES
  have HE : Hid (∀ W q f, Rd W r g q f l → r < W.heap.size → g < W.heap.size → Calls Tryz.prog 157 #[.pointer (some ⟨r, 0, none⟩)] W fun x w' => x = .returned (.tuple #[entV (entR l q f).1, .bool (entR l q f).1.isSome]) ∧ Rd w' r g (entR l q f).2.1 (entR l q f).2.2 l ∧ W.grownBy w' (some r)) := fun W q f hW a b => readEntry_any W r g q f l hW a b
  clear h0 hT0 hRES h
  go_enter Tryz.func128, Tryz.ntmps128
  go_wp2_with (go_at_call 156; refine (HU.out _ T0.out.rd).mono ?_; clear HU; rintro y w1 ⟨rfl, hR1, hG1⟩; have T1 : Hid (TR w r g l up ue [] none 0 0 w1) := T0.out.next hr hR1 hG1 hup; clear T0 hR1 hG1)
  go_loopw [4] (fun i wr => ∃ (k q : Nat) (f : Int) (acc : List Ent) (ad : Option Addr) (n cp : Nat), k ≤ 18446744073709551615 ∧ i = .int .u64 (k : Int) ∧ Hid (TR w r g l q f acc ad n cp wr ∧ RES = entsR k l q f acc)) (fun i _ => (intOf i).toNat)
  case atStart => exact ⟨c, up, ue, [], none, 0, 0, by omega, rfl, T1.out, HR.out⟩
  case round =>
    clear T1 HR huf hup
    obtain ⟨k, q, f, acc, ad, n, cp, hk, rfl, H⟩ := hrel
    have hbx := H.out.1.box.cell
    have hn1 := H.out.1.le
    have hn2 := H.out.1.rd.hp
    cases k with
    | zero =>
      have HF := H.out.2
      unfold entsR at HF
      go_wp2
      go_ret
      rw [HF]
      refine ⟨H.out.1.rd, H.out.1.gr, ?_⟩
      have hlen := H.out.1.len
      subst hlen
      exact ⟨ad, cp, rfl, by
        rcases H.out.1.row with ⟨h1, h2⟩
        refine ⟨h1, ?_⟩
        rcases h2 with h2 | ⟨g', cap, cur, e', hb, h3⟩
        · exact .inl h2
        · exact .inr ⟨g', cap, cur, e', by omega, h3⟩⟩
    | succ k =>
      have i1 : (0 : Int) < ((k + 1 : Nat) : Int) := by omega
      have i2 : ((k + 1 : Nat) : Int) - 1 = (k : Int) := by omega
      have hr1 : r < wr.heap.size := Nat.lt_of_lt_of_le hr H.out.1.gr.size
      have hg1 : g < wr.heap.size := Nat.lt_of_lt_of_le hg H.out.1.gr.size
      have hcall := HE.out wr q f H.out.1.rd hr1 hg1
      have HF := H.out.2
      unfold entsR at HF
      cases hx : (entR l q f).1 with
      | none =>
        rw [hx] at HF hcall
        simp only [entV, Option.isSome_none] at hcall
        have HFF : Hid (RES = (none, (entR l q f).2.1, (entR l q f).2.2)) := HF
        have HT : Hid (TR w r g l q f acc ad n cp wr) := H.out.1
        generalize (entR l q f).2.1 = q' at *
        generalize (entR l q f).2.2 = f' at *
        clear hx HE H HF
        go_wp2_with (go_at_call 157; refine hcall.mono ?_; clear hcall; rintro y w2 ⟨rfl, hR2, hG2⟩; have R2 : Hid (∀ o, Rd (w2.alloc o) r g q' f' l ∧ w.grownBy (w2.alloc o) (some r)) := fun o => ⟨hR2.kept (row := none) ⟨rfl, rfl, rfl, by simp, fun k hk _ => Below.heap_alloc _ _ _ hk⟩ (by simp) (by simp), grownBy_trans (grownBy_trans HT.out.gr hG2) ⟨rfl, rfl, rfl, by simp, fun k hk _ => Below.heap_alloc _ _ _ hk⟩⟩; clear hR2 hG2)
        go_ret
        rw [HFF.out]
        exact ⟨(R2.out _).1, (R2.out _).2, rfl⟩
      | some x =>
        obtain ⟨_, hx2, hx3⟩ := entR_some hx
        rw [hx] at HF hcall
        simp only [entV, Option.isSome_some] at hcall
        simp only at HF
        have HT : Hid (TR w r g l q f acc ad n cp wr) := H.out.1
        have HFF : Hid (RES = entsR k l (entR l q f).2.1 (entR l q f).2.2 (acc ++ [x])) := HF
        generalize (entR l q f).2.1 = q' at *
        generalize (entR l q f).2.2 = f' at *
        obtain ⟨nm, fo, id⟩ := x
        simp only at hcall
        clear hx HE H HF
        go_wp2_with first
          | (go_at_call 157; refine hcall.mono ?_; clear hcall; rintro y w2 ⟨rfl, hR2, hG2⟩; have T2 : Hid (TR w r g l q' f' acc ad n cp (w2.alloc (.cells #[.string nm, .bool fo, .int .u64 id] 179))) := (HT.out.next hr hR2 hG2 (by omega)).alloc hr _; have T3 : Hid (TR w r g l q' f' acc ad n cp ((w2.alloc (.cells #[.string nm, .bool fo, .int .u64 id] 179)).alloc (.cells #[.string nm, .bool fo, .int .u64 id] 179))) := T2.out.alloc hr _; have c2 := T2.out.box.cell; have E3 : Hid (Ents ((w2.alloc (.cells #[.string nm, .bool fo, .int .u64 id] 179)).alloc (.cells #[.string nm, .bool fo, .int .u64 id] 179)) (some ⟨w2.heap.size + 1, 0, none⟩) 1 [(nm, fo, id)]) := (by have := ents_one (w2.alloc (.cells #[.string nm, .bool fo, .int .u64 id] 179)) (nm, fo, id); rw [World.size_alloc] at this; exact this); clear HT hR2 hG2 hbx T2)
          | (at_builtin; refine wpList_app3 _ (w.heap.size + 1) T3.out.low rfl _ _ rfl (.slice ad n cp) n acc rfl T3.out.row (some ⟨w2.heap.size + 1, 0, none⟩) 1 1 [(nm, fo, id)] rfl E3.out (fun h => by cases h) (by omega) ?_; intro v4 w4 ho4 hg4; obtain ⟨ad4, c4, hv4, _⟩ := row_shape3 ho4; subst hv4; have bx4 := T3.out.boxed hg4; have cb4 := bx4.cell; have fb4 := bx4.frozen; have T4 : Hid (TR w r g l q' f' (acc ++ [(nm, fo, id)]) ad4 (n + 1) c4 (w4.setCell ⟨w.heap.size, 0, none⟩ (.slice ad4 (n + 1) c4))) := T3.out.push hr hg (by omega) ho4 hg4; clear T3 E3 ho4 hg4 bx4 c2)
        go_roundw
        case rel => exact ⟨k, q', f', acc ++ [(nm, fo, id)], ad4, n + 1, c4, by omega, by simp, T4.out, HFF.out⟩
        case measure => simp [intOf]
end Go.Proofs.YtncagdfbgpdhfaaGreat

/- Which texts are right: the program's word and the document's. -/
namespace Go.Proofs.YtncagdfbgpdhfaaGreat
open Go.RowKit

/-- is the first rune of a text one that may not stand -/
def wrongAt (l : List UInt8) : Bool := decide ((dec l).1 = 0) || (decide ((dec l).1 = 65533) && !(fffd.isPrefixOf l))
def rightF : Nat → List UInt8 → Bool
  | 0, _ => true
  | n + 1, l => if l = [] then true else !(wrongAt l) && rightF n (l.drop (dec l).2)
def rightL (l : List UInt8) : Bool := rightF l.length l
theorem rightF_same : ∀ (n m : Nat) (l : List UInt8), l.length ≤ n → l.length ≤ m → rightF n l = rightF m l
  | 0, m, l, h, _ => by
    have : l = [] := List.eq_nil_of_length_eq_zero (by omega)
    subst this
    cases m <;> rfl
  | n + 1, 0, l, _, h => by
    have : l = [] := List.eq_nil_of_length_eq_zero (by omega)
    subst this
    rfl
  | n + 1, m + 1, l, h1, h2 => by
    unfold rightF
    split
    · rfl
    · rename_i hne
      have hd := dec_pos l
      have : (l.drop (dec l).2).length + 1 ≤ l.length := by
        have := dec_le l hne
        rw [List.length_drop]; omega
      rw [rightF_same n m _ (by omega) (by omega)]
theorem rightL_step (l : List UInt8) (h : l ≠ []) : rightL l = (!(wrongAt l) && rightL (l.drop (dec l).2)) := by
  unfold rightL
  obtain ⟨n, hn⟩ : ∃ n, l.length = n + 1 := ⟨l.length - 1, by have : l.length ≠ 0 := fun e => h (List.eq_nil_of_length_eq_zero e); omega⟩
  have hd := dec_pos l
  rw [hn]
  show (if l = [] then true else _) = _
  rw [if_neg h, rightF_same n (l.drop (dec l).2).length _ (by rw [List.length_drop]; omega) (Nat.le_refl _)]
theorem obroken_any (s : ByteArray) (w : World) (hs : s.size ≤ maxLen) :
    Calls Tryz.prog 172 #[.string s] w fun e w' => e = .returned (.bool (!(fffd.isPrefixOf (bs s)))) ∧ w' = w := by
  go_enter Tryz.func172, Tryz.ntmps172
  go_wp2_with (go_at_call 171; refine (has_prefix s ⟨#[239, 191, 189]⟩ w hs (by decide)).mono ?_; rintro e w' ⟨rfl, rfl⟩)
  go_ret
  exact ⟨rfl, rfl⟩
set_option maxRecDepth 20000 in
set_option maxHeartbeats 4000000 in
theorem right_any (s : ByteArray) (w : World) (hs : s.size ≤ maxLen) :
    Calls Tryz.prog 160 #[.string s] w fun e w' => e = .returned (.bool (rightL (bs s))) ∧ Below w.heap.size w w' := by
  have hs' : s.size ≤ 9223372036854775807 := by unfold maxLen at hs; omega
  obtain ⟨R, hR⟩ : ∃ R, R = rightL (bs s) := ⟨_, rfl⟩
  rw [← hR]
  go_enter Tryz.func160, Tryz.ntmps160
  go_wp2
  go_loopw [] (fun wr => ∃ p : Nat, p ≤ s.size ∧ wr = w.iter s p ∧ Hid (R = rightL ((bs s).drop p))) (fun wr => s.size - wr.iterPos w.heap.size)
  case atStart => exact ⟨0, Nat.zero_le _, rfl, by simpa [Hid] using hR⟩
  case round =>
    clear hR
    obtain ⟨p, hp, rfl, H⟩ := hrel
    by_cases hlt : p < s.size
    · obtain ⟨r, hr⟩ : ∃ r, r = (dec ((bs s).drop p)).1 := ⟨_, rfl⟩
      obtain ⟨d, hd⟩ : ∃ d, d = (dec ((bs s).drop p)).2 := ⟨_, rfl⟩
      have hne : (bs s).drop p ≠ [] := fun e => by
        have := congrArg List.length e
        rw [List.length_drop, bs_len] at this; simp at this; omega
      have hd1 : 1 ≤ d := by rw [hd]; exact dec_pos _
      have hd2 : p + d ≤ s.size := by
        have := dec_le _ hne
        rw [← hd, List.length_drop, bs_len] at this; omega
      have hdec : Utf8.decode s p = (r, d) := by rw [decode_dec, hr, hd]; rfl
      have hrle : r ≤ 2147483647 := by have := decode_le s p; rw [hdec] at this; exact this
      have hnx := run_next_any (P := Tryz.prog) w s p (h := hlt)
      rw [hdec] at hnx
      obtain ⟨W1, hW1⟩ : ∃ W1, W1 = w.iter s p := ⟨_, rfl⟩
      obtain ⟨W2, hW2⟩ : ∃ W2, W2 = w.iter s (p + d) := ⟨_, rfl⟩
      have HB2 : Hid (Below w.heap.size w W2) := by rw [hW2]; exact (Below.refl _ w).alloc (Nat.le_refl _) _
      have hm1 : Hid (s.size - W2.iterPos w.heap.size < s.size - W1.iterPos w.heap.size) := by
        have e1 := World.iterPos_iter w s p
        have e2 := World.iterPos_iter w s (p + d)
        rw [← hW1] at e1
        rw [← hW2] at e2
        show _ < _
        rw [e1, e2]; omega
      have HW2 : Hid (W2 = w.iter s (p + d)) := hW2
      rw [← hW1, ← hW2] at hnx
      rw [← hW1]
      have HBd : Hid (wrongAt ((bs s).drop p) = (decide (r = 0) || (decide (r = 65533) && !(fffd.isPrefixOf (bs (s.extract p s.size)))))) := by
        show _ = _
        rw [bs_extract, show (bs s).take s.size = bs s by rw [← bs_len]; exact List.take_length]
        simp only [wrongAt, ← hr]
      have hst := rightL_step _ hne
      rw [← hd, List.drop_drop] at hst
      have HStop : Hid (wrongAt ((bs s).drop p) = true → R = false) := fun hb => by rw [H.out, hst, hb]; rfl
      have HNext : Hid (wrongAt ((bs s).drop p) = false → ∃ p', p' ≤ s.size ∧ W2 = w.iter s p' ∧ Hid (R = rightL ((bs s).drop p'))) := fun hb => ⟨p + d, hd2, HW2.out, by
        show _ = _
        rw [H.out, hst, hb]; rfl⟩
      clear hne hd hr hdec hW1 hW2 hst HW2 H
      have i3 : (p : Int) ≤ s.size := by omega
      by_cases h00 : r = 0
      · subst h00
        simp only [show ((0 : Nat) : Int) = 0 from rfl] at hnx
        have e0 : R = false := HStop.out (by rw [HBd.out]; rfl)
        subst e0
        clear HBd HNext HStop
        go_wp2
        go_ret
        exact ⟨rfl, HB2.out⟩
      · have i0 : ((r : Int) == 0) = false := beq_eq_false_iff_ne.2 (by omega)
        by_cases h65 : r = 65533
        · subst h65
          simp only [show ((65533 : Nat) : Int) = 65533 from rfl] at hnx i0
          clear i0
          cases hfp : fffd.isPrefixOf (bs (s.extract p s.size)) with
          | false =>
            have e0 : R = false := HStop.out (by rw [HBd.out, hfp]; rfl)
            subst e0
            clear HBd HNext HStop
            go_wp2_with (go_at_call 172; refine (obroken_any (s.extract p s.size) _ (by simp; omega)).mono ?_; rintro e w' ⟨rfl, hw'⟩; rw [hfp]; subst hw')
            go_ret
            exact ⟨rfl, HB2.out⟩
          | true =>
            have HX := HNext.out (by rw [HBd.out, hfp]; rfl)
            have HXX : Hid (∃ p', p' ≤ s.size ∧ W2 = w.iter s p' ∧ Hid (R = rightL ((bs s).drop p'))) := HX
            clear HBd HNext HStop HX
            go_wp2_with (go_at_call 172; refine (obroken_any (s.extract p s.size) _ (by simp; omega)).mono ?_; rintro e w' ⟨rfl, hw'⟩; rw [hfp]; subst hw')
            go_roundw
            case rel => exact HXX.out
            case measure => exact hm1.out
        · have i5 : ((r : Int) == 65533) = false := beq_eq_false_iff_ne.2 (by omega)
          have HX := HNext.out (by rw [HBd.out]; simp [h00, h65])
          have HXX : Hid (∃ p', p' ≤ s.size ∧ W2 = w.iter s p' ∧ Hid (R = rightL ((bs s).drop p'))) := HX
          clear HBd HNext HStop HX
          have i6 : ¬ (r : Int) = 0 := by omega
          have i7 : ¬ (r : Int) = 65533 := by omega
          go_wp2
          go_roundw
          case rel => exact HXX.out
          case measure => exact hm1.out
    · obtain rfl : p = s.size := by omega
      have hnx := run_next_end (P := Tryz.prog) w s s.size (h := Nat.lt_irrefl _)
      obtain ⟨W1, hW1⟩ : ∃ W1, W1 = w.iter s s.size := ⟨_, rfl⟩
      have HB1 : Hid (Below w.heap.size w W1) := by rw [hW1]; exact (Below.refl _ w).alloc (Nat.le_refl _) _
      rw [← hW1] at hnx
      rw [← hW1]
      have e0 : R = true := by
        rw [H.out, List.drop_eq_nil_of_le (by rw [bs_len]; exact Nat.le_refl _)]; rfl
      subst e0
      clear hW1 H
      go_wp2
      go_ret
      exact ⟨rfl, HB1.out⟩

end Go.Proofs.YtncagdfbgpdhfaaGreat
