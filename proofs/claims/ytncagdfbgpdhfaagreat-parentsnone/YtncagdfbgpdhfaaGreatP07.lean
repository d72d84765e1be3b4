import Derived.Test.YtncagdfbgpdhfaaGreatP05
import Derived.Test.YtncagdfbgpdhfaaGreatP06
import Derived.Deep.QuietTactic
import Derived.BigQuiet
/- What puts the bytes together: counts, words, texts. -/
namespace Go.Proofs.YtncagdfbgpdhfaaGreat
open Go.RowKit

/-- blocks of another type than bytes stand, but for B -/
def Keeps (B : Nat) (W W' : World) : Prop := ∀ K cs t, W.heap[K]? = some (.cells cs t (0, 0)) → t ≠ 5 → K ≠ B → W'.heap[K]? = some (.cells cs t (0, 0))
theorem Keeps.trans {B : Nat} {X Y Z : World} (h : Keeps B X Y) (k : Keeps B Y Z) : Keeps B X Z := fun K cs t a b c => k K cs t (h K cs t a b c) b c
theorem Keeps.of {B : Nat} {X Y : World} (h : Below X.heap.size X Y) : Keeps B X Y := fun K _ _ a _ _ => (h.block K (Array.getElem?_eq_some_iff.1 a).1).trans a

set_option maxRecDepth 20000 in
theorem put_any2 (w0 : World) (B : Nat) (l : List UInt8) (a : Option Addr) (n c : Nat) (m : List UInt8) (W : World) (h : OOut w0 B l W) (hb : Bytes W a n m) (hnil : a = none → n = 0 ∧ c = 0) (hm : l.length + n ≤ 140737488355328) :
    Calls Tryz.prog 103 #[.slice a n c, .pointer (some ⟨B, 0, none⟩)] W fun e W' => e = .returned (.tuple #[]) ∧ OOut w0 B (l ++ m) W' ∧ Keeps B W W' := by
  obtain ⟨v, hv, ho⟩ := h.box
  have cv := hv.cell
  have hsz := h.bel.size
  have d1 : 80 ≠ 5 := by decide
  go_enter Tryz.func103, Tryz.ntmps103
  go_wp2_with (at_builtin; refine wpList_app _ w0.heap.size hsz rfl _ _ rfl v l.length _ rfl ho a n c m rfl hb hnil hm ?_; intro v' W2 ho2 hg2 _; have hv2 : Boxed W2 B 80 v := hv.kept hg2 (hv.not_row d1 ho); have c2 := hv2.cell; have f2 := hv2.frozen; obtain ⟨ad, cp, rfl, _⟩ := row_shape ho2)
  go_end0
  refine ⟨rfl, ⟨⟨_, hv2.set _, ?_⟩, ?_, h.le⟩, fun K cs t hK ht hKB => ?_⟩
  · rw [List.length_append, hb.1, cellsOf_append]
    exact ho2.kept (grownBy_setCell' W2 B _) (.inr (hv2.not_row d1 ho2).symm)
  · exact (h.bel.grown hg2 hsz (fun k hk => (row_block ho k hk).1)).setCell (p := ⟨B, 0, none⟩) h.le _
  · have hlt : K < W.heap.size := (Array.getElem?_eq_some_iff.1 hK).1
    have h2 : W2.heap[K]? = some (.cells cs t (0, 0)) := (hg2.block K hlt (fun e => by
      obtain ⟨_, _, cur, hcur⟩ := row_block ho K e.symm
      rw [hK] at hcur
      cases hcur
      exact ht rfl)).trans hK
    exact (Below.heap_setCell _ _ _ _ hKB).trans h2

abbrev putV (B : Nat) : Value := .func (.func 103) #[] #[.pointer (some ⟨B, 0, none⟩)]
theorem grown_below {w w' : World} (h : w.grownBy w' none) : Below w.heap.size w w' := (Below.refl _ w).grown h (Nat.le_refl _) (by simp)

theorem ocount_any (w0 : World) (B : Nat) (l : List UInt8) (x : Nat) (W : World) (h : OOut w0 B l W) (hx : x < 9223372036854775808) (hm : l.length ≤ 70368744177664) :
    Calls Tryz.prog 134 #[putV B, .int .i64 (x : Int)] W fun e W' => e = .returned (.tuple #[]) ∧ OOut w0 B (l ++ short x) W' ∧ Keeps B W W' := by
  have hs := short_len x
  have hp := putUint_any none 0 0 x [] W ⟨rfl, fun h => absurd h (by omega)⟩ (by omega) (by omega)
  simp only [Nat.zero_add, List.nil_append] at hp
  go_enter Tryz.func134, Tryz.ntmps134
  go_wp2_with first
    | (go_at_call 161; refine hp.mono ?_; clear hp; rintro e w1 ⟨g, c, rfl, ho, hg⟩; have hB := grown_below hg; have hO := h.below hB; have hby := row_bytes ho; clear ho hg)
    | (go_at_call 103; refine (put_any2 w0 B l (some ⟨g, 0, none⟩) _ c (short x) _ hO hby (fun h => by cases h) (by omega)).mono ?_; rintro e w2 ⟨rfl, hO2, hK⟩)
  go_end0
  exact ⟨rfl, hO2, (Keeps.of hB).trans hK⟩
theorem word_any (w0 : World) (B : Nat) (l : List UInt8) (x : Nat) (W : World) (h : OOut w0 B l W) (hx : x < 18446744073709551616) (hm : l.length ≤ 70368744177664) :
    Calls Tryz.prog 137 #[putV B, .int .u64 (x : Int)] W fun e W' => e = .returned (.tuple #[]) ∧ OOut w0 B (l ++ wide x) W' ∧ Keeps B W W' := by
  have hp := putWord_any none 0 0 x [] W ⟨rfl, fun h => absurd h (by omega)⟩ (by omega) hx
  simp only [Nat.zero_add, List.nil_append] at hp
  go_enter Tryz.func137, Tryz.ntmps137
  go_wp2_with first
    | (go_at_call 138; refine hp.mono ?_; clear hp; rintro e w1 ⟨g, c, rfl, ho, hg⟩; have hB := grown_below hg; have hO := h.below hB; have hby := row_bytes ho; clear ho hg)
    | (go_at_call 103; refine (put_any2 w0 B l (some ⟨g, 0, none⟩) _ c (wide x) _ hO hby (fun h => by cases h) (by omega)).mono ?_; rintro e w2 ⟨rfl, hO2, hK⟩)
  go_end0
  exact ⟨rfl, hO2, (Keeps.of hB).trans hK⟩
theorem text_any (w0 : World) (B : Nat) (l : List UInt8) (s : ByteArray) (W : World) (h : OOut w0 B l W) (hs : s.size ≤ 1099511627776) (hm : l.length ≤ 70368744177664) :
    Calls Tryz.prog 135 #[putV B, .string s] W fun e W' => e = .returned (.tuple #[]) ∧ OOut w0 B (l ++ (short s.size ++ s.data.toList)) W' ∧ Keeps B W W' := by
  have hsl : (short s.size).length ≤ 10 := short_len s.size
  have hp := putText_any none 0 0 s [] W ⟨rfl, fun h => absurd h (by omega)⟩ (by omega)
  simp only [Nat.zero_add, List.nil_append] at hp
  go_enter Tryz.func135, Tryz.ntmps135
  go_wp2_with first
    | (go_at_call 139; refine hp.mono ?_; clear hp; rintro e w1 ⟨g, m, c, hmm, rfl, ho, hg⟩; have hml : m ≤ 2199023255552 := (by omega); clear hmm; have hB := grown_below hg; have hO := h.below hB; have hby := row_bytes ho; clear ho hg)
    | (go_at_call 103; refine (put_any2 w0 B l (some ⟨g, 0, none⟩) m c (short s.size ++ s.data.toList) _ hO hby (fun h => by cases h) (by omega)).mono ?_; rintro e w2 ⟨rfl, hO2, hK⟩)
  go_end0
  exact ⟨rfl, hO2, (Keeps.of hB).trans hK⟩
theorem entryMark_any (b : Bool) (w : World) : Calls Tryz.prog 136 #[.bool b] w fun e w' => e = .returned (.int .u8 (if b then 1 else 0)) ∧ w' = w := by
  cases b
  · go_enter Tryz.func136, Tryz.ntmps136
    go_wp2
    go_ret
    exact ⟨rfl, rfl⟩
  · go_enter Tryz.func136, Tryz.ntmps136
    go_wp2
    go_ret
    exact ⟨rfl, rfl⟩

/-- the bytes of entries -/
def entB (x : Ent) : List UInt8 := (short x.1.size ++ x.1.data.toList) ++ [if x.2.1 then 1 else 0] ++ wide x.2.2.toNat
def entsB (l : List Ent) : List UInt8 := (l.map entB).flatten
theorem entsB_take (l : List Ent) (k : Nat) (x : Ent) (h : l[k]? = some x) : entsB (l.take (k + 1)) = entsB (l.take k) ++ entB x := by
  unfold entsB
  rw [List.take_add_one, h]
  simp
/-- entries whose fields are as long and great as may be -/
structure Fits (l : List Ent) : Prop where
  name : ∀ (j : Nat) x, l[j]? = some x → x.1.size ≤ 32
  id : ∀ (j : Nat) x, l[j]? = some x → 0 ≤ x.2.2 ∧ x.2.2 < 18446744073709551616
theorem owide_len (x : Nat) : (wide x).length = 8 := by simp [wide, wideTo]
theorem entsB_len (l : List Ent) (h : Fits l) (k : Nat) (hk : k ≤ l.length) : (entsB (l.take k)).length ≤ k * 51 := by
  induction k with
  | zero => simp [entsB]
  | succ k ih =>
    have h1 := ih (by omega)
    obtain ⟨x, hx⟩ : ∃ x, l[k]? = some x := ⟨_, List.getElem?_eq_getElem (by omega)⟩
    rw [entsB_take l k x hx]
    have h2 := h.name k x hx
    have h3 := short_len x.1.size
    have h4 := owide_len x.2.2.toNat
    have h5 : x.1.data.toList.length = x.1.size := by simp
    simp only [entB, List.length_append, List.length_singleton, h4, h5]
    omega
theorem Keeps.box3 {B : Nat} {W W' : World} {g : Nat} {u0 u1 u2 : Value} (h : Keeps B W W') (hb : Box3 W g u0 u1 u2) (hg : g ≠ B) : Box3 W' g u0 u1 u2 := h g _ _ hb (by decide) hg

set_option maxRecDepth 100000 in
set_option maxHeartbeats 4000000 in
theorem putTree_any (w0 : World) (B : Nat) (l0 : List UInt8) (a : Option Addr) (n c : Nat) (l : List Ent) (W : World) (h : OOut w0 B l0 W) (hE : Ents w0 a n l) (hF : Fits l) (hn : n ≤ 256) (hl0 : l0.length ≤ 1024) :
    Calls Tryz.prog 104 #[putV B, .agg #[.slice a n c]] W fun e W' => e = .returned (.tuple #[]) ∧ OOut w0 B (l0 ++ (short n ++ entsB l)) W' ∧ Keeps B W W' := by
  have hll := hE.1
  have hsn := short_len n
  obtain ⟨v, hv, _⟩ := h.box
  have hBW := hv.lt
  have hK0 : Keeps B W (W.alloc (.cells #[.slice a n c] 125)) := Keeps.of ((Below.refl _ _).alloc (Nat.le_refl _) _)
  have bx0 : (W.alloc (.cells #[.slice a n c] 125)).heap[W.heap.size]? = some (.cells #[.slice a n c] 125 (0, 0)) := World.alloc_heap_new _ _
  have H0 : Hid (Keeps B W (W.alloc (.cells #[.slice a n c] 125))) := hK0
  have hO0 := h.alloc (.cells #[.slice a n c] 125)
  clear hv hK0
  go_enter Tryz.func104, Tryz.ntmps104
  go_wp2_with (go_at_call 134; refine (ocount_any w0 B l0 n _ hO0 (by omega) (by omega)).mono ?_; rintro e w1 ⟨rfl, hO1, hK1⟩; have bx1 : Boxed w1 W.heap.size 125 (.slice a n c) := hK1 _ _ _ bx0 (by decide) (by omega); have cb1 := bx1.cell; have H1 : Hid (OOut w0 B (l0 ++ short n ++ entsB (l.take 0)) w1 ∧ Keeps B W w1) := ⟨by simpa [entsB] using hO1, H0.out.trans hK1⟩; clear hO1 hK1 hO0 bx0 H0)
  go_loopw [14] (fun i wr => ∃ k : Nat, k ≤ n ∧ i = .int .i64 (k : Int) ∧ Hid (OOut w0 B (l0 ++ short n ++ entsB (l.take k)) wr ∧ Keeps B W wr)) (fun i _ => n - (intOf i).toNat)
  case atStart => exact ⟨0, Nat.zero_le _, rfl, H1.out⟩
  case round =>
    clear H1 cb1 bx1
    obtain ⟨k, hk, rfl, H⟩ := hrel
    by_cases hlt : k < n
    · obtain ⟨x, hx⟩ : ∃ x, l[k]? = some x := ⟨_, List.getElem?_eq_getElem (by omega)⟩
      obtain ⟨b1, o1, rfl, hc1⟩ := hE.2 (by omega)
      obtain ⟨t1, t2, t3⟩ := hc1 k x hx
      have hBw := H.out.1.bel
      have q1 := (hBw.cell (p := ⟨b1, o1 + k * 3, none⟩) (World.block_lt_of_cell? w0 _ t1)).trans t1
      have q2 := (hBw.cell (p := ⟨b1, o1 + k * 3 + 1, none⟩) (World.block_lt_of_cell? w0 _ t2)).trans t2
      have q3 := (hBw.cell (p := ⟨b1, o1 + k * 3 + 2, none⟩) (World.block_lt_of_cell? w0 _ t3)).trans t3
      have i2 : (k : Int) < (n : Int) := by omega
      have i3 : ¬ n ≤ k := by omega
      have HT := entsB_take l k x hx
      have hln := entsB_len l hF k (by omega)
      have hsz := hF.name k x hx
      have hid := hF.id k x hx
      obtain ⟨nm, fo, id⟩ := x
      simp only at q1 q2 q3 hsz hid HT
      obtain ⟨y, rfl⟩ := Int.eq_ofNat_of_zero_le hid.1
      have HTe : Hid (l0 ++ short n ++ entsB (l.take (k + 1)) = l0 ++ short n ++ entsB (l.take k) ++ (short nm.size ++ nm.data.toList) ++ [if fo then 1 else 0] ++ wide y) := by
        show _ = _
        rw [HT]
        simp [entB]
      generalize hP : l0 ++ short n ++ entsB (l.take k) = P at *
      have hPl : P.length ≤ 16384 := by rw [← hP]; simp only [List.length_append]; omega
      have hsm := short_len nm.size
      clear hP hc1 hx t1 t2 t3 hBw HT hln
      have bx : Box3 (wr.alloc (.cells #[.string nm, .bool fo, .int .u64 (y : Int)] 179)) wr.heap.size (.string nm) (.bool fo) (.int .u64 (y : Int)) := Box3.new wr _ _ _
      obtain ⟨vv, hvv, _⟩ := H.out.1.box
      have hBr := hvv.lt
      clear hvv
      have hO2 := H.out.1.alloc (.cells #[.string nm, .bool fo, .int .u64 (y : Int)] 179)
      have HK2 : Hid (Keeps B W (wr.alloc (.cells #[.string nm, .bool fo, .int .u64 (y : Int)] 179))) := H.out.2.trans (Keeps.of ((Below.refl _ _).alloc (Nat.le_refl _) _))
      cases fo with
      | false =>
        have hem : ∀ w, Calls Tryz.prog 136 #[.bool false] w fun e w' => e = .returned (.int .u8 0) ∧ w' = w := fun w => entryMark_any false w
        simp only [Bool.false_eq_true, if_false] at HTe
        go_wp2_with first
          | (go_at_call 135; refine (text_any w0 B P nm _ hO2 (by omega) (by omega)).mono ?_; rintro e x3 ⟨rfl, hO3, hK3⟩; have bx3 := hK3.box3 bx (by omega); obtain ⟨c0, c1, c2⟩ := bx3.cell; have HK3 : Hid (Keeps B W x3) := HK2.out.trans hK3; clear hK3 hO2 HK2 bx)
          | (go_at_call 136; refine (hem _).mono ?_; clear hem; rintro e x3' ⟨rfl, hx3⟩; subst hx3)
          | (go_at_call 103; refine (put_any2 w0 B _ (some ⟨_, 0, none⟩) 1 1 [0] _ (hO3.alloc _) (bytes_new _ [0] _ rfl) (fun h => by cases h) (by simp only [List.length_append]; have : nm.data.toList.length = nm.size := (by simp); omega)).mono ?_; rintro e x4 ⟨rfl, hO4, hK4⟩; have bx4 := hK4.box3 (bx3.below ((Below.refl _ _).alloc (Nat.le_refl _) _) bx3.lt) (by omega); obtain ⟨d0, d1, d2⟩ := bx4.cell; have HK4 : Hid (Keeps B W x4) := (HK3.out.trans (Keeps.of ((Below.refl _ _).alloc (Nat.le_refl _) _))).trans hK4; clear hK4 hO3 HK3 bx3 c0 c1 c2 bx4)
          | (go_at_call 137; refine (word_any w0 B _ y _ hO4 (by omega) (by simp only [List.length_append, List.length_singleton]; have : nm.data.toList.length = nm.size := (by simp); omega)).mono ?_; rintro e x5 ⟨rfl, hO5, hK5⟩; have HF5 : Hid (OOut w0 B (l0 ++ short n ++ entsB (l.take (k + 1))) x5 ∧ Keeps B W x5) := ⟨by rw [HTe.out]; exact hO5, HK4.out.trans hK5⟩; clear hK5 hO5 hO4 HK4)
        go_roundw
        case rel => exact ⟨k + 1, by omega, by simp, HF5.out⟩
        case measure => simp [intOf]; omega
      | true =>
        have hem : ∀ w, Calls Tryz.prog 136 #[.bool true] w fun e w' => e = .returned (.int .u8 1) ∧ w' = w := fun w => entryMark_any true w
        simp only [if_true] at HTe
        go_wp2_with first
          | (go_at_call 135; refine (text_any w0 B P nm _ hO2 (by omega) (by omega)).mono ?_; rintro e x3 ⟨rfl, hO3, hK3⟩; have bx3 := hK3.box3 bx (by omega); obtain ⟨c0, c1, c2⟩ := bx3.cell; have HK3 : Hid (Keeps B W x3) := HK2.out.trans hK3; clear hK3 hO2 HK2 bx)
          | (go_at_call 136; refine (hem _).mono ?_; clear hem; rintro e x3' ⟨rfl, hx3⟩; subst hx3)
          | (go_at_call 103; refine (put_any2 w0 B _ (some ⟨_, 0, none⟩) 1 1 [1] _ (hO3.alloc _) (bytes_new _ [1] _ rfl) (fun h => by cases h) (by simp only [List.length_append]; have : nm.data.toList.length = nm.size := (by simp); omega)).mono ?_; rintro e x4 ⟨rfl, hO4, hK4⟩; have bx4 := hK4.box3 (bx3.below ((Below.refl _ _).alloc (Nat.le_refl _) _) bx3.lt) (by omega); obtain ⟨d0, d1, d2⟩ := bx4.cell; have HK4 : Hid (Keeps B W x4) := (HK3.out.trans (Keeps.of ((Below.refl _ _).alloc (Nat.le_refl _) _))).trans hK4; clear hK4 hO3 HK3 bx3 c0 c1 c2 bx4)
          | (go_at_call 137; refine (word_any w0 B _ y _ hO4 (by omega) (by simp only [List.length_append, List.length_singleton]; have : nm.data.toList.length = nm.size := (by simp); omega)).mono ?_; rintro e x5 ⟨rfl, hO5, hK5⟩; have HF5 : Hid (OOut w0 B (l0 ++ short n ++ entsB (l.take (k + 1))) x5 ∧ Keeps B W x5) := ⟨by rw [HTe.out]; exact hO5, HK4.out.trans hK5⟩; clear hK5 hO5 hO4 HK4)
        go_roundw
        case rel => exact ⟨k + 1, by omega, by simp, HF5.out⟩
        case measure => simp [intOf]; omega
    · obtain rfl : k = n := by omega
      have i2 : ¬ (k : Int) < (k : Int) := by omega
      go_wp2
      go_end0
      refine ⟨rfl, ?_, H.out.2⟩
      have := H.out.1
      rw [← hll, List.take_length, List.append_assoc] at this
      rw [hll] at this
      exact this
end Go.Proofs.YtncagdfbgpdhfaaGreat

/- The document's check of a tree. -/
namespace Go.Proofs.YtncagdfbgpdhfaaGreat
open Go.RowKit

attribute [local go_sem] Oper.semAt_some

end Go.Proofs.YtncagdfbgpdhfaaGreat

/- What the calls of the layer answer of a tree. -/
namespace Go.Proofs.YtncagdfbgpdhfaaGreat
open Go.RowKit

theorem Ents.below {w W : World} {a : Option Addr} {n : Nat} {l : List Ent} (h : Ents w a n l) (hB : Below w.heap.size w W) : Ents W a n l := h.kept hB
abbrev trV (a : Option Addr) (n c : Nat) : Value := .iface 125 (.agg #[.slice a n c])
def treeB (l : List Ent) : List UInt8 := 116 :: (short l.length ++ entsB l)
theorem no_blob_tree (v : Value) : ∀ xT w, (Instr.typeAssert (.iface 125 v) xT 82 true).run Tryz.prog w = .ok (.tuple #[.agg #[.slice none 0 0], .bool false]) w := no_blob 125 (by decide) v

theorem check_tree (a : Option Addr) (n c : Nat) (l : List Ent) (w : World) (h : Ents w a n l) (hs : Short l) (hn : n ≤ 9223372036854775807) : Calls Tryz.prog 74 #[trV a n c] w fun e w' => e = .returned (.int .i64 (treeErrs l)) ∧ Below w.heap.size w w' := by
  have h1 := no_blob_tree (.agg #[.slice a n c])
  have h2 := as_tree (.agg #[.slice a n c])
  have hB0 : Below w.heap.size w (w.alloc (.cells #[.slice a n c] 125)) := (Below.refl _ w).alloc (Nat.le_refl _) _
  have hc := checkTree_any a n c l _ (h.below hB0) hs hn
  go_enter Tryz.func74, Tryz.ntmps74
  go_wp2_with (go_at_call 101; refine hc.mono ?_; rintro e w1 ⟨rfl, hB⟩)
  go_ret
  exact ⟨rfl, hB0.trans (hB.mono (by simp))⟩
set_option maxRecDepth 20000 in
set_option maxHeartbeats 1000000 in
theorem encode_tree (a : Option Addr) (n c : Nat) (l : List Ent) (w : World) (h : Ents w a n l) (hF : Fits l) (hn : n ≤ 256) :
    Calls Tryz.prog 75 #[trV a n c] w fun e w' => ∃ ad m cp, e = .returned (.slice ad m cp) ∧ (treeB l).length = m ∧ OwnB w.heap.size (treeB l) (.slice ad m cp) w' ∧ Below w.heap.size w w' := by
  have hmf : ∀ (fn : Fn) (first cap : Array Value) (w : World), (Instr.makeFunc fn first cap).run Tryz.prog w = .ok (.func fn first cap) w := fun _ _ _ _ => rfl
  have h1 := no_blob_tree (.agg #[.slice a n c])
  have h2 := as_tree (.agg #[.slice a n c])
  have HO := ((out_new w).alloc (.cells #[.slice a n c] 125)).alloc (.cells #[.int .u8 116] 5)
  have hO2 : Boxed ((w.alloc (.cells #[.slice none 0 0] 80)).alloc (.cells #[.slice a n c] 125)) (w.heap.size + 1) 125 (.slice a n c) := by
    have := Boxed.new (w.alloc (.cells #[.slice none 0 0] 80)) 125 (.slice a n c)
    rw [World.size_alloc] at this
    exact this
  have hby := bytes_new ((w.alloc (.cells #[.slice none 0 0] 80)).alloc (.cells #[.slice a n c] 125)) [116] _ rfl
  have hp := put_any2 w w.heap.size [] (some ⟨w.heap.size + 1 + 1, 0, none⟩) 1 1 [116] _ HO (by rw [World.size_alloc, World.size_alloc] at hby; exact hby) (fun h => by cases h) (by simp)
  clear HO
  have hK := hO2.alloc (.cells #[.int .u8 116] 5)
  have hll := h.1
  clear hO2 hby
  go_enter Tryz.func75, Tryz.ntmps75
  go_wp2_with first
    | (go_at_call 103; refine hp.mono ?_; rintro e w1 ⟨rfl, hO1, hk1⟩; have hbx : Boxed w1 (w.heap.size + 1) 125 (.slice a n c) := hk1 _ _ _ hK (by decide) (by omega); have cb := hbx.cell; have HO1 : Hid (OOut w w.heap.size ([] ++ [116]) w1) := hO1; clear hp hO1 hk1 hbx)
    | (go_at_call 104; refine (putTree_any w w.heap.size ([] ++ [116]) a n c l _ HO1.out h hF hn (by simp)).mono ?_; rintro e w2 ⟨rfl, hO2, _⟩; obtain ⟨v, hv, ho⟩ := hO2.box; have cv := hv.cell; have HO2 : Hid (OwnB w.heap.size (treeB l) v w2 ∧ Below w.heap.size w w2) := ⟨⟨by have e : treeB l = [] ++ [116] ++ (short n ++ entsB l) := (by unfold treeB; rw [hll]; rfl); rw [e]; exact ho⟩, hO2.bel⟩; obtain ⟨ad, cp, hvv, _⟩ := HO2.out.1.shape rfl; subst hvv; clear hO2 HO1 ho hv)
  go_ret
  exact ⟨ad, _, cp, rfl, rfl, HO2.out.1, HO2.out.2⟩

/-- entries of a tree that may be -/
theorem treeErr_ok : ∀ (l : List Ent) (p : ByteArray), treeErr p l = 0 → ∀ (j : Nat) x, l[j]? = some x → (spot (bs x.1)).1 = 0
  | [], _, _, j, x, h => by simp at h
  | y :: r, p, h0, j, x, h => by
    unfold treeErr at h0
    split at h0
    · rename_i h1; omega
    · rename_i h1
      have h1' : (spot (bs y.1)).1 = 0 := by simpa using h1
      split at h0
      · omega
      · split at h0
        · omega
        · cases j with
          | zero => simp at h; rw [← h]; exact h1'
          | succ j => exact treeErr_ok r _ h0 j x (by simpa using h)
end Go.Proofs.YtncagdfbgpdhfaaGreat

/- What the layer answers of a tree: encode, id, sameness, links. -/
namespace Go.Proofs.YtncagdfbgpdhfaaGreat
open Go.RowKit

theorem spot_short (nm : ByteArray) (h : (spot (bs nm)).1 = 0) : nm.size ≤ 32 := by
  have hl : (bs nm).length = nm.size := bs_len nm
  unfold spot at h
  split at h
  · cases h
  · split at h
    · cases h
    · omega
/-- the fields of entries that came in -/
structure Fields (l : List Ent) : Prop where
  name : Short l
  id : ∀ (j : Nat) x, l[j]? = some x → 0 ≤ x.2.2 ∧ x.2.2 < 18446744073709551616
theorem fits_of {l : List Ent} (hf : Fields l) (h : treeErrs l = 0) : l.length ≤ 256 ∧ Fits l := by
  unfold treeErrs at h
  split at h
  · omega
  · rename_i h1
    exact ⟨by omega, fun j x hx => spot_short _ (treeErr_ok l _ h j x hx), hf.id⟩
theorem Encode_tree (a : Option Addr) (n c : Nat) (l : List Ent) (w : World) (h : Ents w a n l) (hf : Fields l) (hn : n ≤ 9223372036854775807) (h0 : treeErrs l = 0) :
    Calls Tryz.prog 52 #[trV a n c] w fun e w' => ∃ v, e = .returned (.tuple #[v, .int .i64 0]) ∧ OwnB w.heap.size (treeB l) v w' ∧ Below w.heap.size w w' := by
  have c1 := check_tree a n c l w h hf.name hn
  rw [h0] at c1
  obtain ⟨hl, hF⟩ := fits_of hf h0
  have hll := h.1
  go_enter Tryz.func52, Tryz.ntmps52
  go_wp2_with first
    | (go_at_call 74; refine c1.mono ?_; clear c1; rintro e w1 ⟨rfl, hB1⟩)
    | (go_at_call 75; refine (encode_tree a n c l _ (h.below hB1) hF (by omega)).mono ?_; rintro e w2 ⟨ad, m, cp, rfl, hm, ho, hB2⟩; have HO : Hid (OwnB w1.heap.size (treeB l) (.slice ad m cp) w2) := ho; clear ho hm)
  go_ret2
  exact ⟨_, rfl, ⟨row_lower HO.out.row hB1.size⟩, hB1.trans (hB2.mono hB1.size)⟩
end Go.Proofs.YtncagdfbgpdhfaaGreat

/- A tree's links, and what it answers in all. -/
namespace Go.Proofs.YtncagdfbgpdhfaaGreat
open Go.RowKit

attribute [local go_sem] Oper.semAt_some

theorem infoId : (Tryz.prog.info? 31).map (fun i => (i.zero, i.size, i.bytes)) = some (some (.int .u64 0), 1, 8) := by kernel_rfl
theorem infoEntry : (Tryz.prog.info? 179).map (fun i => (i.zero, i.size, i.bytes)) = some (some (.agg #[.string ⟨#[]⟩, .bool false, .int .u64 0]), 3, 32) := by kernel_rfl
end Go.Proofs.YtncagdfbgpdhfaaGreat

/- The document's bytes of a tree. -/
namespace Go.Proofs.YtncagdfbgpdhfaaGreat
open Go.RowKit

attribute [local go_sem] Oper.semAt_some

end Go.Proofs.YtncagdfbgpdhfaaGreat
