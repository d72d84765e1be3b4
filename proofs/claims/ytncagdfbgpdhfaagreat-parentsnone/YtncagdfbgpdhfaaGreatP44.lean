import Derived.Test.YtncagdfbgpdhfaaGreatP43
import Derived.Test.YtncagdfbgpdhfaaGreatP41
import Derived.BigQuiet
/- The walks of Reduce and Reduced. -/
namespace Go.Proofs.YtncagdfbgpdhfaaGreat
open Go.RowKit Go.Shelf Go.Maps

attribute [local go_sem] Oper.semAt_some

theorem row_movedI {W W' : World} {base n : Nat} {v : Value} {xs : List Value} (h : W.ownsRow base 31 1 v n xs) (hs : ∀ r, base ≤ r → r < W.heap.size → W'.heap[r]? = W.heap[r]?) : W'.ownsRow base 31 1 v n xs := by
  refine ⟨h.1, ?_⟩
  rcases h.2 with h | ⟨g, cap, cur, rfl, hg, hb, rest⟩
  · exact .inl h
  · exact .inr ⟨g, cap, cur, rfl, hg, (hs g hg (Array.getElem?_eq_some_iff.1 hb).1).trans hb, rest⟩
theorem row_lowI {w : World} {B B' n : Nat} {v : Value} {xs : List Value} (h : w.ownsRow B 31 1 v n xs) (hb : B' ≤ B) : w.ownsRow B' 31 1 v n xs := row_low h hb
/-- the marks, with that of those that stand ahead -/
def toldM (f : Int → Nat) (s : List Int) : Int → Nat := fun x => if x ∈ s then f x ||| 8 else f x
theorem toldM_snoc (f : Int → Nat) (l : List Int) (k : Nat) (p : Int) (h : l[k]? = some p) : setN (toldM f (l.take k)) p (toldM f (l.take k) p ||| 8) = toldM f (l.take (k + 1)) := by
  obtain ⟨hk, rfl⟩ := List.getElem?_eq_some_iff.1 h
  have hm : ∀ x, x ∈ l.take (k + 1) ↔ x ∈ l.take k ∨ x = l[k] := fun x => by rw [List.take_succ_eq_append_getElem hk, List.mem_append, List.mem_singleton]
  funext x
  unfold setN toldM
  by_cases e : x = l[k]
  · rw [if_pos e, if_pos ((hm x).2 (.inr e)), e]
    split
    · rw [Nat.or_assoc]; rfl
    · rfl
  · rw [if_neg e]
    by_cases e2 : x ∈ l.take k
    · rw [if_pos e2, if_pos ((hm x).2 (.inl e2))]
    · rw [if_neg e2, if_neg (fun h => ((hm x).1 h).elim e2 e)]
theorem toldM_nil (f : Int → Nat) : toldM f [] = f := by funext x; simp [toldM]
theorem toldM_lt {f : Int → Nat} (h : ∀ x, f x < 8) (s : List Int) : ∀ x, toldM f s x < 16 := fun x => by
  have := h x
  unfold toldM
  split
  · exact or_lt16 (by omega) (by decide)
  · omega
theorem bit2_and : ∀ a : Fin 8, ((a : Nat) &&& 12 = 0 ↔ (a : Nat).testBit 2 = false) ∧ ((a : Nat) ||| 8) &&& 12 ≠ 0 := by decide
theorem told_zero {f : Int → Nat} (h : ∀ x, f x < 8) (s : List Int) (x : Int) : toldM f s x &&& 12 = 0 ↔ ((f x).testBit 2 || s.contains x) = false := by
  have hb := bit2_and ⟨f x, h x⟩
  simp only at hb
  unfold toldM
  by_cases e : x ∈ s
  · rw [if_pos e]
    have : s.contains x = true := by simpa using e
    rw [this, Bool.or_true]
    exact ⟨fun h => absurd h hb.2, fun h => by cases h⟩
  · rw [if_neg e]
    have : s.contains x = false := by simpa using e
    rw [this, Bool.or_false]
    exact hb.1
/-- what Reduce leaves -/
def redP (os : List Ob) (g : GS) (l : List Int) : List Int := redG (fun x => (spr (psO os) 1 g.ord.reverse (listM l) x).testBit 2) [] l
theorem redG_step (B : Int → Bool) (l : List Int) (k : Nat) (p : Int) (h : l[k]? = some p) : redG B (l.take k).reverse (l.drop k) = if (B p || (l.take k).contains p) = true then redG B (l.take (k + 1)).reverse (l.drop (k + 1)) else p :: redG B (l.take (k + 1)).reverse (l.drop (k + 1)) := by
  obtain ⟨hk, e⟩ := List.getElem?_eq_some_iff.1 h
  rw [List.drop_eq_getElem_cons hk, e, redG, List.take_succ_eq_append_getElem hk, List.reverse_append, e]
  have : (l.take k).reverse.contains p = (l.take k).contains p := by
    rw [Bool.eq_iff_iff]; simp
  rw [this]; rfl

set_option maxRecDepth 100000 in
set_option maxHeartbeats 4000000 in
theorem reduce_ok (w : World) (s d : Nat) (os : List Ob) (sz : Nat) (cut : Bool) (F : Nat → Prop) (hS : IsSt w s d os sz cut F) (hos : os.length ≤ 65536) (a : Option Addr) (n c : Nat) (l : List Int) (hl : Ids w a n l) (hr : ∀ x ∈ l, 0 ≤ x ∧ x ≤ 18446744073709551615) (hnc : n ≤ c) (hn : n ≤ 100000) (g : GS) (hR : ordG os l GS.none = .ok g) :
    Calls Tryz.prog 14 #[.pointer (some ⟨s, 0, none⟩), .slice a n c] w fun e w' => (∃ ad cp, e = .returned (.tuple #[.slice ad (redP os g l).length cp, .int .i64 0]) ∧ w'.ownsRow w.heap.size 31 1 (.slice ad (redP os g l).length cp) (redP os g l).length ((redP os g l).map (Value.int .u64))) ∧ Below w.heap.size w w' := by
  have hof := ofList_ok w s d os sz cut F hS hos a n c l hl hr hnc (by omega) g hR
  have HL : Hid (Ids w a n l ∧ ∀ x ∈ l, 0 ≤ x ∧ x ≤ 18446744073709551615) := ⟨hl, hr⟩
  unfold redP
  obtain ⟨RF, hRF⟩ : ∃ RF, redG (fun x => (spr (psO os) 1 g.ord.reverse (listM l) x).testBit 2) [] l = RF := ⟨_, rfl⟩
  rw [hRF]
  clear hS hl hr hnc hR
  go_enter Tryz.func14, Tryz.ntmps14
  go_wp2_with fail
  refine hof.mono ?_
  clear hof
  rintro e w1 ⟨⟨oa, oc, mb, km, rfl, hH⟩, hB1⟩
  have hA : Below w1.heap.size w1 (w1.alloc (.cells #[.slice oa g.ord.length oc, .map (some mb)] 90)) := (Below.refl _ _).alloc (Nat.le_refl _) _
  obtain ⟨f, hf⟩ : ∃ f, spr (psO os) 1 g.ord.reverse (listM l) = f := ⟨_, rfl⟩
  have hmk := hH.marks
  rw [hf] at hmk hRF
  have HF8 : Hid (∀ x, f x < 8) := by rw [← hf]; exact spr_lt _ _ _ _ hH.m8
  have H1 : Hid (MkAt (w1.alloc (.cells #[.slice oa g.ord.length oc, .map (some mb)] 90)) mb f km ∧ BoxH (w1.alloc (.cells #[.slice oa g.ord.length oc, .map (some mb)] 90)) w1.heap.size (.slice oa g.ord.length oc) (.map (some mb)) ∧ Below w.heap.size w (w1.alloc (.cells #[.slice oa g.ord.length oc, .map (some mb)] 90)) ∧ mb < w1.heap.size ∧ w.heap.size ≤ mb ∧ km ≤ 1000000000 ∧ w1.heap.size + 1 ≤ (w1.alloc (.cells #[.slice oa g.ord.length oc, .map (some mb)] 90)).heap.size) := ⟨hmk.kept (hA.block _ hmk.lt), BoxH.new _ _ _, hB1.trans (hA.mono hB1.size), hmk.lt, hH.mb, hH.km, by simp⟩
  have HRF : Hid (redG (fun x => (f x).testBit 2) [] l = RF) := hRF
  clear hH hB1 hA hmk hf hRF
  generalize g.ord.length = no at *
  go_wp2_with fail
  generalize w1.alloc (.cells #[.slice oa no oc, .map (some mb)] 90) = w2 at *
  go_loopw [8, 22] (fun v i wr => ∃ (k : Nat) (out : List Int) (ad : Option Addr) (cp : Nat), k ≤ n ∧ i = .int .i64 k ∧ v = .slice ad out.length cp ∧ Hid (wr.ownsRow w2.heap.size 31 1 (.slice ad out.length cp) out.length (out.map (Value.int .u64)) ∧ out ++ redG (fun x => (f x).testBit 2) (l.take k).reverse (l.drop k) = RF ∧ out.length ≤ k ∧ MkAt wr mb (toldM f (l.take k)) (km + k) ∧ BoxH wr w1.heap.size (.slice oa no oc) (.map (some mb)) ∧ Below w.heap.size w wr ∧ w2.heap.size ≤ wr.heap.size)) (fun _ i _ => n - (intOf i).toNat)
  case atStart => exact ⟨0, [], none, 0, Nat.zero_le _, rfl, rfl, World.ownsRow_nil _ _ _ _, HRF.out, Nat.zero_le _, by rw [show l.take 0 = [] from rfl, toldM_nil]; exact H1.out.1, H1.out.2.1, H1.out.2.2.1, Nat.le_refl _⟩
  case round =>
    obtain ⟨k, out, ad, cp, hk, rfl, rfl, H⟩ := hrel
    by_cases hlt : k < n
    · obtain ⟨p, hp⟩ : ∃ p, l[k]? = some p := ⟨_, List.getElem?_eq_getElem (by rw [HL.out.1.1]; exact hlt)⟩
      obtain ⟨b1, o1, hae, hc1⟩ := (HL.out.1.kept H.out.2.2.2.2.2.1).2 (by omega)
      subst hae
      have q0 := hc1 k p hp
      obtain ⟨hp0, hp1⟩ := HL.out.2 p (List.mem_of_getElem? hp)
      have h16 := toldM_lt HF8.out (l.take k) p
      have hz := told_zero HF8.out (l.take k) p
      have hst := redG_step (fun x => (f x).testBit 2) l k p hp
      obtain ⟨c0, c1⟩ := H.out.2.2.2.2.1.cell
      have HZ : Hid (∀ W, (∀ q, q < w2.heap.size → W.heap[q]? = wr.heap[q]?) → MkAt W mb (toldM f (l.take k)) (km + k) ∧ BoxH W w1.heap.size (.slice oa no oc) (.map (some mb))) := fun W hW => ⟨H.out.2.2.2.1.kept (hW mb (by have := H1.out.2.2.2; omega)), (hW _ (by have := H1.out.2.2.2; omega)).trans H.out.2.2.2.2.1⟩
      have HT : Hid (setN (toldM f (l.take k)) p (toldM f (l.take k) p ||| 8) = toldM f (l.take (k + 1))) := toldM_snoc f l k p hp
      have hand := bits_and (toldM f (l.take k) p) 12 h16 (by decide)
      have hand : bits .and .u64 ((toldM f (l.take k) p : Nat) : Int) 12 = ((toldM f (l.take k) p &&& 12 : Nat) : Int) := hand
      have hor : bits .or .u64 ((toldM f (l.take k) p : Nat) : Int) 8 = ((toldM f (l.take k) p ||| 8 : Nat) : Int) := bits_or (toldM f (l.take k) p) 8 h16 (by decide)
      have hlk := H.out.2.2.2.1.look p hp0 hp1 wr rfl
      have i5 : (k : Int) < (n : Int) := by omega
      have i6 : ¬ n ≤ k := by omega
      have hol := H.out.2.2.1
      clear hc1 hp
      obtain ⟨fv, hfv⟩ : ∃ fv, toldM f (l.take k) p = fv := ⟨_, rfl⟩
      have HFv : Hid (toldM f (l.take k) p = fv) := hfv
      rw [hfv] at hand hor hlk hz
      clear hfv h16
      by_cases h0 : fv &&& 12 = 0
      · rw [hz.1 h0] at hst
        rw [h0] at hand
        have HS : Hid ((out ++ [p]) ++ redG (fun x => (f x).testBit 2) (l.take (k + 1)).reverse (l.drop (k + 1)) = RF) := by
          have h1 := H.out.2.1
          rw [hst, if_neg (by decide)] at h1
          rw [← h1, List.append_assoc]; rfl
        clear hst hz h0
        go_wp2_with (at_builtin; refine wpList_app_id p _ rfl _ _ rfl w2.heap.size out.length _ out rfl rfl H.out.1 (by omega) H.out.2.2.2.2.2.2 ?_; intro ad' cp' w3 hcp' hrow3 hB3; obtain ⟨hmk3, bH3⟩ := HZ.out w3 (fun q hq => hB3.block q hq); obtain ⟨d0, d1⟩ := bH3.cell; have hlk3 := hmk3.look p hp0 hp1 w3 rfl; obtain ⟨w4, hupd, hmk4, hg4⟩ := hmk3.put p hp0 hp1 (by have := H1.out.2.2.2; unfold maxLen; omega) (fv ||| 8); rw [HFv.out] at hlk3; have hmk5 : MkAt w4 mb (toldM f (l.take (k + 1))) (km + (k + 1)) := (by rw [← HT.out, HFv.out]; exact hmk4); have hbel := H.out.2.2.2.2.2.1; have hsz := H.out.2.2.2.2.2.2; have h3l := hB3.size; have h4l := hg4.size; have hmb := H1.out.2.2.2; have HN : Hid (w4.ownsRow w2.heap.size 31 1 (.slice ad' (out.length + 1) cp') (out.length + 1) ((out ++ [p]).map (Value.int .u64)) ∧ MkAt w4 mb (toldM f (l.take (k + 1))) (km + (k + 1)) ∧ BoxH w4 w1.heap.size (.slice oa no oc) (.map (some mb)) ∧ Below w.heap.size w w4 ∧ w2.heap.size ≤ w4.heap.size) := ⟨row_movedI hrow3 (fun r h1 h2 => hg4.block r h2 (fun e => by have := Option.some.inj e; omega)), hmk5, (hg4.block _ bH3.lt (fun e => by have := Option.some.inj e; omega)).trans bH3, hbel.trans ((hB3.mono (by omega)).trans ((turn_grown hg4).below (by omega) (fun q e => by omega))), by omega⟩; clear hrow3 hB3 hmk3 bH3 hmk4 hmk5 hg4 hbel hsz h3l h4l hmb)
        go_roundw
        case rel => exact ⟨k + 1, out ++ [p], _, _, by omega, by go_num, by rw [List.length_append, List.length_singleton], by rw [List.length_append, List.length_singleton]; exact HN.out.1, HS.out, by rw [List.length_append, List.length_singleton]; omega, HN.out.2⟩
        case measure => simp [intOf]; omega
      · have hb0 : ((f p).testBit 2 || (l.take k).contains p) = true := by
          cases hb : ((f p).testBit 2 || (l.take k).contains p) with
          | true => rfl
          | false => exact absurd (hz.2 hb) h0
        have HS : Hid (out ++ redG (fun x => (f x).testBit 2) (l.take (k + 1)).reverse (l.drop (k + 1)) = RF) := by
          have h1 := H.out.2.1
          rw [hst, if_pos hb0] at h1
          exact h1
        have hnz : (((fv &&& 12 : Nat) : Int) == 0) = false := beq_false_of_ne (by omega)
        obtain ⟨w4, hupd, hmk4, hg4⟩ := H.out.2.2.2.1.put p hp0 hp1 (by have := H1.out.2.2.2; unfold maxLen; omega) (fv ||| 8)
        have hmk5 : MkAt w4 mb (toldM f (l.take (k + 1))) (km + (k + 1)) := by rw [← HT.out, HFv.out]; exact hmk4
        have hbel := H.out.2.2.2.2.2.1
        have hsz := H.out.2.2.2.2.2.2
        have h4l := hg4.size
        have hmb := H1.out.2.2.2
        have HN : Hid (w4.ownsRow w2.heap.size 31 1 (.slice ad out.length cp) out.length (out.map (Value.int .u64)) ∧ MkAt w4 mb (toldM f (l.take (k + 1))) (km + (k + 1)) ∧ BoxH w4 w1.heap.size (.slice oa no oc) (.map (some mb)) ∧ Below w.heap.size w w4 ∧ w2.heap.size ≤ w4.heap.size) := ⟨row_movedI H.out.1 (fun r h1 h2 => hg4.block r h2 (fun e => by have := Option.some.inj e; omega)), hmk5, (hg4.block _ H.out.2.2.2.2.1.lt (fun e => by have := Option.some.inj e; omega)).trans H.out.2.2.2.2.1, hbel.trans ((turn_grown hg4).below hbel.size (fun q e => by omega)), by omega⟩
        clear hst hz h0 hmk4 hmk5 hg4 hbel hsz h4l hmb hb0
        generalize fv &&& 12 = r12 at *
        go_wp2
        go_roundw
        case rel => exact ⟨k + 1, out, _, _, by omega, by go_num, rfl, HN.out.1, HS.out, by omega, HN.out.2⟩
        case measure => simp [intOf]; omega
    · obtain rfl : n = k := by omega
      have i5 : ¬ (n : Int) < (n : Int) := by omega
      have he : out = RF := by
        have h1 := H.out.2.1
        rw [List.drop_eq_nil_of_le (by rw [HL.out.1.1]; exact Nat.le_refl _)] at h1
        simpa [redG] using h1
      subst he
      have HE : Hid (wr.ownsRow w.heap.size 31 1 (.slice ad out.length cp) out.length (out.map (Value.int .u64)) ∧ Below w.heap.size w wr) := ⟨row_lowI H.out.1 H1.out.2.2.1.size, H.out.2.2.2.2.2.1⟩
      clear hk hlt
      go_wp2
      go_ret2
      exact ⟨⟨_, _, rfl, HE.out.1⟩, HE.out.2⟩

theorem reduce_err (w : World) (sv : Option Addr) (a : Option Addr) (n c : Nat) (l : List Int) (hl : Ids w a n l) (hr : ∀ x ∈ l, 0 ≤ x ∧ x ≤ 18446744073709551615) (hn : n ≤ 1000000) (er : Int) (he : er ≠ 0) (hord : ∀ W', Below w.heap.size w W' → Calls Tryz.prog 26 #[.pointer sv, .slice a n c] W' fun e w' => e = .returned (.tuple #[.slice none 0 0, .int .i64 er]) ∧ Below W'.heap.size W' w') :
    Calls Tryz.prog 14 #[.pointer sv, .slice a n c] w fun e w' => e = .returned (.tuple #[.slice none 0 0, .int .i64 er]) ∧ Below w.heap.size w w' := by
  have hof := ofList_err w sv a n c l hl hr hn er he hord
  have z1 : (er == 0) = false := beq_false_of_ne he
  clear hord hl hr
  go_enter Tryz.func14, Tryz.ntmps14
  go_wp2_with (go_at_call 40; refine hof.mono ?_; clear hof; rintro e w1 ⟨rfl, hB1⟩; have H1 : Hid (Below w.heap.size w (w1.alloc (.cells #[.slice none 0 0, .map none] 90))) := hB1.alloc hB1.size _; clear hB1)
  go_ret2
  exact ⟨rfl, H1.out⟩
theorem reduced_err (w : World) (sv : Option Addr) (a : Option Addr) (n c : Nat) (l : List Int) (hl : Ids w a n l) (hr : ∀ x ∈ l, 0 ≤ x ∧ x ≤ 18446744073709551615) (hn : n ≤ 1000000) (er : Int) (he : er ≠ 0) (hord : ∀ W', Below w.heap.size w W' → Calls Tryz.prog 26 #[.pointer sv, .slice a n c] W' fun e w' => e = .returned (.tuple #[.slice none 0 0, .int .i64 er]) ∧ Below W'.heap.size W' w') :
    Calls Tryz.prog 16 #[.pointer sv, .slice a n c] w fun e w' => e = .returned (.tuple #[.bool false, .int .i64 er]) ∧ Below w.heap.size w w' := by
  have hof := reduce_err w sv a n c l hl hr hn er he hord
  have z1 : (er == 0) = false := beq_false_of_ne he
  clear hord hl hr
  go_enter Tryz.func16, Tryz.ntmps16
  go_wp2_with (go_at_call 14; refine hof.mono ?_; clear hof; rintro e w1 ⟨rfl, hB1⟩)
  go_ret2
  exact ⟨rfl, hB1⟩
end Go.Proofs.YtncagdfbgpdhfaaGreat

/- The walks of Bases, Base, count, Apart, Relation. -/
namespace Go.Proofs.YtncagdfbgpdhfaaGreat
open Go.RowKit Go.Shelf Go.Maps

attribute [local go_sem] Oper.semAt_some

/-- the marks of two commits -/
def mrkP (os : List Ob) (g : GS) (a b : Int) : Int → Nat := spr (psO os) 3 g.ord.reverse (pairM a b)
def basP (os : List Ob) (g : GS) (a b : Int) : List Int := g.ord.filter fun x => mrkP os g a b x &&& 7 == 3
theorem filter_snoc (q : Int → Bool) (l : List Int) (k : Nat) (p : Int) (h : l[k]? = some p) : (l.take (k + 1)).filter q = (l.take k).filter q ++ (if q p = true then [p] else []) := by
  obtain ⟨hk, rfl⟩ := List.getElem?_eq_some_iff.1 h
  rw [List.take_succ_eq_append_getElem hk, List.filter_append]
  by_cases e : q l[k] = true
  · rw [if_pos e, List.filter_cons_of_pos e, List.filter_nil]
  · rw [if_neg e, List.filter_cons_of_neg e, List.filter_nil]
theorem filter_short (q : Int → Bool) (l : List Int) (k : Nat) : ((l.take k).filter q).length ≤ k := Nat.le_trans (List.length_filter_le _ _) (by rw [List.length_take]; omega)

set_option maxRecDepth 100000 in
set_option maxHeartbeats 4000000 in
theorem bases_ok (w : World) (s d : Nat) (os : List Ob) (sz : Nat) (cut : Bool) (F : Nat → Prop) (hS : IsSt w s d os sz cut F) (hos : os.length ≤ 65536) (a b : Int) (ha : 0 ≤ a ∧ a ≤ 18446744073709551615) (hb : 0 ≤ b ∧ b ≤ 18446744073709551615) (g : GS) (hR : ordG os [a, b] GS.none = .ok g) :
    Calls Tryz.prog 17 #[.pointer (some ⟨s, 0, none⟩), .int .u64 a, .int .u64 b] w fun e w' => (∃ ad cp, e = .returned (.tuple #[.slice ad (basP os g a b).length cp, .int .i64 0]) ∧ w'.ownsRow w.heap.size 31 1 (.slice ad (basP os g a b).length cp) (basP os g a b).length ((basP os g a b).map (Value.int .u64))) ∧ Below w.heap.size w w' := by
  have hof := ofPair_ok w s d os sz cut F hS hos a b ha hb g hR
  have hle := Nat.le_trans (ord_len hR) hos
  have HRg : Hid (∀ x ∈ g.ord, 0 ≤ x ∧ x ≤ 18446744073709551615) := ord_rng hR
  unfold basP mrkP
  obtain ⟨f, hf⟩ : ∃ f, spr (psO os) 3 g.ord.reverse (pairM a b) = f := ⟨_, rfl⟩
  rw [hf]
  have HF8 : Hid (∀ x, f x < 8) := by rw [← hf]; exact spr_lt _ _ _ _ (pairM_lt a b)
  clear hS ha hb hR
  go_enter Tryz.func17, Tryz.ntmps17
  go_wp2_with fail
  refine hof.mono ?_
  clear hof
  rintro e w1 ⟨⟨oa, oc, mb, km, rfl, hH⟩, hB1⟩
  have hA : Below w1.heap.size w1 (w1.alloc (.cells #[.slice oa g.ord.length oc, .map (some mb)] 90)) := (Below.refl _ _).alloc (Nat.le_refl _) _
  have hmk := hH.marks
  rw [hf] at hmk
  obtain ⟨no, hno⟩ : ∃ no, g.ord.length = no := ⟨_, rfl⟩
  have hids := hH.ids
  rw [hno] at hids hA ⊢
  have H1 : Hid (MkAt (w1.alloc (.cells #[.slice oa no oc, .map (some mb)] 90)) mb f km ∧ BoxH (w1.alloc (.cells #[.slice oa no oc, .map (some mb)] 90)) w1.heap.size (.slice oa no oc) (.map (some mb)) ∧ Below w.heap.size w (w1.alloc (.cells #[.slice oa no oc, .map (some mb)] 90)) ∧ mb < w1.heap.size ∧ w1.heap.size + 1 ≤ (w1.alloc (.cells #[.slice oa no oc, .map (some mb)] 90)).heap.size ∧ Ids (w1.alloc (.cells #[.slice oa no oc, .map (some mb)] 90)) oa no g.ord ∧ g.ord.length = no) := ⟨hmk.kept (hA.block _ hmk.lt), BoxH.new _ _ _, hB1.trans (hA.mono hB1.size), hmk.lt, by simp, hids.kept hA, hno⟩
  rw [hno] at hle
  obtain ⟨c0, c1⟩ := H1.out.2.1.cell
  clear hH hB1 hA hmk hf hids hno
  go_wp2_with fail
  clear c0 c1
  generalize w1.alloc (.cells #[.slice oa no oc, .map (some mb)] 90) = w2 at *
  go_loopw [10, 26] (fun v i wr => ∃ (k : Nat) (ad : Option Addr) (cp : Nat), k ≤ no ∧ i = .int .i64 k ∧ v = .slice ad ((g.ord.take k).filter fun x => f x &&& 7 == 3).length cp ∧ Hid (wr.ownsRow w2.heap.size 31 1 (.slice ad ((g.ord.take k).filter fun x => f x &&& 7 == 3).length cp) ((g.ord.take k).filter fun x => f x &&& 7 == 3).length (((g.ord.take k).filter fun x => f x &&& 7 == 3).map (Value.int .u64)) ∧ Below w2.heap.size w2 wr)) (fun _ i _ => no - (intOf i).toNat)
  case atStart => exact ⟨0, none, 0, Nat.zero_le _, rfl, rfl, World.ownsRow_nil _ _ _ _, Below.refl _ _⟩
  case round =>
    obtain ⟨k, ad, cp, hk, rfl, rfl, H⟩ := hrel
    have hBr := H.out.2
    by_cases hlt : k < no
    · obtain ⟨p, hp⟩ : ∃ p, g.ord[k]? = some p := ⟨_, List.getElem?_eq_getElem (by rw [H1.out.2.2.2.2.2.2]; exact hlt)⟩
      obtain ⟨b1, o1, hae, hc1⟩ := (H1.out.2.2.2.2.2.1.kept hBr).2 (by omega)
      subst hae
      have q0 := hc1 k p hp
      obtain ⟨hp0, hp1⟩ := HRg.out p (List.mem_of_getElem? hp)
      have bH := (hBr.block _ H1.out.2.1.lt).trans H1.out.2.1
      obtain ⟨c0, c1⟩ := BoxH.cell bH
      have h8 := HF8.out p
      have hand : bits .and .u64 ((f p : Nat) : Int) 7 = ((f p &&& 7 : Nat) : Int) := bits_and (f p) 7 (by omega) (by decide)
      have hlk := (H1.out.1.kept (hBr.block _ H1.out.1.lt)).look p hp0 hp1 wr rfl
      have hsn := filter_snoc (fun x => f x &&& 7 == 3) g.ord k p hp
      have hsh := filter_short (fun x => f x &&& 7 == 3) g.ord k
      have i5 : (k : Int) < (no : Int) := by omega
      have i6 : ¬ no ≤ k := by omega
      have hz2 := hBr.size
      clear hc1 hp bH hBr
      by_cases h3 : f p &&& 7 = 3
      · rw [if_pos (by rw [h3]; rfl)] at hsn
        rw [h3] at hand
        obtain ⟨out, hout⟩ : ∃ out, (g.ord.take k).filter (fun x => f x &&& 7 == 3) = out := ⟨_, rfl⟩
        rw [hout] at hsn hsh H ⊢
        have HS : Hid ((g.ord.take (k + 1)).filter (fun x => f x &&& 7 == 3) = out ++ [p]) := hsn
        clear hsn hout h3
        generalize f p = fv at *
        go_wp2_with (at_builtin; refine wpList_app_id p _ rfl _ _ rfl w2.heap.size out.length _ out rfl rfl H.out.1 (by omega) hz2 ?_; intro ad' cp' w3 hcp' hrow3 hB3; have HN : Hid (w3.ownsRow w2.heap.size 31 1 (.slice ad' (out.length + 1) cp') (out.length + 1) ((out ++ [p]).map (Value.int .u64)) ∧ Below w2.heap.size w2 w3) := ⟨hrow3, H.out.2.trans hB3⟩; clear hrow3 hB3)
        go_roundw
        case rel => exact ⟨k + 1, _, _, by omega, by go_num, by rw [HS.out, List.length_append, List.length_singleton], by rw [HS.out, List.length_append, List.length_singleton]; exact HN.out⟩
        case measure => simp [intOf]; omega
      · have hb3 : ((f p &&& 7) == 3) = false := beq_false_of_ne h3
        rw [if_neg (by rw [hb3]; decide), List.append_nil] at hsn
        have hi3 : (((f p &&& 7 : Nat) : Int) == 3) = false := beq_false_of_ne (by omega)
        have HS : Hid ((g.ord.take (k + 1)).filter (fun x => f x &&& 7 == 3) = (g.ord.take k).filter (fun x => f x &&& 7 == 3)) := hsn
        clear hsn h3 hb3
        generalize f p &&& 7 = r7 at *
        generalize f p = fv at *
        go_wp2
        go_roundw
        case rel => exact ⟨k + 1, _, _, by omega, by go_num, by rw [HS.out], by rw [HS.out]; exact H.out⟩
        case measure => simp [intOf]; omega
    · obtain rfl : no = k := by omega
      have i5 : ¬ (no : Int) < (no : Int) := by omega
      have he : g.ord.take no = g.ord := List.take_of_length_le (by rw [H1.out.2.2.2.2.2.2]; exact Nat.le_refl _)
      rw [he] at H ⊢
      obtain ⟨out, hout⟩ : ∃ out, g.ord.filter (fun x => f x &&& 7 == 3) = out := ⟨_, rfl⟩
      rw [hout] at H ⊢
      have HO : Hid (g.ord.filter (fun x => f x &&& 7 == 3) = out) := hout
      clear hout
      have HE : Hid (wr.ownsRow w.heap.size 31 1 (.slice ad out.length cp) out.length (out.map (Value.int .u64)) ∧ Below w.heap.size w wr) := ⟨row_lowI H.out.1 H1.out.2.2.1.size, H1.out.2.2.1.trans (hBr.mono H1.out.2.2.1.size)⟩
      clear hk hlt hBr he
      go_wp2
      go_ret2
      exact ⟨⟨ad, cp, by rw [HO.out]; rfl, by rw [HO.out]; exact HE.out.1⟩, HE.out.2⟩
theorem bases_err (w : World) (sv : Option Addr) (a b : Int) (ha : 0 ≤ a ∧ a ≤ 18446744073709551615) (hb : 0 ≤ b ∧ b ≤ 18446744073709551615) (er : Int) (he : er ≠ 0) (hord : ∀ W' ad, Below w.heap.size w W' → Ids W' ad 2 [a, b] → Calls Tryz.prog 26 #[.pointer sv, .slice ad 2 2] W' fun e w' => e = .returned (.tuple #[.slice none 0 0, .int .i64 er]) ∧ Below W'.heap.size W' w') :
    Calls Tryz.prog 17 #[.pointer sv, .int .u64 a, .int .u64 b] w fun e w' => e = .returned (.tuple #[.slice none 0 0, .int .i64 er]) ∧ Below w.heap.size w w' := by
  have hof := ofPair_err w sv a b ha hb er he hord
  have z1 : (er == 0) = false := beq_false_of_ne he
  clear hord ha hb
  go_enter Tryz.func17, Tryz.ntmps17
  go_wp2_with (go_at_call 41; refine hof.mono ?_; clear hof; rintro e w1 ⟨rfl, hB1⟩; have H1 : Hid (Below w.heap.size w (w1.alloc (.cells #[.slice none 0 0, .map none] 90))) := hB1.alloc hB1.size _; clear hB1)
  go_ret2
  exact ⟨rfl, H1.out⟩
theorem base_err (w : World) (sv : Option Addr) (a b : Int) (ha : 0 ≤ a ∧ a ≤ 18446744073709551615) (hb : 0 ≤ b ∧ b ≤ 18446744073709551615) (er : Int) (he : er ≠ 0) (hord : ∀ W' ad, Below w.heap.size w W' → Ids W' ad 2 [a, b] → Calls Tryz.prog 26 #[.pointer sv, .slice ad 2 2] W' fun e w' => e = .returned (.tuple #[.slice none 0 0, .int .i64 er]) ∧ Below W'.heap.size W' w') :
    Calls Tryz.prog 18 #[.pointer sv, .int .u64 a, .int .u64 b] w fun e w' => e = .returned (.tuple #[.int .u64 0, .int .i64 er]) ∧ Below w.heap.size w w' := by
  have hof := bases_err w sv a b ha hb er he hord
  have z1 : (er == 0) = false := beq_false_of_ne he
  clear hord ha hb
  go_enter Tryz.func18, Tryz.ntmps18
  go_wp2_with (go_at_call 17; refine hof.mono ?_; clear hof; rintro e w1 ⟨rfl, hB1⟩)
  go_ret2
  exact ⟨rfl, hB1⟩
theorem base_ok (w : World) (s d : Nat) (os : List Ob) (sz : Nat) (cut : Bool) (F : Nat → Prop) (hS : IsSt w s d os sz cut F) (hos : os.length ≤ 65536) (a b : Int) (ha : 0 ≤ a ∧ a ≤ 18446744073709551615) (hb : 0 ≤ b ∧ b ≤ 18446744073709551615) (g : GS) (hR : ordG os [a, b] GS.none = .ok g) :
    Calls Tryz.prog 18 #[.pointer (some ⟨s, 0, none⟩), .int .u64 a, .int .u64 b] w fun e w' => e = .returned (.tuple #[.int .u64 ((basP os g a b).getLast?.getD 0), .int .i64 (if basP os g a b = [] then 4 else 0)]) ∧ Below w.heap.size w w' := by
  have hof := bases_ok w s d os sz cut F hS hos a b ha hb g hR
  have hof := hof.mono fun e w' h => (show (∃ ad cp, e = .returned (.tuple #[.slice ad (basP os g a b).length cp, .int .i64 0]) ∧ Ids w' ad (basP os g a b).length (basP os g a b)) ∧ Below w.heap.size w w' from by
    obtain ⟨⟨ad, cp, h1, hrow⟩, h2⟩ := h
    obtain ⟨_, _, ee, hI⟩ := own_ids hrow
    cases ee
    exact ⟨⟨ad, cp, h1, hI⟩, h2⟩)
  have hle : (basP os g a b).length ≤ 65536 := Nat.le_trans (List.length_filter_le _ _) (Nat.le_trans (ord_len hR) hos)
  generalize basP os g a b = B at *
  clear hS ha hb hR
  by_cases hB : B = []
  · subst hB
    go_enter Tryz.func18, Tryz.ntmps18
    go_wp2_with (go_at_call 17; refine hof.mono ?_; clear hof; rintro e w1 ⟨⟨ad, cp, rfl, hrow⟩, hB1⟩; have H1 : Hid (Below w.heap.size w w1) := hB1; clear hB1 hrow)
    go_ret2
    exact ⟨rfl, H1.out⟩
  · obtain ⟨n, hn⟩ : ∃ n, B.length = n + 1 := ⟨B.length - 1, by have := List.length_pos_iff.2 hB; omega⟩
    obtain ⟨y, hy⟩ : ∃ y, B[n]? = some y := ⟨_, List.getElem?_eq_getElem (by omega)⟩
    have hlast : B.getLast?.getD 0 = y := by rw [List.getLast?_eq_getElem?, hn, Nat.add_sub_cancel, hy]; rfl
    rw [hlast, if_neg hB]
    rw [hn] at hof hle
    have n2 : (((n + 1 : Nat) : Int) == 0) = false := beq_false_of_ne (by omega)
    have n3 : ((n + 1 : Nat) : Int) - 1 = (n : Int) := by omega
    have n4 : (n : Int) < ((n + 1 : Nat) : Int) := by omega
    have n5 : ¬ n + 1 ≤ n := by omega
    clear hB hlast
    obtain ⟨m, hm⟩ : ∃ m, n + 1 = m := ⟨_, rfl⟩
    rw [hm] at hof n2 n3 n4 n5 hle
    have HM : Hid (n + 1 = m) := hm
    clear hm hn
    have HY : Hid (B[n]? = some y) := hy
    clear hy
    go_enter Tryz.func18, Tryz.ntmps18
    go_wp2_with fail
    refine hof.mono ?_
    clear hof
    rintro e w1 ⟨⟨ad, cp, rfl, hI⟩, hB1⟩
    obtain ⟨b1, o1, hae, hc⟩ := hI.2 (by have := HM.out; omega)
    subst hae
    have q0 := hc n y HY.out
    have H1 : Hid (Below w.heap.size w w1) := hB1
    clear hB1 hI hc
    go_wp2
    go_ret2
    exact ⟨rfl, H1.out⟩

end Go.Proofs.YtncagdfbgpdhfaaGreat
