/- The walk of the law ObjectTrees. -/
import Derived.Test.YtdibdcbihleflaaOBlobsWalk
import Derived.Test.YtdibdcbihleflaaOTree5
namespace Go.Proofs.Ytdibdcbihleflaa
open Go.RowKit

attribute [local go_sem] Oper.semAt_some

abbrev tilde : Ent := (⟨#[126]⟩, false, 0)
/-- what lies in memory: the full row, the argument, the tree -/
structure TF (w : World) (a : Option Addr) (m g c4 bo : Nat) (L : List Ent) (X : World) : Prop where
  full : Ents X (some ⟨g, 0, none⟩) (m + 1) (L ++ [tilde])
  arg : Ents X a m L
  box : Boxed X bo 35 (.slice (some ⟨g, 0, none⟩) m c4)
  bel : Below w.heap.size w X
theorem TF.below {w : World} {a : Option Addr} {m g c4 bo : Nat} {L : List Ent} {X Y : World} (h : TF w a m g c4 bo L X) (hB : Below X.heap.size X Y) : TF w a m g c4 bo L Y :=
  ⟨h.full.below hB, h.arg.below hB, (hB.block _ h.box.lt).trans h.box, h.bel.trans (hB.mono h.bel.size)⟩
theorem TF.alloc {w : World} {a : Option Addr} {m g c4 bo : Nat} {L : List Ent} {X : World} (h : TF w a m g c4 bo L X) (o : Obj) : TF w a m g c4 bo L (X.alloc o) := h.below ((Below.refl _ _).alloc (Nat.le_refl _) _)
theorem TF.pre {w : World} {a : Option Addr} {m g c4 bo : Nat} {L : List Ent} {X : World} (h : TF w a m g c4 bo L X) : Ents X (some ⟨g, 0, none⟩) m L := by
  refine ⟨h.arg.1, fun h0 => ?_⟩
  obtain ⟨b, off, e, hc⟩ := h.full.2 (by omega)
  exact ⟨b, off, e, fun j x hx => hc j x (by rw [List.getElem?_append_left (List.getElem?_eq_some_iff.1 hx).1]; exact hx)⟩
theorem TF.last {w : World} {a : Option Addr} {m g c4 bo : Nat} {L : List Ent} {X : World} (h : TF w a m g c4 bo L X) : X.cell? ⟨g, m * 3, none⟩ = some (.string ⟨#[126]⟩) := by
  obtain ⟨b, off, e, hc⟩ := h.full.2 (by omega)
  cases e
  have hl := h.arg.1
  have := (hc m tilde (by rw [← hl]; simp)).1
  rw [Nat.zero_add] at this
  exact this
theorem ents_lit (w : World) (x : Ent) : Ents (w.alloc (.cells #[.string x.1, .bool x.2.1, .int .u64 x.2.2] 50)) (some ⟨w.heap.size, 0, none⟩) 1 [x] := by
  refine ⟨rfl, fun _ => ⟨_, _, rfl, fun j y hy => ?_⟩⟩
  match j, hy with
  | 0, hy =>
    simp at hy; subst hy
    have := (Box3.new w (.string x.1) (.bool x.2.1) (.int .u64 x.2.2)).cell
    simp only [Nat.zero_mul, Nat.add_zero]
    exact this
theorem own_addr3 {W : World} {B n c : Nat} {ad : Option Addr} {xs : List Value} (h : W.ownsRow B 50 3 (.slice ad n c) n xs) (h0 : 0 < n) : ∃ g, ad = some ⟨g, 0, none⟩ := by
  rcases h.2 with ⟨h', h0⟩ | ⟨g, cap, cur, h', _⟩
  · omega
  · exact ⟨g, by cases h'; rfl⟩
theorem tf_new {w w4 : World} {a : Option Addr} {m g c4 B : Nat} {L : List Ent} (hl : L.length = m) (ho : w4.ownsRow B 50 3 (.slice (some ⟨g, 0, none⟩) (m + 1) c4) (m + 1) (entCells (L ++ [tilde]))) (hB : Below w.heap.size w w4) (hy : Ents w a m L) :
    TF w a m g c4 w4.heap.size L (w4.alloc (.cells #[.slice (some ⟨g, 0, none⟩) m c4] 35)) := by
  have h1 : Below w4.heap.size w4 (w4.alloc (.cells #[.slice (some ⟨g, 0, none⟩) m c4] 35)) := (Below.refl _ _).alloc (Nat.le_refl _) _
  have hB' := hB.trans (h1.mono hB.size)
  exact ⟨(own_ents ho (by simp [hl])).below h1, hy.below hB', Boxed.new _ _ _, hB'⟩
structure TC (w : World) (a : Option Addr) (m g c4 bo : Nat) (L : List Ent) (bc : Nat) (ca : Option Addr) (cc : Nat) (W : World) : Prop where
  old : ∃ X xs, TF w a m g c4 bo L X ∧ Below X.heap.size X W ∧ W.ownsRow X.heap.size 50 3 (.slice ca m cc) m xs
  box : Boxed W bc 35 (.slice ca m cc)
theorem TC.tf {w : World} {a : Option Addr} {m g c4 bo : Nat} {L : List Ent} {bc : Nat} {ca : Option Addr} {cc : Nat} {W : World} (h : TC w a m g c4 bo L bc ca cc W) : TF w a m g c4 bo L W := by
  obtain ⟨X, _, h1, h2, _⟩ := h.old
  exact h1.below h2
theorem TC.at {w : World} {a : Option Addr} {m g c4 bo : Nat} {L : List Ent} {bc : Nat} {ca : Option Addr} {cc : Nat} {W : World} (h : TC w a m g c4 bo L bc ca cc W) (k : Nat) (hk : k < m) :
    ∃ g2 z, ca = some ⟨g2, 0, none⟩ ∧ W.cell? ⟨g2, k * 3, none⟩ = some z ∧ W.frozen? ⟨g2, k * 3, none⟩ = false ∧ ∀ u, TC w a m g c4 bo L bc ca cc (W.setCell ⟨g2, k * 3, none⟩ u) := by
  obtain ⟨X, xs, h1, h2, ho⟩ := h.old
  obtain ⟨g2, rfl⟩ := own_addr3 ho (by omega)
  have hxl := ho.1
  obtain ⟨y, hy⟩ : ∃ y, xs[k * 3]? = some y := ⟨_, List.getElem?_eq_getElem (by omega)⟩
  obtain ⟨hgb, hgl, cur, hcur⟩ := row_block3 ho g2 rfl
  refine ⟨g2, y, rfl, (ho.cellAt (k * 3) (by omega)).trans hy, ho.frozenAt _, fun u => ⟨⟨X, _, h1, h2.setCell (p := ⟨g2, k * 3, none⟩) hgb _, (ho.stored (k * 3) u).1⟩, ?_⟩⟩
  refine (Below.heap_setCell _ _ _ _ ?_).trans h.box
  intro hbe
  have hbb : W.heap[bc]? = some (.cells #[.slice (some ⟨g2, 0, none⟩) m cc] 35) := h.box
  have hbe' : bc = g2 := hbe
  rw [hbe', hcur] at hbb
  cases hbb
theorem kept3 {W W' : World} {B n : Nat} {v : Value} {xs : List Value} {t : TypeId} {z : Nat} (h : W.ownsRow B t z v n xs) (hB : Below W.heap.size W W') : W'.ownsRow B t z v n xs :=
  h.kept (row := none) ⟨hB.os, hB.tape, hB.output, hB.size, fun k hk _ => hB.block k hk⟩ (by cases v.ownBlock <;> simp)
theorem tc_new {w : World} {a : Option Addr} {m g c4 bo : Nat} {L : List Ent} {ca : Option Addr} {cc : Nat} {X W W' : World} (h : TF w a m g c4 bo L X) (ho : W.ownsRow X.heap.size 50 3 (.slice ca m cc) m (entCells L)) (hB : Below X.heap.size X W) (hB' : Below W.heap.size W W') :
    TC w a m g c4 bo L W'.heap.size ca cc (W'.alloc (.cells #[.slice ca m cc] 35)) := by
  have h1 : Below W.heap.size W (W'.alloc (.cells #[.slice ca m cc] 35)) := hB'.alloc hB'.size _
  exact ⟨⟨X, _, h, hB.trans (h1.mono hB.size), kept3 ho h1⟩, Boxed.new _ _ _⟩
theorem TC.below {w : World} {a : Option Addr} {m g c4 bo : Nat} {L : List Ent} {bc : Nat} {ca : Option Addr} {cc : Nat} {W W' : World} (h : TC w a m g c4 bo L bc ca cc W) (hB : Below W.heap.size W W') : TC w a m g c4 bo L bc ca cc W' := by
  obtain ⟨X, xs, h1, h2, ho⟩ := h.old
  exact ⟨⟨X, xs, h1, h2.trans (hB.mono h2.size), kept3 ho hB⟩, (hB.block _ h.box.lt).trans h.box⟩
def treeT (l : List Ent) : List UInt8 := if treeErrs l = 0 then treeB l else []
theorem treeT_len (l : List Ent) (hf : Fields l) : (treeT l).length ≤ 16384 := by
  unfold treeT
  split
  · rename_i h0
    obtain ⟨hl, hF⟩ := fits_of hf h0
    have h1 := entsB_len l hF l.length (Nat.le_refl _)
    rw [List.take_length] at h1
    have h2 := short_len l.length
    simp only [treeB, List.length_cons, List.length_append]
    omega
  · simp
def treeI (l : List Ent) : List Int := if treeErrs l = 0 then idsOf l else []
theorem treeI_len (l : List Ent) : (treeI l).length ≤ l.length := by
  unfold treeI
  split <;> simp [idsOf]
theorem Ents.take {w : World} {a : Option Addr} {n : Nat} {l : List Ent} (h : Ents w a n l) (m : Nat) (hm : m ≤ n) : Ents w a m (l.take m) := by
  refine ⟨by simp [h.1]; omega, fun h0 => ?_⟩
  obtain ⟨b, off, e, hc⟩ := h.2 (by omega)
  refine ⟨b, off, e, fun j x hx => hc j x ?_⟩
  rw [List.getElem?_take] at hx
  split at hx
  · exact hx
  · cases hx
theorem Fields.take {l : List Ent} (h : Fields l) (m : Nat) : Fields (l.take m) := by
  have up : ∀ (j : Nat) x, (l.take m)[j]? = some x → l[j]? = some x := fun j x hx => by
    rw [List.getElem?_take] at hx
    split at hx
    · exact hx
    · cases hx
  exact ⟨fun j x hx => h.name j x (up j x hx), fun j x hx => h.id j x (up j x hx)⟩

theorem field_tree (v : Value) (W : World) : (Instr.field 35 (.agg #[v]) 0).run Try.prog W = .ok v W := by
  kernel_rfl

set_option maxRecDepth 100000 in
set_option maxHeartbeats 8000000 in
theorem objectTrees_walk (a : Option Addr) (n c : Nat) (l : List Ent) (w : World) (hb : Ents w a n l) (hf0 : Fields l) (hnc : n ≤ c) (hnil : a = none → n = 0 ∧ c = 0) :
    Calls Try.prog 4 #[.slice a n c] w fun e w' => e = .returned (.bool true) ∧ Below w.heap.size w w' := by
  obtain ⟨i0, hi0, hzz0, hzz1, hzz2⟩ := info_parts infoEntry
  obtain ⟨j0, hj0, hjz0, hjz1, hjz2⟩ := info_parts infoId
  obtain ⟨m, hm⟩ : ∃ m, m = min n 259 := ⟨_, rfl⟩
  have im : (m : Int) ≤ (c : Int) := by omega
  have HM : Hid (m = min n 259) := hm
  have hm9 : m ≤ 259 := by omega
  have HY : Hid (Ents w a m (l.take m)) := hb.take m (by omega)
  have HN : Hid (a = none → m = 0 ∧ c = 0) := fun h => by have := hnil h; omega
  have HF : Hid (Fields (l.take m)) := hf0.take m
  have hlt : (l.take m).length = m := HY.out.1
  generalize l.take m = L at HY hlt HF
  clear hm hb hnil hf0
  have hTl := treeT_len L HF.out
  have hIl := treeI_len L
  have HRT : Hid (∀ W, Ents W a m L → Calls Try.prog 17 #[.slice a m c] W fun e w' => ∃ xa xc, e = .returned (.tuple #[.slice xa (treeT L).length xc, .int .i64 (treeErrs L)]) ∧ Bytes w' xa (treeT L).length (treeT L) ∧ Below W.heap.size W w') := fun W h => (refTree_any a m c L W h HF.out (by omega)).mono fun e w' ⟨v, he, ho, hB⟩ => by
    have ho' : OwnB W.heap.size (treeT L) v w' := ho
    obtain ⟨xa, xc, rfl, _⟩ := ho'.shape rfl
    exact ⟨xa, xc, he, ho'.bytes rfl, hB⟩
  have HSp : Hid (∀ W ad cp, Ents W ad m L → Speaks (trV ad m cp) 2 (treeT L) (treeErrs L) (treeI L) W) := fun W ad cp h => tree_speaks ad m cp L W h HF.out (by omega)
  have HI : Hid (∀ W la, Ids W la m (idsOf L) → if treeErrs L = 0 then Ids W la m (treeI L) else treeI L = []) := fun W la h => by
    unfold treeI
    by_cases h0 : treeErrs L = 0
    · rw [if_pos h0, if_pos h0]; exact h
    · rw [if_neg h0, if_neg h0]
  generalize treeErrs L = E at HRT HSp HI
  generalize treeT L = T at HRT HSp hTl
  generalize treeI L = IDS at HSp HI hIl
  obtain ⟨XN, hXN⟩ : ∃ XN, XN = T.length := ⟨_, rfl⟩
  rw [← hXN] at HRT hTl
  clear hXN
  have hfd := field_tree
  go_enter Try.func4, Try.ntmps4
  go_wp2_with first
    | (go_at_call 9; refine (wakes_any _).mono ?_; rintro e w1 ⟨rfl, hB1⟩)
    | (refine wpList_min _ rfl _ _ rfl n 259 _ rfl rfl rfl ?_; rw [← HM.out])
    | (at_make; refine wpList_make_own _ rfl _ _ 33 rfl w1.heap.size 50 i0 _ 3 Try.underlying33 hi0 hzz0 hzz1 _ _ _ (m + 9) rfl rfl (by simp) (by rw [hzz2]; omega) (by unfold maxLen; omega) (Nat.le_refl _) ?_; intro w2 ho2 hg2; have hB2 : Below w1.heap.size w1 w2 := (Below.refl _ w1).grown hg2 (Nat.le_refl _) (by simp); have hy2 := HY.out.below (hB1.trans (hB2.mono hB1.size)); clear hg2)
    | (at_builtin; refine wpList_app3 _ w1.heap.size hB2.size rfl _ _ rfl _ 0 [] rfl ho2 a m c L rfl hy2 HN.out (by omega) ?_; intro v3 w3 ho3 hg3; have hB3 : Below w1.heap.size w1 w3 := hB2.trans (below_gr3 ho2 hB2.size hg3); simp only [Nat.zero_add, List.nil_append] at ho3; obtain ⟨ad3, c3, hv3, _⟩ := row_shape3 ho3; subst hv3; clear ho2 hg3 hy2 hB2)
    | (at_builtin; refine wpList_app3 _ w1.heap.size (by simp; have := hB3.size; omega) rfl _ _ rfl _ m _ rfl (ho3.alloc _) (some ⟨w3.heap.size, 0, none⟩) 1 1 [tilde] rfl (ents_lit w3 tilde) (fun h => by cases h) (by omega) ?_; intro v4 w4 ho4 hg4; have hB4 : Below w1.heap.size w1 w4 := (hB3.alloc hB3.size _).trans (below_gr3 (ho3.alloc _) (by simp; have := hB3.size; omega) hg4); obtain ⟨ad4, c4, hv4, hc4, hn4⟩ := row_shape3 ho4; subst hv4; obtain ⟨g, hg⟩ := own_addr3 ho4 (by omega); subst hg; have F5 : Hid (TF w a m g c4 w4.heap.size L (w4.alloc (.cells #[.slice (some ⟨g, 0, none⟩) m c4] 35))) := tf_new hlt ho4 (hB1.trans (hB4.mono hB1.size)) HY.out; clear ho3 hg4 hB3 ho4 hn4 hB4 hB1)
    | (go_at_call 17; refine (HRT.out _ F5.out.arg).mono ?_; clear HRT; rintro e w6 ⟨xa, xc, rfl, hx6, hB6⟩; have F6 : Hid (TF w a m g c4 w4.heap.size L w6 ∧ Bytes w6 xa XN T) := ⟨F5.out.below hB6, hx6⟩; clear F5 hB6 hx6)
  have H0 : Hid (w6.ownsRow w6.heap.size 39 1 (.slice none 0 0) 0 ((idsOf (L.take 0)).map (Value.int .u64)) ∧ Below w6.heap.size w6 w6) := ⟨World.ownsRow_nil _ _ _ _, Below.refl _ _⟩
  go_loopw [7, 46] (fun v i wr => ∃ (k : Nat) (ad : Option Addr) (cp : Nat), k ≤ m ∧ i = .int .i64 (k : Int) ∧ v = .slice ad k cp ∧ Hid (wr.ownsRow w6.heap.size 39 1 (.slice ad k cp) k ((idsOf (L.take k)).map (Value.int .u64)) ∧ Below w6.heap.size w6 wr)) (fun _ i _ => m - (intOf i).toNat)
  case atStart => exact ⟨0, none, 0, Nat.zero_le _, rfl, rfl, H0.out⟩
  case round =>
    clear H0
    obtain ⟨k, ad, cp, hk, rfl, rfl, H⟩ := hrel
    by_cases hkm : k < m
    · obtain ⟨x, hx⟩ : ∃ x, L[k]? = some x := ⟨_, List.getElem?_eq_getElem (by omega)⟩
      have hBw := H.out.2
      obtain ⟨b1, o1, hab, hc1⟩ := (F6.out.1.arg.below hBw).2 (by omega)
      subst hab
      obtain ⟨q1, q2, q3⟩ := hc1 k x hx
      have i2 : (k : Int) < (m : Int) := by omega
      have i3 : ¬ m ≤ k := by omega
      have HT : Hid (idsOf (L.take (k + 1)) = idsOf (L.take k) ++ [x.2.2]) := idsOf_take L k x hx
      obtain ⟨nm, fo, id⟩ := x
      simp only at q1 q2 q3 HT
      have hsw := hBw.size
      have ho := (H.out.1.alloc (.cells #[.string nm, .bool fo, .int .u64 id] 50)).alloc (.cells #[.int .u64 id] 39)
      have HB2 : Hid (Below w6.heap.size w6 ((wr.alloc (.cells #[.string nm, .bool fo, .int .u64 id] 50)).alloc (.cells #[.int .u64 id] 39))) := (hBw.alloc hBw.size _).alloc (by simp; omega) _
      clear hc1 hx hBw H
      go_wp2_with (at_builtin; refine wpList_append_own _ rfl _ _ 40 rfl w6.heap.size 39 j0 (.int .u64 0) 1 8 Try.underlying40 hj0 hjz0 hjz1 hjz2 rfl (by decide) _ k _ rfl ho ⟨_, 0, none⟩ 1 1 [.int .u64 id] rfl rfl (by simpa using cells_one (wr.alloc (.cells #[.string nm, .bool fo, .int .u64 id] 50)) 39 (.int .u64 id)) (by simp [Value.oneCell']) (by unfold maxLen; omega) (by omega) (by simp; omega) ?_; intro v' x5 hown5 hgr5 _; have H5 : Hid (x5.ownsRow w6.heap.size 39 1 v' (k + 1) ((idsOf (L.take (k + 1))).map (Value.int .u64)) ∧ Below w6.heap.size w6 x5) := ⟨by rw [HT.out, List.map_append]; exact hown5, HB2.out.trans (below_gr ho (by simp; omega) hgr5)⟩; obtain ⟨ad5, cp5, hv5, _⟩ := row_shape hown5; subst hv5; clear hown5 hgr5 ho)
      go_roundw
      case rel => exact ⟨k + 1, ad5, cp5, by omega, by simp, rfl, H5.out⟩
      case measure => simp [intOf]; omega
    · obtain rfl : k = m := by omega
      have i2 : ¬ (k : Int) < (k : Int) := by omega
      have F7 : Hid (TF w a k g c4 w4.heap.size L wr ∧ Bytes wr xa XN T ∧ Ids wr ad k (idsOf L)) := ⟨F6.out.1.below H.out.2, bytes_below F6.out.2 H.out.2, by
        have h1 := H.out.1
        rw [List.take_of_length_le (by omega)] at h1
        have hkl : (idsOf L).length = k := by simp [idsOf, hlt]
        rw [← hkl] at h1 ⊢
        obtain ⟨ad', c', e, hI⟩ := own_ids h1
        cases e
        exact hI⟩
      have cb7 := F7.out.1.box.cell
      clear F6 H
      go_wp2_with first
        | (go_at_call 11; refine (says_any _ 2 T E IDS _ (HSp.out _ (some ⟨g, 0, none⟩) c4 F7.out.1.pre) xa XN xc F7.out.2.1 (by omega) ad k cp (HI.out _ _ F7.out.2.2) (by omega)).mono ?_; rintro e w8 ⟨rfl, hB8⟩; have F8 : Hid (TF w a k g c4 w4.heap.size L w8) := F7.out.1.below hB8; have p8 := F8.out.pre; have q8 := F8.out.arg; clear F7 hB8 cb7 HSp HI)
        | (go_at_call 18; refine (entries_like _ (some ⟨g, 0, none⟩) a k c4 c L p8 q8 (by omega)).mono ?_; rintro e w9 ⟨rfl, hB9⟩; have F9 : Hid (TF w a k g c4 w4.heap.size L w9) := F8.out.below hB9; have s9 := F9.out.last; have cb9 := F9.out.box.cell; clear p8 q8 hB9 F8)
        | (go_at_call 14; refine (Tree_any (some ⟨g, 0, none⟩) k c4 _).mono ?_; rintro e w10 ⟨rfl, hB10⟩; have F10 : Hid (TF w a k g c4 w4.heap.size L (w10.alloc (.cells #[.slice (some ⟨g, 0, none⟩) k c4] 35)) ∧ Boxed (w10.alloc (.cells #[.slice (some ⟨g, 0, none⟩) k c4] 35)) w10.heap.size 35 (.slice (some ⟨g, 0, none⟩) k c4)) := ⟨(F9.out.below hB10).alloc _, Boxed.new _ _ _⟩; have cb10 := F10.out.1.box.cell; clear F9 hB10 cb9 s9)
        | (go_at_call 13; refine (Blob_not 35 _ (by decide) _).mono ?_; rintro e w11 ⟨rfl, hB11⟩; have F11 : Hid (TF w a k g c4 w4.heap.size L (w11.alloc (.cells #[.slice none 0 0] 25)) ∧ Boxed (w11.alloc (.cells #[.slice none 0 0] 25)) w10.heap.size 35 (.slice (some ⟨g, 0, none⟩) k c4)) := ⟨(F10.out.1.below hB11).alloc _, Boxed.alloc ((hB11.block _ F10.out.2.lt).trans F10.out.2) _⟩; have cb11 := F11.out.1.box.cell; clear F10 hB11 cb10)
        | (go_at_call 15; refine (Commit_not 35 _ (by decide) _).mono ?_; rintro e w12 ⟨rfl, hB12⟩; have F12 : Hid (TF w a k g c4 w4.heap.size L (w12.alloc (.cells #[.int .u64 0, .slice none 0 0, .string ⟨#[]⟩, .int .i64 0, .string ⟨#[]⟩] 42)) ∧ Boxed (w12.alloc (.cells #[.int .u64 0, .slice none 0 0, .string ⟨#[]⟩, .int .i64 0, .string ⟨#[]⟩] 42)) w10.heap.size 35 (.slice (some ⟨g, 0, none⟩) k c4)) := ⟨(F11.out.1.below hB12).alloc _, Boxed.alloc ((hB12.block _ F11.out.2.lt).trans F11.out.2) _⟩; have cx12 := F12.out.2.cell; have p12 := F12.out.1.pre; have q12 := F12.out.1.arg; clear F11 hB12 cb11)
        | (go_at_call 18; refine (entries_like _ (some ⟨g, 0, none⟩) a k c4 c L p12 q12 (by omega)).mono ?_; rintro e w13 ⟨rfl, hB13⟩; have F13 : Hid (TF w a k g c4 w4.heap.size L w13) := F12.out.1.below hB13; have cb13 := F13.out.box.cell; clear p12 q12 hB13 F12 cx12)
        | (go_at_call 19; refine (must_tree_any (some ⟨g, 0, none⟩) k c4 _).mono ?_; rintro e w14 ⟨rfl, hB14⟩; have F14 : Hid (TF w a k g c4 w4.heap.size L w14) := F13.out.below hB14; have p14 := F14.out.pre; have q14 := F14.out.arg; clear F13 hB14 cb13)
        | (go_at_call 18; refine (entries_like _ (some ⟨g, 0, none⟩) a k c4 c L p14 q14 (by omega)).mono ?_; rintro e w15 ⟨rfl, hB15⟩; have F15 : Hid (TF w a k g c4 w4.heap.size L w15) := F14.out.below hB15; have cb15 := F15.out.box.cell; have p15 := F15.out.pre; clear p14 q14 hB15 F14)
        | (go_at_call 16; refine (Copy_tree (some ⟨g, 0, none⟩) k c4 L _ p15 (fun h => by cases h) (by omega)).mono ?_; rintro e w16 ⟨ca, cc, rfl, hO16, hB16⟩; have G16 : Hid (∀ w17, Below w16.heap.size w16 w17 → TC w a k g c4 w4.heap.size L w17.heap.size ca cc (w17.alloc (.cells #[.slice ca k cc] 35)) ∧ Ents (w17.alloc (.cells #[.slice ca k cc] 35)) ca k L) := fun w17 h => ⟨tc_new F15.out hO16 hB16 h, (own_ents hO16 hlt).below (h.alloc h.size _)⟩; clear F15 p15 cb15 hO16 hB16)
        | (go_at_call 14; refine (Tree_any ca k cc _).mono ?_; rintro e w17 ⟨rfl, hB17⟩; obtain ⟨h17, y17⟩ := G16.out _ hB17; have C17 : Hid (TC w a k g c4 w4.heap.size L w17.heap.size ca cc (w17.alloc (.cells #[.slice ca k cc] 35))) := h17; have cb17 := h17.box.cell; have q17 := h17.tf.arg; clear h17 G16 hB17)
        | (go_at_call 18; refine (entries_like _ ca a k cc c L y17 q17 (by omega)).mono ?_; rintro e w18 ⟨rfl, hB18⟩; have C18 : Hid (TC w a k g c4 w4.heap.size L w17.heap.size ca cc w18) := C17.out.below hB18; have cb18 := C18.out.box.cell; clear q17 y17 C17 cb17 hB18)
      go_loopw [142] (fun j wr => ∃ i : Nat, i ≤ k ∧ j = .int .i64 (i : Int) ∧ Hid (TC w a k g c4 w4.heap.size L w17.heap.size ca cc wr)) (fun j _ => k - (intOf j).toNat)
      case atStart => exact ⟨0, Nat.zero_le _, rfl, C18.out⟩
      case round =>
        clear C18 cb18
        obtain ⟨i, hi, rfl, H⟩ := hrel
        have cb := H.out.box.cell
        by_cases hik : i < k
        · obtain ⟨g2, z, hca, cz, fz, H2⟩ := H.out.at i hik
          subst hca
          have HH : Hid (∀ u, TC w a k g c4 w4.heap.size L w17.heap.size (some ⟨g2, 0, none⟩) cc (wr.setCell ⟨g2, i * 3, none⟩ u)) := H2
          have i4 : (i : Int) < (k : Int) := by omega
          have i5 : ¬ k ≤ i := by omega
          clear H H2
          go_wp2
          go_roundw
          case rel => exact ⟨i + 1, by omega, by simp, HH.out _⟩
          case measure => simp [intOf]; omega
        · obtain rfl : i = k := by omega
          have i4 : ¬ (i : Int) < (i : Int) := by omega
          have p19 := H.out.tf.pre
          have q19 := H.out.tf.arg
          go_wp2_with first
            | (go_at_call 18; refine (entries_like _ (some ⟨g, 0, none⟩) a i c4 c L p19 q19 (by omega)).mono ?_; rintro e w20 ⟨rfl, hB20⟩; have F20 := H.out.tf.below hB20)
            | (go_at_call 9; refine (wakes_any _).mono ?_; rintro e w21 ⟨rfl, hB21⟩)
          go_ret
          exact ⟨rfl, (F20.below hB21).bel⟩
end Go.Proofs.Ytdibdcbihleflaa
