/- The walk of the law ObjectBlobs. -/
import Derived.Test.YtdibdcbihleflaaOBlob3
namespace Go.Proofs.Ytdibdcbihleflaa
open Go.RowKit

attribute [local go_sem] Oper.semAt_some

theorem run_min (ty : TypeId) (n k : Nat) (w : World) : (Builtin.min_ #[3, 3] ty #[.int .i64 (n : Int), .int .i64 (k : Int)]).run Try.prog w = .ok (.int .i64 ((min n k : Nat) : Int)) w := by
  have hm : (min n k : Nat) = if k < n then k else n := by split <;> omega
  rw [hm]
  by_cases hkn : k < n
  · have i1 : (k : Int) < (n : Int) := by omega
    rw [if_pos hkn]
    simp [Builtin.min_, Builtin.min2, go_sem, i1]
  · have i1 : ¬ (k : Int) < (n : Int) := by omega
    rw [if_neg hkn]
    simp [Builtin.min_, Builtin.min2, go_sem, i1]
theorem wpList_min (w : World) {ops : Array Oper} {rest : List Oper} {o : Oper} {a : Act} {Q : Exit → Act → World → Prop} (hgd : o.guard = none) (x y : Operand)
    (ho : o.op = .call { callee := .builtin .min, args := #[x, y], argTypes := #[3, 3] }) (n k : Nat) (K : Int) (hx : a.eval x = .int .i64 (n : Int)) (hy : a.eval y = .int .i64 K) (hk : K = (k : Int))
    (h : wpList Try.prog ops Q rest (a.put o.dst (.int .i64 ((min n k : Nat) : Int))) w) : wpList Try.prog ops Q (o :: rest) a w := by
  refine wpList_plain hgd fun K hK => ?_
  subst hk
  unfold Oper.wp execOp
  simp only [ho, resolve, invoke, builtin, Sem.run_bind, Sem.run_pure, Result.andThen_ok, List.map_toArray, List.map_cons, List.map_nil, hx, hy, run_min]
  exact hK _ _ h

/-- what lies in memory: the full row, the argument, the blob -/
structure BF (w : World) (a : Option Addr) (m g c4 bo : Nat) (L : List UInt8) (X : World) : Prop where
  full : Bytes X (some ⟨g, 0, none⟩) (m + 2) (L ++ [7, 7])
  arg : Bytes X a m L
  box : Boxed X bo 25 (.slice (some ⟨g, 0, none⟩) m c4)
  bel : Below w.heap.size w X
theorem BF.below {w : World} {a : Option Addr} {m g c4 bo : Nat} {L : List UInt8} {X Y : World} (h : BF w a m g c4 bo L X) (hB : Below X.heap.size X Y) : BF w a m g c4 bo L Y :=
  ⟨bytes_below h.full hB, bytes_below h.arg hB, (hB.block _ h.box.lt).trans h.box, h.bel.trans (hB.mono h.bel.size)⟩
theorem BF.pre {w : World} {a : Option Addr} {m g c4 bo : Nat} {L : List UInt8} {X : World} (h : BF w a m g c4 bo L X) : Bytes X (some ⟨g, 0, none⟩) m L := by
  have h1 := h.full.take m (by omega)
  have hl := h.arg.1
  rw [List.take_append_of_le_length (by omega), List.take_of_length_le (by omega)] at h1
  exact h1
theorem BF.seven {w : World} {a : Option Addr} {m g c4 bo : Nat} {L : List UInt8} {X : World} (h : BF w a m g c4 bo L X) : X.cell? ⟨g, m, none⟩ = some (.int .u8 7) := by
  obtain ⟨b, off, e, hc⟩ := h.full.2 (by omega)
  cases e
  have := hc m (by omega)
  have hl := h.arg.1
  have e7 : bt (L ++ [7, 7]) m = 7 := by
    unfold bt
    rw [← hl]
    simp
  rw [e7, Nat.zero_add] at this
  exact this
theorem own_addr {W : World} {B n c : Nat} {ad : Option Addr} {xs : List Value} (h : W.ownsRow B 5 1 (.slice ad n c) n xs) (h0 : 0 < n) : ∃ g, ad = some ⟨g, 0, none⟩ := by
  rcases h.2 with ⟨h', h0⟩ | ⟨g, cap, cur, h', _⟩
  · omega
  · exact ⟨g, by cases h'; rfl⟩
theorem bf_new {w w4 : World} {a : Option Addr} {m g c4 B : Nat} {L : List UInt8} (ho : w4.ownsRow B 5 1 (.slice (some ⟨g, 0, none⟩) (m + 2) c4) (m + 2) (cellsOf (L ++ [7, 7]))) (hB : Below w.heap.size w w4) (hy : Bytes w a m L) :
    BF w a m g c4 w4.heap.size L (w4.alloc (.cells #[.slice (some ⟨g, 0, none⟩) m c4] 25)) := by
  have h1 : Below w4.heap.size w4 (w4.alloc (.cells #[.slice (some ⟨g, 0, none⟩) m c4] 25)) := (Below.refl _ _).alloc (Nat.le_refl _) _
  have hB' := hB.trans (h1.mono hB.size)
  exact ⟨bytes_below (row_bytes ho) h1, bytes_below hy hB', Boxed.new _ _ _, hB'⟩
theorem BF.alloc {w : World} {a : Option Addr} {m g c4 bo : Nat} {L : List UInt8} {X : World} (h : BF w a m g c4 bo L X) (o : Obj) : BF w a m g c4 bo L (X.alloc o) := h.below ((Below.refl _ _).alloc (Nat.le_refl _) _)
def OwnX (B : Nat) (v : Value) (n : Nat) (W : World) : Prop := ∃ xs, W.ownsRow B 5 1 v n xs ∧ ∀ x ∈ xs, ∃ z, x = .int .u8 z
/-- while the copy's bytes are written: what lay there at its making, its row, its box -/
structure CI (w : World) (a : Option Addr) (m g c4 bo : Nat) (L : List UInt8) (bc : Nat) (ca : Option Addr) (cc : Nat) (W : World) : Prop where
  old : ∃ X, BF w a m g c4 bo L X ∧ Below X.heap.size X W ∧ OwnX X.heap.size (.slice ca m cc) m W
  box : Boxed W bc 25 (.slice ca m cc)
theorem CI.bf {w : World} {a : Option Addr} {m g c4 bo : Nat} {L : List UInt8} {bc : Nat} {ca : Option Addr} {cc : Nat} {W : World} (h : CI w a m g c4 bo L bc ca cc W) : BF w a m g c4 bo L W := by
  obtain ⟨X, h1, h2, _⟩ := h.old
  exact h1.below h2
theorem CI.at {w : World} {a : Option Addr} {m g c4 bo : Nat} {L : List UInt8} {bc : Nat} {ca : Option Addr} {cc : Nat} {W : World} (h : CI w a m g c4 bo L bc ca cc W) (k : Nat) (hk : k < m) :
    ∃ g2 z, ca = some ⟨g2, 0, none⟩ ∧ W.cell? ⟨g2, k, none⟩ = some (.int .u8 z) ∧ W.frozen? ⟨g2, k, none⟩ = false ∧ ∀ e, CI w a m g c4 bo L bc ca cc (W.setCell ⟨g2, k, none⟩ (.int .u8 e)) := by
  obtain ⟨X, h1, h2, xs, ho, hz⟩ := h.old
  obtain ⟨g2, rfl⟩ := own_addr ho (by omega)
  have hxl := ho.1
  obtain ⟨y, hy⟩ : ∃ y, xs[k]? = some y := ⟨_, List.getElem?_eq_getElem (by omega)⟩
  obtain ⟨z, rfl⟩ := hz y (List.mem_of_getElem? hy)
  obtain ⟨hgb, hgl, cur, hcur⟩ := row_block ho g2 rfl
  refine ⟨g2, z, rfl, (ho.cellAt k (by omega)).trans hy, ho.frozenAt k, fun e => ⟨⟨X, h1, h2.setCell (p := ⟨g2, k, none⟩) hgb _, _, (ho.stored k (.int .u8 e)).1, fun x hx => ?_⟩, ?_⟩⟩
  · rcases List.mem_or_eq_of_mem_set hx with hx | rfl
    · exact hz x hx
    · exact ⟨e, rfl⟩
  · refine (Below.heap_setCell _ _ _ _ ?_).trans h.box
    intro hbe
    have hbb : W.heap[bc]? = some (.cells #[.slice (some ⟨g2, 0, none⟩) m cc] 25) := h.box
    have hbe' : bc = g2 := hbe
    rw [hbe', hcur] at hbb
    cases hbb
theorem ci_new {w : World} {a : Option Addr} {m g c4 bo : Nat} {L : List UInt8} {ca : Option Addr} {cc : Nat} {X W W' : World} (h : BF w a m g c4 bo L X) (hl : L.length = m) (ho : OwnB X.heap.size L (.slice ca m cc) W) (hB : Below X.heap.size X W) (hB' : Below W.heap.size W W') :
    CI w a m g c4 bo L W'.heap.size ca cc (W'.alloc (.cells #[.slice ca m cc] 25)) := by
  have h1 : Below W.heap.size W (W'.alloc (.cells #[.slice ca m cc] 25)) := hB'.alloc hB'.size _
  have ho' : W.ownsRow X.heap.size 5 1 (.slice ca m cc) m (cellsOf L) := by have := ho.row; rw [hl] at this; exact this
  refine ⟨⟨X, h, hB.trans (h1.mono hB.size), _, ho'.kept (row := none) ⟨h1.os, h1.tape, h1.output, h1.size, fun k hk _ => h1.block k hk⟩ (by cases (Value.slice ca m cc).ownBlock <;> simp), fun x hx => ?_⟩, Boxed.new _ _ _⟩
  unfold cellsOf at hx
  obtain ⟨y, _, rfl⟩ := List.mem_map.1 hx
  exact ⟨_, rfl⟩

set_option maxRecDepth 100000 in
set_option maxHeartbeats 8000000 in
theorem objectBlobs_walk (a : Option Addr) (n c : Nat) (l : List UInt8) (w : World) (hb : Bytes w a n l) (hnc : n ≤ c) (hnil : a = none → n = 0 ∧ c = 0) :
    Calls Try.prog 3 #[.slice a n c] w fun e w' => e = .returned (.bool true) ∧ Below w.heap.size w w' := by
  obtain ⟨i0, hi0, hzz0, hzz1, hzz2⟩ := info_parts Try.info5
  obtain ⟨m, hm⟩ : ∃ m, m = min n 4105 := ⟨_, rfl⟩
  have im : (m : Int) ≤ (c : Int) := by omega
  have HM : Hid (m = min n 4105) := hm
  have hm9 : m ≤ 4105 := by omega
  have HY : Hid (Bytes w a m (l.take m)) := hb.take m (by omega)
  have HN : Hid (a = none → m = 0 ∧ c = 0) := fun h => by have := hnil h; omega
  have hlt : (l.take m).length = m := HY.out.1
  generalize l.take m = L at HY hlt
  clear hm hb hnil
  go_enter Try.func3, Try.ntmps3
  go_wp2_with first
    | (go_at_call 9; refine (wakes_any _).mono ?_; rintro e w1 ⟨rfl, hB1⟩)
    | (refine wpList_min _ rfl _ _ rfl n 4105 _ rfl rfl rfl ?_; rw [← HM.out])
    | (at_make; refine wpList_make_own _ rfl _ _ 22 rfl w1.heap.size 5 i0 (.int .u8 0) 1 Try.underlying22 hi0 hzz0 hzz1 _ _ _ (m + 9) rfl rfl (by simp) (by rw [hzz2]; omega) (by unfold maxLen; omega) (Nat.le_refl _) ?_; intro w2 ho2 hg2; have hB2 : Below w1.heap.size w1 w2 := (Below.refl _ w1).grown hg2 (Nat.le_refl _) (by simp); have hy2 := bytes_below HY.out (hB1.trans (hB2.mono hB1.size)); clear hg2)
    | (at_builtin; refine wpList_app _ w1.heap.size hB2.size rfl _ _ rfl _ 0 [] rfl ho2 a m c L rfl hy2 HN.out (by omega) ?_; intro v3 w3 ho3 hg3 _; have hB3 : Below w1.heap.size w1 w3 := hB2.trans (below_gr ho2 hB2.size hg3); simp only [Nat.zero_add, List.nil_append] at ho3; obtain ⟨ad3, c3, hv3, _⟩ := row_shape ho3; subst hv3; clear ho2 hg3 hy2 hB2)
    | (at_builtin; refine wpList_app _ w1.heap.size (by simp; have := hB3.size; omega) rfl _ _ rfl _ m _ rfl (ho3.alloc _) (some ⟨w3.heap.size, 0, none⟩) 2 2 [7, 7] rfl (bytes_new w3 [7, 7] _ rfl) (fun h => by cases h) (by omega) ?_; intro v4 w4 ho4 hg4 _; have hB4 : Below w1.heap.size w1 w4 := (hB3.alloc hB3.size _).trans (below_gr (ho3.alloc _) (by simp; have := hB3.size; omega) hg4); rw [← cellsOf_append] at ho4; obtain ⟨ad4, c4, hv4, hc4, hn4⟩ := row_shape ho4; subst hv4; obtain ⟨g, hg⟩ := own_addr ho4 (by omega); subst hg; have F5 : Hid (BF w a m g c4 w4.heap.size L (w4.alloc (.cells #[.slice (some ⟨g, 0, none⟩) m c4] 25))) := bf_new ho4 (hB1.trans (hB4.mono hB1.size)) HY.out; clear ho3 hg4 hB3 ho4 hn4 hB4 hB1)
    | (go_at_call 10; refine (refBlob_any a m c L _ F5.out.arg HN.out).mono ?_; rintro e w6 ⟨xa, xc, rfl, hx6, hB6⟩; have F6 : Hid (BF w a m g c4 w4.heap.size L w6) := F5.out.below hB6; have cb6 := F6.out.box.cell; clear F5 hB6)
    | (go_at_call 11; refine (says_any _ 1 _ _ [] _ (blob_speaks (some ⟨g, 0, none⟩) m c4 L _ F6.out.pre (fun h => by cases h)) xa (blobN m) xc hx6 (by unfold blobN; split <;> omega) none 0 0 (by split; exact ⟨rfl, fun h => absurd h (by omega)⟩; rfl) (by simp)).mono ?_; rintro e w7 ⟨rfl, hB7⟩; have F7 : Hid (BF w a m g c4 w4.heap.size L w7) := F6.out.below hB7; have p7 := F7.out.pre; have q7 := F7.out.arg; have s7 := F7.out.seven; have cb7 := F7.out.box.cell; clear F6 hB7 hx6 cb6)
    | (go_at_call 12; refine (equal_yes _ (some ⟨g, 0, none⟩) a m m c4 c L p7 q7).mono ?_; rintro e w7' ⟨rfl, h⟩; subst h; clear p7 q7)
    | (go_at_call 13; refine (Blob_any (some ⟨g, 0, none⟩) m c4 _).mono ?_; rintro e w8 ⟨rfl, hB8⟩; have F8 : Hid (BF w a m g c4 w4.heap.size L (w8.alloc (.cells #[.slice (some ⟨g, 0, none⟩) m c4] 25)) ∧ Boxed (w8.alloc (.cells #[.slice (some ⟨g, 0, none⟩) m c4] 25)) w8.heap.size 25 (.slice (some ⟨g, 0, none⟩) m c4)) := ⟨(F7.out.below hB8).alloc _, Boxed.new _ _ _⟩; have cb8 := F8.out.1.box.cell; clear F7 hB8 cb7 s7)
    | (go_at_call 14; refine (Tree_not 25 _ (by decide) _).mono ?_; rintro e w10 ⟨rfl, hB10⟩; have F10 : Hid (BF w a m g c4 w4.heap.size L (w10.alloc (.cells #[.slice none 0 0] 35)) ∧ Boxed (w10.alloc (.cells #[.slice none 0 0] 35)) w8.heap.size 25 (.slice (some ⟨g, 0, none⟩) m c4)) := ⟨(F8.out.1.below hB10).alloc _, Boxed.alloc ((hB10.block _ F8.out.2.lt).trans F8.out.2) _⟩; have cb10 := F10.out.1.box.cell; clear F8 hB10 cb8)
    | (go_at_call 15; refine (Commit_not 25 _ (by decide) _).mono ?_; rintro e w12 ⟨rfl, hB12⟩; have F12 : Hid (BF w a m g c4 w4.heap.size L (w12.alloc (.cells #[.int .u64 0, .slice none 0 0, .string ⟨#[]⟩, .int .i64 0, .string ⟨#[]⟩] 42)) ∧ Boxed (w12.alloc (.cells #[.int .u64 0, .slice none 0 0, .string ⟨#[]⟩, .int .i64 0, .string ⟨#[]⟩] 42)) w8.heap.size 25 (.slice (some ⟨g, 0, none⟩) m c4)) := ⟨(F10.out.1.below hB12).alloc _, Boxed.alloc ((hB12.block _ F10.out.2.lt).trans F10.out.2) _⟩; have cb12 := F12.out.1.box.cell; have cx12 := F12.out.2.cell; have p12 := F12.out.1.pre; have q12 := F12.out.1.arg; clear F10 hB12 cb10)
    | (go_at_call 12; refine (equal_yes _ (some ⟨g, 0, none⟩) a m m c4 c L p12 q12).mono ?_; rintro e w12' ⟨rfl, h⟩; subst h; clear q12)
    | (go_at_call 16; refine (Copy_blob (some ⟨g, 0, none⟩) m c4 L _ p12 (fun h => by cases h) (by omega)).mono ?_; rintro e w14 ⟨ca, cc, rfl, hO14, hB14⟩; have G14 : Hid (∀ w15, Below w14.heap.size w14 w15 → CI w a m g c4 w4.heap.size L w15.heap.size ca cc (w15.alloc (.cells #[.slice ca m cc] 25)) ∧ Bytes (w15.alloc (.cells #[.slice ca m cc] 25)) ca m L) := fun w15 h => ⟨ci_new F12.out.1 hlt hO14 hB14 h, bytes_below (hO14.bytes hlt) (h.alloc h.size _)⟩; clear F12 p12 cb12 cx12 hO14 hB14)
    | (go_at_call 13; refine (Blob_any ca m cc _).mono ?_; rintro e w15 ⟨rfl, hB15⟩; obtain ⟨h15, y15⟩ := G14.out _ hB15; have C15 : Hid (CI w a m g c4 w4.heap.size L w15.heap.size ca cc (w15.alloc (.cells #[.slice ca m cc] 25))) := h15; have cb15 := h15.box.cell; have q15 := h15.bf.arg; clear h15 G14 hB15)
    | (go_at_call 12; refine (equal_yes _ ca a m m cc c L y15 q15).mono ?_; rintro e w16 ⟨rfl, h⟩; subst h; clear q15 y15)
  go_loopw [115] (fun j wr => ∃ k : Nat, k ≤ m ∧ j = .int .i64 (k : Int) ∧ Hid (CI w a m g c4 w4.heap.size L w15.heap.size ca cc wr)) (fun j _ => m - (intOf j).toNat)
  case atStart => exact ⟨0, Nat.zero_le _, rfl, C15.out⟩
  case round =>
    clear C15 cb15
    obtain ⟨k, hk, rfl, H⟩ := hrel
    have cb := H.out.box.cell
    by_cases hkm : k < m
    · obtain ⟨g2, z, hca, cz, fz, H2⟩ := H.out.at k hkm
      subst hca
      have HH : Hid (∀ e, CI w a m g c4 w4.heap.size L w15.heap.size (some ⟨g2, 0, none⟩) cc (wr.setCell ⟨g2, k, none⟩ (.int .u8 e))) := H2
      have i1 : (k : Int) < (m : Int) := by omega
      have i2 : ¬ m ≤ k := by omega
      clear H H2
      go_wp2
      go_roundw
      case rel => exact ⟨k + 1, by omega, by simp, HH.out _⟩
      case measure => simp [intOf]; omega
    · obtain rfl : k = m := by omega
      have i1 : ¬ (k : Int) < (k : Int) := by omega
      have p16 := H.out.bf.pre
      have q16 := H.out.bf.arg
      go_wp2_with first
        | (go_at_call 12; refine (equal_yes _ (some ⟨g, 0, none⟩) a k k c4 c L p16 q16).mono ?_; rintro e w17 ⟨rfl, h⟩; subst h)
        | (go_at_call 9; refine (wakes_any _).mono ?_; rintro e w18 ⟨rfl, hB18⟩)
      go_ret
      exact ⟨rfl, (H.out.bf.below hB18).bel⟩
end Go.Proofs.Ytdibdcbihleflaa
