import Derived.Test.YthalpnpnbclipaaGreatL35
import Derived.Test.YthalpnpnbclipaaGreatL29
/- The walk of the law StoreNone. -/
namespace Go.Proofs.YthalpnpnbclipaaGreat
open Go.RowKit Go.Shelf Go.Maps

attribute [local go_sem] Oper.semAt_some

theorem ids_apart : oid (.blob [1]) ≠ oid (.blob [2]) := by
  show idOf [98, 1] ≠ idOf [98, 2]
  decide +kernel
theorem lit_one (W : World) (x : UInt8) : Bytes (W.alloc (.cells #[.int .u8 (x.toNat : Int)] 5)) (some ⟨W.heap.size, 0, none⟩) 1 [x] := by
  have hb := World.alloc_heap_new W (.cells #[.int .u8 (x.toNat : Int)] 5)
  generalize W.alloc (.cells #[.int .u8 (x.toNat : Int)] 5) = W' at hb
  refine ⟨rfl, fun _ => ⟨W.heap.size, 0, rfl, fun i hi => ?_⟩⟩
  match i, hi with
  | 0, _ => simp [World.cell?, hb, bt]
/-- a Put of one byte that stands in the text -/
theorem sput_lit (W : World) (s d : Nat) (os : List Ob) (S : DG) (F G : Nat → Prop) (h : StG W s d os S F G) (x : UInt8) (hf : findO os (oid (.blob [x])) = none) (hn : os.length < 10) (hfit : (fileB (os.map obB)).length ≤ 100000) :
    Calls Tryz.prog 11 #[.pointer (some ⟨s, 0, none⟩), .iface 65 (.agg #[.slice (some ⟨W.heap.size, 0, none⟩) 1 1])] (W.alloc (.cells #[.int .u8 (x.toNat : Int)] 5)) fun e w' => e = .returned (.tuple #[.int .u64 (oid (.blob [x])), .int .i64 0]) ∧ Turn (fun k => F k ∨ G k) (W.alloc (.cells #[.int .u8 (x.toNat : Int)] 5)) w' ∧ ∃ S' F' G', StG w' s d (os ++ [.blob [x]]) S' F' G' ∧ (∀ k, F' k → F k ∨ W.heap.size ≤ k) ∧ (∀ k, G' k → G k ∨ W.heap.size ≤ k) := by
  refine (sput_blob (W.alloc (.cells #[.int .u8 (x.toNat : Int)] 5)) s d os S F G (h.below ((Below.refl _ _).alloc (Nat.le_refl _) _)) (some ⟨W.heap.size, 0, none⟩) 1 1 [x] (lit_one W x) (fun h => by cases h) (fun _ y hy hk => by
      cases hy
      rcases hk with hk | hk
      · have := h.st.lt _ hk; simp only at this; omega
      · have := h.dk.lt _ hk; simp only at this; omega) (by omega) hf (by omega) (by have := (recB_pos [98, x]).2; simp only [List.length_cons, List.length_nil] at this; omega)).mono ?_
  rintro e w' ⟨he, hT, S', F', G', h1, h2, h3⟩
  rw [World.size_alloc] at h2 h3
  exact ⟨he, hT, S', F', G', h1, fun k hk => (h2 k hk).imp id (fun h => by omega), fun k hk => (h3 k hk).imp id (fun h => by omega)⟩
/-- the law's own result box stands, and nothing that was there is touched -/
structure Cst (w W : World) : Prop where
  bel : Below w.heap.size w W
  box : Boxed W w.heap.size 4 (.bool false)
theorem Cst.below {w W W' : World} (h : Cst w W) (hB : Below W.heap.size W W') : Cst w W' := ⟨h.bel.trans (hB.mono h.bel.size), (hB.block _ h.box.lt).trans h.box⟩
theorem Cst.alloc {w W : World} (h : Cst w W) (o : Obj) : Cst w (W.alloc o) := h.below ((Below.refl _ W).alloc (Nat.le_refl _) o)
theorem Cst.turn {w W W' : World} {X : Nat → Prop} (h : Cst w W) (hT : Turn X W W') (hX : ∀ k, X k → w.heap.size < k) : Cst w W' :=
  ⟨h.bel.trans (hT.below h.bel.size (fun k hk => Nat.le_of_lt (hX k hk))), (hT.block _ h.box.lt (fun e => by have := hX _ e; omega)).trans h.box⟩
theorem cst_own (w : World) {B : Nat} (hB : w.heap.size < B) {β : Type} : OwnFrom B (fun (_ : β) W => Cst w W) := by
  rintro s X Y row h hg hr
  refine ⟨⟨hg.os.trans h.bel.os, hg.tape.trans h.bel.tape, hg.output.trans h.bel.output, Nat.le_trans h.bel.size hg.size, fun k hk => (hg.block k (Nat.lt_of_lt_of_le hk h.bel.size) (fun e => by have := (hr k e.symm).1; omega)).trans (h.bel.block k hk)⟩, h.box.kept hg (fun e => by have := (hr _ e.symm).1; omega)⟩

theorem sbool_two {n k p D D2 : Nat} {f : Func} {u : Value} {tmps : Array Value} {P : Ending → World → Prop} {W : World} (hf : f.results = #[ResultVar.cell k 4]) (ha : tmps[k]?.getD undef = .pointer (some ⟨p, 0, none⟩)) (hb : Boxed W p 4 u) (h1 : W.heap[D2]? = some (.deferred (some []))) (h2 : W.heap[D]? = some (.deferred (some []))) (hne : D ≠ D2) (hp : p ≠ D) (hp2 : p ≠ D2)
    (hP : P (.returned u) ((W.putObj D2 (.deferred none)).putObj D (.deferred none))) :
    bodyPostM Fence.wide n Tryz.prog f P Exit.ret { tmps := tmps, defers := [{ target := .collected D2, args := #[] }, { target := .collected D, args := #[] }] } W := by
  have hb1 : Boxed (W.putObj D2 (.deferred none)) p 4 u := hb.kept (grownBy_putObj' _ D2 _) (by simpa using hp2)
  have hb2 : Boxed ((W.putObj D2 (.deferred none)).putObj D (.deferred none)) p 4 u := hb1.kept (grownBy_putObj' _ D _) (by simpa using hp)
  have c0 := hb2.cell
  have h3 : (W.putObj D2 (.deferred none)).heap[D]? = some (.deferred (some [])) := (World.putObj_heap_other (by exact hne)).trans h2
  refine ⟨by simp, .inl ⟨_, _, rfl, run_takeDeferred h1, ?_⟩⟩
  refine ⟨by simp, .inl ⟨_, _, rfl, run_takeDeferred h3, ?_⟩⟩
  exact ⟨u, by simp [results, hf, go_sem, ha, c0], hP⟩
/-- what stands while ids are gathered: the list in box g, its row from B on -/
def GotI (w : World) (D g B : Nat) (pre : List Int) (W : World) : Prop :=
  Cst w W ∧ W.heap[D]? = some (.deferred (some [])) ∧ B ≤ W.heap.size ∧ ∃ v, Boxed W g 32 v ∧ W.ownsRow B 24 1 v pre.length (pre.map (Value.int .u64))
theorem gotI_own (w : World) (D g B : Nat) (hw : w.heap.size < B) (hD : D < B) (hg : g < B) : OwnFrom B (GotI w D g B) := by
  rintro pre X Y row ⟨h1, h2, h5, v, h3, h4⟩ hgr hr
  refine ⟨cst_own w hw () X Y row h1 hgr hr, (hgr.block D (Array.getElem?_eq_some_iff.1 h2).1 (fun e => by have := (hr D e.symm).1; omega)).trans h2, Nat.le_trans h5 hgr.size, v, h3.kept hgr (fun e => by have := (hr g e.symm).1; omega), row_moved h4 (fun q hq => ?_)⟩
  obtain ⟨_, hlt, cur, hc⟩ := row_block h4 q hq
  refine hgr.block q hlt (fun e => ?_)
  obtain ⟨_, o, ho, hoc⟩ := hr q e.symm
  rw [hc] at ho
  cases ho
  cases hoc

set_option maxRecDepth 100000 in
set_option maxHeartbeats 4000000 in
theorem storeNone_walk (i n0 : Int) (w : World) :
    Calls Tryz.prog 5 #[.int .u64 i, .int .i64 n0] w fun e w' => e = .returned (.bool true) ∧ Below w.heap.size w w' := by
  refine (callsIn_wide (n := 5)).1 ?_
  refine callsIn_of_wp_marks Tryz.func5 rfl trivial ?_ rfl
  simp only [Tryz.ntmps5, List.size_toArray, List.length_cons, List.length_nil, Nat.reduceAdd, Nat.reduceSub, Array.replicate_succ, Array.replicate_zero, List.push_toArray, List.append_toArray, List.nil_append, List.cons_append]
  have hmx : Tryz.prog.follows .mixedOrders = true := by kernel_rfl
  refine wpIn_wide.2 ?_
  have B0 : Below w.heap.size w (w.alloc (.cells #[.bool false] 4)) := (Below.refl _ w).alloc (Nat.le_refl _) _
  have bR0 : Boxed (w.alloc (.cells #[.bool false] 4)) w.heap.size 4 (.bool false) := Boxed.new w _ _
  have hwk := swakes_any (w.alloc (.cells #[.bool false] 4))
  go_wp2_with first
    | (go_at_call 7; refine hwk.mono ?_; clear hwk; rintro e w1 ⟨rfl, B1⟩; have C1 : Hid (Cst w w1) := (Cst.mk B0 bR0).below B1; clear B1 bR0 B0)
    | (go_at_call 11; refine (sput_nil _ _).mono ?_; rintro e w2 ⟨rfl, h2⟩; subst h2)
    | (go_at_call 14; refine (get_nil _ _).mono ?_; rintro e w3 ⟨rfl, h3⟩; subst h3)
    | (go_at_call 22; refine (sblob_nil _ _).mono ?_; rintro e w4 ⟨ba, bn, bc, rfl, B4⟩; have C4 : Hid (Cst w w4) := C1.out.below B4; clear B4)
    | (go_at_call 23; refine (stree_nil _ _).mono ?_; rintro e w5 ⟨ta, tn, tc, rfl, B5⟩; have C5 : Hid (Cst w w5) := (C4.out.alloc _).below B5; clear B5)
    | (go_at_call 24; refine (scom_nil _ _).mono ?_; rintro e w6 ⟨ct, ca, cn, cc, cau, cdt, ctx, rfl, B6⟩; have C6 : Hid (Cst w w6) := (C5.out.alloc _).below B6; clear B6)
    | (go_at_call 25; refine (sbytes_nil _ _).mono ?_; rintro e w7 ⟨rfl, h7⟩; subst h7)
    | (go_at_call 26; refine (since_any _ _ _).mono ?_; rintro e w8 ⟨rfl, h8⟩; subst h8)
  obtain ⟨wz, hwz⟩ : ∃ wz, wz = ((w6.alloc (.cells #[.int .u64 ct, .slice ca cn cc, .string cau, .int .i64 cdt, .string ctx] 39)).alloc (.cells #[.pointer none] 28)).alloc (.cells #[.int .i64 n0] 3) := ⟨_, rfl⟩
  have Cz : Cst w wz := by rw [hwz]; exact ((C6.out.alloc _).alloc _).alloc _
  have bB : Boxed wz (w6.heap.size + 1) 28 (.pointer none) := by
    have := (Boxed.new (w6.alloc (.cells #[.int .u64 ct, .slice ca cn cc, .string cau, .int .i64 cdt, .string ctx] 39)) 28 (.pointer none)).alloc (.cells #[.int .i64 n0] 3)
    rw [World.size_alloc] at this
    rw [hwz]; exact this
  have hzs : wz.heap.size = w6.heap.size + 3 := by rw [hwz]; simp
  have hz6 := C6.out.bel.size
  have hz7 := C6.out.box.lt
  rw [← hwz]
  clear hwz C6 C5 C4 C1
  refine (wpIn_wide (n := 5)).1 ?_
  refine range_told (α := Int) (w := wz) rfl (by omega) (gf := 61) (lb := #[.pointer (some ⟨w6.heap.size + 1, 0, none⟩), .pointer (some ⟨w6.heap.size + 1 + 1, 0, none⟩)]) rfl trivial (enters_of Tryz.func61 (by kernel_rfl) rfl)
    (since_nil wz (w6.heap.size + 1) (w6.heap.size + 1 + 1) bB.cell 4 (fun _ => False)) (fun _ => rfl) (fun k hk => hk.elim)
    (fun _ W => Cst w W) (cst_own w (by omega)) (fun _ _ _ _ _ _ h _ _ => h) Cz ?act ?assign ?body ?done
  case assign =>
    intro l x W K hK
    gi_wp2
    exact hK
  case body => exact fun l pre x W _ _ h => h.elim
  case done =>
    rintro D xs W hD hxs hC hK
    have hopn := fun W => sopen_nil W
    have hop := fun W d S G hd hg => sopen_good W d [] S G hd hg Pure.nil (by simp [fileB]) (by simp)
    have HP1 : Hid (∀ (W : World) (s d : Nat) (S : DG) (F G : Nat → Prop), StG W s d [] S F G → _) := fun W s d S F G h => sput_lit W s d [] S F G h 1 rfl (by simp) (by simp [fileB])
    have HP2 : Hid (∀ (W : World) (s d : Nat) (S : DG) (F G : Nat → Prop), StG W s d [.blob [1]] S F G → _) := fun W s d S F G h => sput_lit W s d [.blob [1]] S F G h 2 (by simp [findO, ids_apart]) (by simp) (by have := (recB_pos [98, 1]).2; simp only [List.length_cons, List.length_nil] at this; simp [fileB, obB]; omega)
    obtain ⟨I1, hI1⟩ : ∃ I, I = oid (.blob [1]) := ⟨_, rfl⟩
    obtain ⟨I2, hI2⟩ : ∃ I, I = oid (.blob [2]) := ⟨_, rfl⟩
    rw [← hI1] at HP1
    rw [← hI2] at HP2
    have HIds : Hid (oids ([.blob [1]] ++ [.blob [2]]) = [I1, I2]) := (by rw [hI1, hI2]; rfl : oids ([.blob [1]] ++ [.blob [2]]) = [I1, I2])
    simp only [List.nil_append, show ((1 : UInt8).toNat : Int) = 1 from rfl, show ((2 : UInt8).toNat : Int) = 2 from rfl] at HP1 HP2
    have C9 : Hid (Cst w W ∧ W.heap[D]? = some (.deferred (some []))) := ⟨hC, hK⟩
    clear hC hK hI1 hI2
    go_wp2_with first
      | (go_at_call 9; refine (hopn _).mono ?_; clear hopn; rintro e wa ⟨rfl, Ba⟩; have Ca : Hid (Cst w wa ∧ wa.heap[D]? = some (.deferred (some []))) := ⟨C9.out.1.below Ba, (Ba.block _ (Array.getElem?_eq_some_iff.1 C9.out.2).1).trans C9.out.2⟩; clear Ba C9)
      | (go_at_call 16; refine (has_nil _ _).mono ?_; rintro e wb ⟨rfl, hb⟩; have hb2 := hb.symm; clear hb; subst hb2)
      | (go_at_call 27; refine (slen_nil _).mono ?_; rintro e wc ⟨rfl, hc⟩; have hc2 := hc.symm; clear hc; subst hc2)
      | (go_at_call 8; refine (snew_any _).mono ?_; rintro e wd ⟨rfl, Gd, hd, hGd, Bd⟩; have Hd : Hid (IsDisk wd _ ⟨fun _ => none, 0, 0, false, 0⟩ Gd ∧ (∀ k, Gd k → w.heap.size < k) ∧ (∀ k, Gd k → k ≠ D)) := ⟨hd, fun k hk => by have := hGd k hk; have := Ca.out.1.box.lt; omega, fun k hk => by have := hGd k hk; have := (Array.getElem?_eq_some_iff.1 Ca.out.2).1; omega⟩; have Cd : Hid (Cst w wd ∧ wd.heap[D]? = some (.deferred (some [])) ∧ D < wa.heap.size) := ⟨Ca.out.1.below Bd, (Bd.block _ (Array.getElem?_eq_some_iff.1 Ca.out.2).1).trans Ca.out.2, (Array.getElem?_eq_some_iff.1 Ca.out.2).1⟩; clear hd hGd Bd Ca)
      | (go_at_call 9; refine (hop _ _ _ _ Hd.out.1 (JGd.new _)).mono ?_; clear hop; rintro e we ⟨s, F, G2, rfl, hS, hT, hF, hG⟩; have He : Hid (StG we s _ [] ⟨fun _ => none, 0, 0, false, 0⟩ F G2 ∧ (∀ k, F k ∨ G2 k → w.heap.size < k ∧ k ≠ D)) := ⟨hS, fun k hk => hk.elim (fun h => by have := hF k h; have := Cd.out.1.box.lt; have := (Array.getElem?_eq_some_iff.1 Cd.out.2.1).1; omega) (fun h => (hG k h).elim (fun e => ⟨Hd.out.2.1 k e, Hd.out.2.2 k e⟩) (fun e => by have := Cd.out.1.box.lt; have := (Array.getElem?_eq_some_iff.1 Cd.out.2.1).1; omega))⟩; have Ce : Hid (Cst w we ∧ we.heap[D]? = some (.deferred (some []))) := ⟨Cd.out.1.turn hT Hd.out.2.1, (hT.block _ (Array.getElem?_eq_some_iff.1 Cd.out.2.1).1 (fun e => Hd.out.2.2 _ e rfl)).trans Cd.out.2.1⟩; clear hS hT hF hG Hd Cd)
      | (go_at_call 11; refine (HP1.out _ _ _ _ _ _ He.out.1).mono ?_; clear HP1; rintro e wf ⟨rfl, hT, S1, F1, G1, hS, hF, hG⟩; have hle := (Array.getElem?_eq_some_iff.1 Ce.out.2).1; have hlb := Ce.out.1.box.lt; have Hf : Hid (StG wf s _ [.blob [1]] S1 F1 G1 ∧ (∀ k, F1 k ∨ G1 k → w.heap.size < k ∧ k ≠ D)) := ⟨hS, fun k hk => hk.elim (fun h => (hF k h).elim (fun e => He.out.2 k (.inl e)) (fun e => by omega)) (fun h => (hG k h).elim (fun e => He.out.2 k (.inr e)) (fun e => by omega))⟩; have Cf : Hid (Cst w wf ∧ wf.heap[D]? = some (.deferred (some []))) := ⟨(Ce.out.1.alloc _).turn hT (fun k hk => (He.out.2 k hk).1), (hT.block _ (by simp; omega) (fun e => (He.out.2 _ e).2 rfl)).trans ((Below.heap_alloc _ _ _ hle).trans Ce.out.2)⟩; clear hS hT hF hG He Ce hle hlb)
      | (go_at_call 11; refine (HP2.out _ _ _ _ _ _ Hf.out.1).mono ?_; clear HP2; rintro e wg ⟨rfl, hT, S2, F2, G2', hS, hF, hG⟩; have hle := (Array.getElem?_eq_some_iff.1 Cf.out.2).1; have hlb := Cf.out.1.box.lt; have Hg : Hid (IsSt wg s _ ([.blob [1]] ++ [.blob [2]]) _ false F2 ∧ (∀ k, F2 k → w.heap.size < k ∧ k ≠ D)) := ⟨hS.st, fun k hk => (hF k hk).elim (fun e => Hf.out.2 k (.inl e)) (fun e => by omega)⟩; have Cg : Hid (Cst w wg ∧ wg.heap[D]? = some (.deferred (some []))) := ⟨(Cf.out.1.alloc _).turn hT (fun k hk => (Hf.out.2 k hk).1), (hT.block _ (by simp; omega) (fun e => (Hf.out.2 _ e).2 rfl)).trans ((Below.heap_alloc _ _ _ hle).trans Cf.out.2)⟩; clear hS hT hF hG Hf Cf hle hlb)
      | (go_at_call 26; refine (since_any _ _ _).mono ?_; rintro e wh ⟨rfl, h8⟩; have h9 := h8.symm; clear h8; subst h9)
    obtain ⟨wy, hwy⟩ : ∃ wy, wy = ((wg.alloc (.cells #[.slice none 0 0] 32)).alloc (.cells #[.pointer (some ⟨s, 0, none⟩)] 28)).alloc (.cells #[.int .i64 n0] 3) := ⟨_, rfl⟩
    have hys : wy.heap.size = wg.heap.size + 3 := by rw [hwy]; simp
    have hBgy : Below wg.heap.size wg wy := by rw [hwy]; exact (((Below.refl _ wg).alloc (Nat.le_refl _) _).alloc (by simp) _).alloc (by simp only [World.size_alloc]; omega) _
    have bG : Boxed wy wg.heap.size 32 (.slice none 0 0) := by rw [hwy]; exact ((Boxed.new wg _ _).alloc _).alloc _
    have bS : Boxed wy (wg.heap.size + 1) 28 (.pointer (some ⟨s, 0, none⟩)) := by
      have := (Boxed.new (wg.alloc (.cells #[.slice none 0 0] 32)) 28 (.pointer (some ⟨s, 0, none⟩))).alloc (.cells #[.int .i64 n0] 3)
      rw [World.size_alloc] at this
      rw [hwy]; exact this
    have bN : Boxed wy (wg.heap.size + 1 + 1) 3 (.int .i64 n0) := by
      have := Boxed.new ((wg.alloc (.cells #[.slice none 0 0] 32)).alloc (.cells #[.pointer (some ⟨s, 0, none⟩)] 28)) 3 (.int .i64 n0)
      rw [World.size_alloc, World.size_alloc] at this
      rw [hwy]; exact this
    have hDlt := (Array.getElem?_eq_some_iff.1 Cg.out.2).1
    have hlb := Cg.out.1.box.lt
    have hI0 : GotI w D wg.heap.size wy.heap.size [] wy := ⟨Cg.out.1.below hBgy, (hBgy.block _ hDlt).trans Cg.out.2, Nat.le_refl _, _, bG, World.ownsRow_nil _ _ _ _⟩
    obtain ⟨j, mb, M, v, FJ, O, hSt⟩ := Hg.out.1
    have hFlt : ∀ k, F2 k → k < wg.heap.size := hSt.lt
    have hst := since_tells wy s _ j mb M v _ _ _ _ FJ O F2 (hSt.below hBgy) (wg.heap.size + 1) (wg.heap.size + 1 + 1) bS.cell n0 bN.cell (by simp) 4 (by omega)
    rw [HIds.out] at hst
    simp only [List.length_append, List.length_cons, List.length_nil, Nat.zero_add, Nat.reduceAdd] at hst
    obtain ⟨i0, hii, hzz0, hzz1, hzz2⟩ := info_parts infoId
    rw [← hwy]
    clear hwy hSt Hg Cg HIds
    refine (wpIn_wide (n := 5)).1 ?_
    refine range_told (α := Int) (w := wy) rfl (by omega) (gf := 61) (lb := #[.pointer (some ⟨wg.heap.size + 1, 0, none⟩), .pointer (some ⟨wg.heap.size + 1 + 1, 0, none⟩)]) rfl trivial (enters_of Tryz.func61 (by kernel_rfl) rfl)
      hst (fun _ => rfl) (fun k hk => by have := hFlt k hk; omega)
      (GotI w D wg.heap.size wy.heap.size) (gotI_own w D _ _ (by omega) (by omega) (by omega)) (fun _ _ _ _ _ _ h _ _ => h) hI0 ?act2 ?assign2 ?body2 ?done2
    case assign2 =>
      intro l x W K hK
      gi_wp2
      exact hK
    case body2 =>
      rintro l pre x W hl ⟨hC, hD', hWs0, v, bv, hrow⟩ hx
      have cC := bv.cell
      have fC := bv.frozen
      obtain ⟨ga, gc, rfl, _⟩ := row_shape hrow
      have hpl : pre.length ≤ 2 := by
        have := (List.getElem?_eq_some_iff.1 hx).1
        rw [List.length_drop] at this
        simp at this
        omega
      have H : Hid (Cst w W ∧ W.heap[D]? = some (.deferred (some [])) ∧ Boxed W wg.heap.size 32 (.slice ga pre.length gc) ∧ W.ownsRow wy.heap.size 24 1 (.slice ga pre.length gc) pre.length (pre.map (Value.int .u64)) ∧ wy.heap.size ≤ W.heap.size) := ⟨hC, hD', bv, hrow, hWs0⟩
      clear hC hD' bv hx hst hI0 bG bS bN hBgy
      have HBX : Hid (Boxed W wg.heap.size 32 (.slice ga pre.length gc)) := H.out.2.2.1
      have hrow' := hrow.alloc (.cells #[.int .u64 x] 24)
      have hWs := H.out.2.2.2.2
      clear hrow
      generalize hPL : pre.length = PL at *
      gi_wp2_with (gi_at_builtin; refine wpListIn_append_own _ rfl _ _ 32 rfl wy.heap.size 24 i0 (.int .u64 0) 1 8 Tryz.underlying32 hii hzz0 hzz1 hzz2 rfl (by decide) _ PL _ rfl hrow' ⟨W.heap.size, 0, none⟩ 1 1 [.int .u64 x] rfl rfl (cell_one_new _ _ _) (by simp [Value.oneCell']) (by unfold maxLen; omega) (by omega) (by simp; omega) ?_; intro v' w5 hown5 hgr5 _; have hvo : (Value.slice ga PL gc).ownBlock ≠ some wg.heap.size := (fun e => by have := (row_block hrow' _ e).1; omega); have b5 : Boxed w5 wg.heap.size 32 (.slice ga PL gc) := (HBX.out.alloc (.cells #[.int .u64 x] 24)).kept hgr5 (fun e => hvo e.symm); have c5 := b5.cell; have f5 := b5.frozen; obtain ⟨ga5, gc5, hv5, _⟩ := row_shape hown5; subst hv5; have H5 : Hid (Boxed w5 wg.heap.size 32 (.slice ga PL gc) ∧ w5.ownsRow wy.heap.size 24 1 (.slice ga5 (PL + 1) gc5) (PL + 1) (List.map (Value.int IntKind.u64) pre ++ [Value.int IntKind.u64 x]) ∧ (W.alloc (.cells #[.int .u64 x] 24)).grownBy w5 (Value.slice ga PL gc).ownBlock) := ⟨b5, hown5, hgr5⟩; clear b5 hown5 hgr5 hvo)
      obtain ⟨b5, hown5, hgr5⟩ := H5.out
      rw [hys] at hown5
      obtain ⟨hC, hD', bv, hrow, hWs1⟩ := H.out
      have hT5 : Turn (fun k => k = wg.heap.size ∨ (Value.slice ga PL gc).ownBlock = some k) W (w5.setCell ⟨wg.heap.size, 0, none⟩ (.slice ga5 (PL + 1) gc5)) :=
        ((Turn.of_below _ ((Below.refl _ W).alloc (Nat.le_refl _) (.cells #[.int .u64 x] 24))).trans (Turn.of_grownBy (Fp := fun k => (Value.slice ga PL gc).ownBlock = some k) hgr5 (fun k e => .inl e)) (fun _ _ e => .inr e)).trans (turn_setCell w5 wg.heap.size 0 _) (fun _ _ e => .inl e)
      have hvB : ∀ k, (Value.slice ga PL gc).ownBlock = some k → wy.heap.size ≤ k := fun k e => (row_block hrow k e).1
      refine ⟨keepsFrom_turn hT5 (fun q o hq hB ho => ?_), ⟨hT5.size, fun q hq => hT5.block q (by have := hFlt q hq; omega) (by rintro (e | e); (have := hFlt q hq; omega); (have := hvB q e; have := hFlt q hq; omega))⟩, hC.turn hT5 (fun k hk => by rcases hk with e | e; omega; (have := hvB k e; omega)), (hT5.block D (by omega) (by rintro (e | e); omega; (have := hvB D e; omega))).trans hD', (by have := hT5.size; omega), _, b5.set _, ?_⟩
      · rcases hq with e | e
        · omega
        · obtain ⟨_, _, cur, hc⟩ := row_block hrow q e
          rw [hc] at ho; cases ho; rfl
      · rw [List.length_append, hPL, List.map_append]
        refine row_moved hown5 (fun q hq => ?_)
        have := (row_block hown5 q hq).1
        exact Below.heap_setCell _ _ _ _ (by show q ≠ wg.heap.size; omega)
    case done2 =>
      rintro D2 xs W hD2 hxs ⟨hC, hD', hWs, v, bv, hrow⟩ hK2
      have cV := bv.cell
      obtain ⟨ga, gc, rfl, hgc, hgn⟩ := row_shape hrow
      have hcase : (n0 ≤ 0 ∧ xs = [I1, I2]) ∨ (n0 = 1 ∧ xs = [I2]) ∨ (2 ≤ n0 ∧ xs = []) := by
        rw [hxs]
        unfold firstN
        by_cases h1 : n0 ≤ 0
        · exact .inl ⟨h1, by rw [if_pos h1]; rfl⟩
        · rw [if_neg h1]
          by_cases h2 : n0 = 1
          · refine .inr (.inl ⟨h2, ?_⟩)
            subst h2
            rfl
          · refine .inr (.inr ⟨by omega, ?_⟩)
            rw [if_pos (by omega)]
            rfl
      have H : Hid (Cst w W ∧ W.heap[D]? = some (.deferred (some [])) ∧ W.heap[D2]? = some (.deferred (some [])) ∧ wy.heap.size ≤ D2 ∧ D < wy.heap.size ∧ w.heap.size < D) := ⟨hC, hD', hK2, hD2, by omega, by omega⟩
      have HR : Hid (W.ownsRow wy.heap.size 24 1 (.slice ga xs.length gc) xs.length (xs.map (Value.int .u64)) ∧ Boxed W wg.heap.size 32 (.slice ga xs.length gc)) := ⟨hrow, bv⟩
      clear hst hI0 bG bS bN hBgy hxs hC hD' hK2 hrow bv
      have cV2 := (HR.out.2.alloc (.cells #[.int .u64 I1, .int .u64 I2] 24)).cell
      have hwant := World.alloc_heap_new W (.cells #[.int .u64 I1, .int .u64 I2] 24)
      have HW1 : Hid (∀ W1, W1 = W.alloc (.cells #[.int .u64 I1, .int .u64 I2] 24) → W1.cell? ⟨W.heap.size, 0, none⟩ = some (.int .u64 I1) ∧ W1.cell? ⟨W.heap.size, 0 + 1, none⟩ = some (.int .u64 I2) ∧ W1.cell? ⟨W.heap.size, 1, none⟩ = some (.int .u64 I2)) := by
        intro W1 e
        rw [← e] at hwant
        simp [World.cell?, hwant]
      clear hwant
      obtain ⟨W1, hW1⟩ : ∃ W1, W1 = W.alloc (.cells #[.int .u64 I1, .int .u64 I2] 24) := ⟨_, rfl⟩
      obtain ⟨t0, _, t1⟩ := HW1.out W1 hW1
      have BW1 : Below W.heap.size W W1 := by rw [hW1]; exact (Below.refl _ W).alloc (Nat.le_refl _) _
      have HEND : Hid (∀ X Y, Below W1.heap.size W1 X → Below X.heap.size X Y → Boxed Y w.heap.size 4 (.bool false) ∧ Y.heap[D]? = some (.deferred (some [])) ∧ Y.heap[D2]? = some (.deferred (some [])) ∧ Below w.heap.size w Y ∧ D2 < W.heap.size) := fun X Y hX hY => by
        have hWY : Below W.heap.size W Y := BW1.trans ((hX.trans (hY.mono hX.size)).mono BW1.size)
        have hC := H.out.1.below hWY
        exact ⟨hC.box, (hWY.block _ (Array.getElem?_eq_some_iff.1 H.out.2.1).1).trans H.out.2.1, (hWY.block _ (Array.getElem?_eq_some_iff.1 H.out.2.2.1).1).trans H.out.2.2.1, hC.bel, (Array.getElem?_eq_some_iff.1 H.out.2.2.1).1⟩
      have HROW : Hid (∀ k x, xs[k]? = some x → ∀ g, ga = some ⟨g, 0, none⟩ → W1.cell? ⟨g, k, none⟩ = some (.int .u64 x)) := fun k x hx g e => by
        subst e
        have h1 := HR.out.1.cells (g := g) rfl k (.int .u64 x) (by rw [List.getElem?_map, hx]; rfl)
        rw [Addr.add_lit] at h1
        have h2 := (BW1.cell (World.block_lt_of_cell? W _ h1)).trans h1
        simpa using h2
      have hga : xs = [] ∨ ∃ g, ga = some ⟨g, 0, none⟩ := by
        rcases HR.out.1.2 with ⟨_, e⟩ | ⟨g, cap, cur, e, _⟩
        · exact .inl (List.eq_nil_of_length_eq_zero e)
        · cases e; exact .inr ⟨g, rfl⟩
      rw [← hW1] at cV2
      clear BW1 H
      rcases hcase with ⟨hn, rfl⟩ | ⟨hn, rfl⟩ | ⟨hn, rfl⟩
      · have i1 : ¬ (0 : Int) < n0 := by omega
        simp only [List.length_cons, List.length_nil, Nat.zero_add, Nat.reduceAdd] at cV HR hgn hgc cV2
        obtain ⟨g, rfl⟩ := hga.resolve_left (by simp)
        have cV4 := cV2
        rw [hW1] at cV4
        gi_wp2
        go_wp2_with fail
        clear cV4
        rw [← hW1]
        clear hW1
        go_loopw [180] (fun i wr => ∃ k : Nat, k ≤ 2 ∧ i = .int .i64 k ∧ Hid (Below W1.heap.size W1 wr)) (fun i _ => 2 - (intOf i).toNat)
        case atStart => exact ⟨0, Nat.zero_le _, rfl, Below.refl _ _⟩
        case round =>
          obtain ⟨k, hk, rfl, HB⟩ := hrel
          have old : ∀ {a : Addr} {v : Value}, W1.cell? a = some v → wr.cell? a = some v := fun hc => (HB.out.cell (World.block_lt_of_cell? W1 _ hc)).trans hc
          have cV3 := old cV2
          by_cases hk0 : k = 0
          · subst hk0
            have g1 := old (HROW.out 0 I1 rfl g rfl)
            have g2 := old t0
            clear old
            go_wp2_with fail
            go_quiet (fail)
            go_wp2_with fail
            go_roundw
            case rel => exact ⟨1, by omega, by go_num, below_drewN HB.out _⟩
            case measure => simp [intOf]
          by_cases hk1 : k = 1
          · subst hk1
            have g1 := old (HROW.out 1 I2 rfl g rfl)
            have g2 := old t1
            clear old
            go_wp2_with fail
            go_quiet (fail)
            go_wp2_with fail
            go_roundw
            case rel => exact ⟨2, by omega, by go_num, below_drewN HB.out _⟩
            case measure => simp [intOf]
          · obtain rfl : k = 2 := by omega
            have hwk := swakes_any wr
            clear old
            go_wp2_with fail
            refine hwk.mono ?_
            clear hwk
            rintro e wq ⟨rfl, Bq⟩
            obtain ⟨bq, d1, d2, Bw, hDD⟩ := HEND.out wr wq HB.out Bq
            have cq := bq.cell
            have fq := bq.frozen
            have HQ : Hid (Boxed wq w.heap.size 4 (.bool false) ∧ wq.heap[D]? = some (.deferred (some [])) ∧ wq.heap[D2]? = some (.deferred (some [])) ∧ Below w.heap.size w wq) := ⟨bq, d1, d2, Bw⟩
            clear bq d1 d2 Bw Bq
            go_wp2_with fail
            obtain ⟨bq, d1, d2, Bw⟩ := HQ.out
            have hDw : w.heap.size < D := by omega
            have hD2w : w.heap.size < D2 := by omega
            refine sbool_two (k := 4) (p := w.heap.size) rfl rfl (bq.set (.bool true)) ((Below.heap_setCell _ _ _ _ (by show D2 ≠ w.heap.size; omega)).trans d2) ((Below.heap_setCell _ _ _ _ (by show D ≠ w.heap.size; omega)).trans d1) (by omega) (by omega) (by omega) ⟨rfl, ?_⟩
            have b1 := Bw.setCell (p := ⟨w.heap.size, 0, none⟩) (Nat.le_refl _) (.bool true)
            exact ⟨b1.os, b1.tape, b1.output, by simpa using b1.size, fun q hq => (World.putObj_heap_other (by omega)).trans ((World.putObj_heap_other (by omega)).trans (b1.block q hq))⟩
      · subst hn
        simp only [List.length_cons, List.length_nil, Nat.zero_add] at cV HR hgn hgc cV2
        obtain ⟨g, rfl⟩ := hga.resolve_left (by simp)
        have cV4 := cV2
        rw [hW1] at cV4
        gi_wp2
        go_wp2_with fail
        clear cV4
        rw [← hW1]
        clear hW1
        go_loopw [180] (fun i wr => ∃ k : Nat, k ≤ 1 ∧ i = .int .i64 k ∧ Hid (Below W1.heap.size W1 wr)) (fun i _ => 1 - (intOf i).toNat)
        case atStart => exact ⟨0, Nat.zero_le _, rfl, Below.refl _ _⟩
        case round =>
          obtain ⟨k, hk, rfl, HB⟩ := hrel
          have old : ∀ {a : Addr} {v : Value}, W1.cell? a = some v → wr.cell? a = some v := fun hc => (HB.out.cell (World.block_lt_of_cell? W1 _ hc)).trans hc
          have cV3 := old cV2
          by_cases hk0 : k = 0
          · subst hk0
            have g1 := old (HROW.out 0 I2 rfl g rfl)
            have g2 := old t1
            clear old
            go_wp2_with fail
            go_quiet (fail)
            go_wp2_with fail
            go_roundw
            case rel => exact ⟨1, by omega, by go_num, below_drewN HB.out _⟩
            case measure => simp [intOf]
          · obtain rfl : k = 1 := by omega
            have hwk := swakes_any wr
            clear old
            go_wp2_with fail
            refine hwk.mono ?_
            clear hwk
            rintro e wq ⟨rfl, Bq⟩
            obtain ⟨bq, d1, d2, Bw, hDD⟩ := HEND.out wr wq HB.out Bq
            have cq := bq.cell
            have fq := bq.frozen
            have HQ : Hid (Boxed wq w.heap.size 4 (.bool false) ∧ wq.heap[D]? = some (.deferred (some [])) ∧ wq.heap[D2]? = some (.deferred (some [])) ∧ Below w.heap.size w wq) := ⟨bq, d1, d2, Bw⟩
            clear bq d1 d2 Bw Bq
            go_wp2_with fail
            obtain ⟨bq, d1, d2, Bw⟩ := HQ.out
            have hDw : w.heap.size < D := by omega
            have hD2w : w.heap.size < D2 := by omega
            refine sbool_two (k := 4) (p := w.heap.size) rfl rfl (bq.set (.bool true)) ((Below.heap_setCell _ _ _ _ (by show D2 ≠ w.heap.size; omega)).trans d2) ((Below.heap_setCell _ _ _ _ (by show D ≠ w.heap.size; omega)).trans d1) (by omega) (by omega) (by omega) ⟨rfl, ?_⟩
            have b1 := Bw.setCell (p := ⟨w.heap.size, 0, none⟩) (Nat.le_refl _) (.bool true)
            exact ⟨b1.os, b1.tape, b1.output, by simpa using b1.size, fun q hq => (World.putObj_heap_other (by omega)).trans ((World.putObj_heap_other (by omega)).trans (b1.block q hq))⟩
      · have i1 : (0 : Int) < n0 := by omega
        simp only [List.length_nil] at cV HR hgn hgc cV2
        have cV4 := cV2
        rw [hW1] at cV4
        have hn2 : n0 = 2 ∨ 2 < n0 := by omega
        rcases hn2 with rfl | hn2
        · gi_wp2
          go_wp2_with fail
          clear cV4
          rw [← hW1]
          clear hW1
          go_loopw [180] (fun i wr => ∃ k : Nat, k ≤ 0 ∧ i = .int .i64 k ∧ Hid (Below W1.heap.size W1 wr)) (fun i _ => 0 - (intOf i).toNat)
          case atStart => exact ⟨0, Nat.zero_le _, rfl, Below.refl _ _⟩
          case round =>
            obtain ⟨k, hk, rfl, HB⟩ := hrel
            have old : ∀ {a : Addr} {v : Value}, W1.cell? a = some v → wr.cell? a = some v := fun hc => (HB.out.cell (World.block_lt_of_cell? W1 _ hc)).trans hc
            have cV3 := old cV2
            · obtain rfl : k = 0 := by omega
              have hwk := swakes_any wr
              clear old
              go_wp2_with fail
              refine hwk.mono ?_
              clear hwk
              rintro e wq ⟨rfl, Bq⟩
              obtain ⟨bq, d1, d2, Bw, hDD⟩ := HEND.out wr wq HB.out Bq
              have cq := bq.cell
              have fq := bq.frozen
              have HQ : Hid (Boxed wq w.heap.size 4 (.bool false) ∧ wq.heap[D]? = some (.deferred (some [])) ∧ wq.heap[D2]? = some (.deferred (some [])) ∧ Below w.heap.size w wq) := ⟨bq, d1, d2, Bw⟩
              clear bq d1 d2 Bw Bq
              go_wp2_with fail
              obtain ⟨bq, d1, d2, Bw⟩ := HQ.out
              have hDw : w.heap.size < D := by omega
              have hD2w : w.heap.size < D2 := by omega
              refine sbool_two (k := 4) (p := w.heap.size) rfl rfl (bq.set (.bool true)) ((Below.heap_setCell _ _ _ _ (by show D2 ≠ w.heap.size; omega)).trans d2) ((Below.heap_setCell _ _ _ _ (by show D ≠ w.heap.size; omega)).trans d1) (by omega) (by omega) (by omega) ⟨rfl, ?_⟩
              have b1 := Bw.setCell (p := ⟨w.heap.size, 0, none⟩) (Nat.le_refl _) (.bool true)
              exact ⟨b1.os, b1.tape, b1.output, by simpa using b1.size, fun q hq => (World.putObj_heap_other (by omega)).trans ((World.putObj_heap_other (by omega)).trans (b1.block q hq))⟩
        · gi_wp2
          go_wp2_with fail
          clear cV4
          rw [← hW1]
          clear hW1
          go_loopw [180] (fun i wr => ∃ k : Nat, k ≤ 0 ∧ i = .int .i64 k ∧ Hid (Below W1.heap.size W1 wr)) (fun i _ => 0 - (intOf i).toNat)
          case atStart => exact ⟨0, Nat.zero_le _, rfl, Below.refl _ _⟩
          case round =>
            obtain ⟨k, hk, rfl, HB⟩ := hrel
            have old : ∀ {a : Addr} {v : Value}, W1.cell? a = some v → wr.cell? a = some v := fun hc => (HB.out.cell (World.block_lt_of_cell? W1 _ hc)).trans hc
            have cV3 := old cV2
            · obtain rfl : k = 0 := by omega
              have hwk := swakes_any wr
              clear old
              go_wp2_with fail
              refine hwk.mono ?_
              clear hwk
              rintro e wq ⟨rfl, Bq⟩
              obtain ⟨bq, d1, d2, Bw, hDD⟩ := HEND.out wr wq HB.out Bq
              have cq := bq.cell
              have fq := bq.frozen
              have HQ : Hid (Boxed wq w.heap.size 4 (.bool false) ∧ wq.heap[D]? = some (.deferred (some [])) ∧ wq.heap[D2]? = some (.deferred (some [])) ∧ Below w.heap.size w wq) := ⟨bq, d1, d2, Bw⟩
              clear bq d1 d2 Bw Bq
              go_wp2_with fail
              obtain ⟨bq, d1, d2, Bw⟩ := HQ.out
              have hDw : w.heap.size < D := by omega
              have hD2w : w.heap.size < D2 := by omega
              refine sbool_two (k := 4) (p := w.heap.size) rfl rfl (bq.set (.bool true)) ((Below.heap_setCell _ _ _ _ (by show D2 ≠ w.heap.size; omega)).trans d2) ((Below.heap_setCell _ _ _ _ (by show D ≠ w.heap.size; omega)).trans d1) (by omega) (by omega) (by omega) ⟨rfl, ?_⟩
              have b1 := Bw.setCell (p := ⟨w.heap.size, 0, none⟩) (Nat.le_refl _) (.bool true)
              exact ⟨b1.os, b1.tape, b1.output, by simpa using b1.size, fun q hq => (World.putObj_heap_other (by omega)).trans ((World.putObj_heap_other (by omega)).trans (b1.block q hq))⟩
end Go.Proofs.YthalpnpnbclipaaGreat
