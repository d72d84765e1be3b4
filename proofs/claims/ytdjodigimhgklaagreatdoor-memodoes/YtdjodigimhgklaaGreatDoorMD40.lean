import Derived.Test.YtdjodigimhgklaaGreatDoorMD39
import Derived.Test.YtdjodigimhgklaaGreatDoorMD22
import Derived.Test.YtdjodigimhgklaaGreatDoorMD14
import Derived.Test.YtdjodigimhgklaaGreatDoorMD24
import Derived.Deep.RegionHeld3
import Derived.Test.YtdjodigimhgklaaGreatDoorMD16
import Derived.Test.YtdjodigimhgklaaGreatDoorMD13
import Derived.Deep.CutRange
import Derived.Deep.CutBlock
import Derived.Deep.LoopGhost
import Derived.Laws.BytesArg
import Derived.Test.YtdjodigimhgklaaGreatDoorMD28
import Derived.Test.YtdjodigimhgklaaGreatDoorMD29
import Derived.Test.YtdjodigimhgklaaGreatDoorMD23
import Derived.Laws.OwnMore
/- The document's record: which runs count. -/
namespace Go.Proofs.YtdjodigimhgklaaGreatDoor
open Go.RowKit Go.Shelf Go.Maps

attribute [local go_sem] Oper.semAt_some

/-- under way: the box, the bytes put together -/
structure RcB (w wr : World) (B : Nat) (pv : Value) (last : Nat) (jv v : Value) (L : List UInt8) : Prop where
  box : wr.heap[B]? = some (.cells #[pv, .int .i64 (last : Int), jv] 35)
  own : wr.ownsRow w.heap.size 5 1 v L.length (cellsOf L)
  turn : Turn (fun k => k = B) w wr
  lt : B < w.heap.size
theorem RcB.below {w wr wx : World} {B : Nat} {pv : Value} {last : Nat} {jv v : Value} {L : List UInt8} (h : RcB w wr B pv last jv v L) (hB : Below wr.heap.size wr wx) : RcB w wx B pv last jv v L where
  box := (hB.block B (Nat.lt_of_lt_of_le h.lt h.turn.size)).trans h.box
  own := h.own.kept (row := none) ⟨hB.os, hB.tape, hB.output, hB.size, fun k hk _ => hB.block k hk⟩ (by cases v.ownBlock <;> simp)
  turn := h.turn.trans (Turn.of_below (fun _ => False) hB) fun _ _ e => e.elim
  lt := h.lt
theorem RcB.app {w wr wx : World} {B : Nat} {pv : Value} {last : Nat} {jv v v' : Value} {L M : List UInt8} (h : RcB w wr B pv last jv v L) (ho : wx.ownsRow w.heap.size 5 1 v' (L.length + M.length) (cellsOf L ++ cellsOf M)) (hg : wr.grownBy wx v.ownBlock) : RcB w wx B pv last jv v' (L ++ M) where
  box := by
    rw [← h.box]
    refine hg.block B (Nat.lt_of_lt_of_le h.lt h.turn.size) fun e => ?_
    have := (vrow_block h.own B e.symm).1
    have := h.lt
    omega
  own := by rw [List.length_append, cellsOf_append]; exact ho
  turn := h.turn.trans (Turn.of_grownBy (Fp := fun k => w.heap.size ≤ k) hg fun k e => .inl (vrow_block h.own k e).1) fun i hi hk => by omega
  lt := h.lt
theorem drow_empty (w : World) (base : Nat) (hb : base ≤ w.heap.size) : (w.alloc (.cells #[] 5)).ownsRow base 5 1 (.slice (some ⟨w.heap.size, 0, none⟩) 0 0) 0 [] :=
  World.ownsRow_made w #[] 0 hb (by unfold maxLen; omega) rfl
theorem foldl_lt {B : Nat} : ∀ (l : List Nat) (a : Nat), a < B → (∀ z ∈ l, z < B) → l.foldl max a < B
  | [], _, h, _ => h
  | x :: r, a, h, hl => foldl_lt r (max a x) (by have := hl x (List.mem_cons_self ..); omega) fun z hz => hl z (List.mem_cons_of_mem _ hz)
theorem three_set {W : World} {B : Nat} {a b c : Value} {t : TypeId} (h : W.heap[B]? = some (.cells #[a, b, c] t (0, 0))) (x : Value) : (W.setCell ⟨B, 1, none⟩ x).heap[B]? = some (.cells #[a, x, c] t (0, 0)) ∧ (W.setCell ⟨B, 2, none⟩ x).heap[B]? = some (.cells #[a, b, x] t (0, 0)) ∧ (W.setCell ⟨B, 0, none⟩ x).heap[B]? = some (.cells #[x, b, c] t (0, 0)) := by
  simp [World.setCell, Array.getElem?_modify, h, Array.setIfInBounds]
theorem RcB.last {w wr : World} {B : Nat} {pv : Value} {last : Nat} {jv v : Value} {L : List UInt8} (h : RcB w wr B pv last jv v L) (n : Nat) : RcB w (wr.setCell ⟨B, 1, none⟩ (.int .i64 (n : Int))) B pv n jv v L where
  box := (three_set h.box _).1
  own := yrow_move h.own fun g e => Below.heap_setCell _ _ _ _ (by
    have := (vrow_block h.own g e).1
    have := h.lt
    show g ≠ B
    omega)
  turn := h.turn.trans (turn_setCell wr B 1 _) fun _ _ e => e
  lt := h.lt
theorem RcB.cells {w wr : World} {B : Nat} {pv : Value} {last : Nat} {jv v : Value} {L : List UInt8} (h : RcB w wr B pv last jv v L) : wr.cell? ⟨B, 0, none⟩ = some pv ∧ wr.cell? ⟨B, 1, none⟩ = some (.int .i64 (last : Int)) ∧ wr.cell? ⟨B, 2, none⟩ = some jv ∧ ∀ i, wr.frozen? ⟨B, i, none⟩ = false := by
  have hb := h.box
  refine ⟨?_, ?_, ?_, fun i => ?_⟩
  · simp [World.cell?, hb]
  · simp [World.cell?, hb]
  · simp [World.cell?, hb]
  · simp [World.frozen?, hb]
set_option maxRecDepth 100000 in
set_option maxHeartbeats 8000000 in
theorem drecord_any (w : World) (B : Nat) (pa : Option Addr) (pc : Nat) (ja : Option Addr) (jc : Nat) (m : Wm) (hbox : w.heap[B]? = some (.cells #[.slice pa m.parts.length pc, .int .i64 (m.last : Int), .slice ja m.jn.length jc] 35))
    (h : WmV w (fun k => k = B) pa pc ja jc m) (h4 : m.parts.length ≤ 4) (hn : ∀ p ∈ m.parts, p.1 < 1000000) (hl : m.last < 1000000) (hj : m.jn.length ≤ 1000000) :
    Calls Tryz.prog 48 #[.pointer (some ⟨B, 0, none⟩)] w fun e w' => (∃ v, e = .returned v) ∧ ∃ ja' jc', w'.heap[B]? = some (.cells #[.slice pa m.parts.length pc, .int .i64 ((m.nums.foldl max m.last : Nat) : Int), .slice ja' (m.jn ++ recB (encR m.nums)).length jc'] 35) ∧
      Bytes w' ja' (m.jn ++ recB (encR m.nums)).length (m.jn ++ recB (encR m.nums)) ∧ (∀ x, ja' = some x → w.heap.size ≤ x.block) ∧ (m.jn ++ recB (encR m.nums)).length ≤ jc' ∧ (ja' = none → (m.jn ++ recB (encR m.nums)).length = 0 ∧ jc' = 0) ∧ Turn (fun k => k = B) w w' := by
  have hblt : B < w.heap.size := (Array.getElem?_eq_some_iff.1 hbox).1
  have c0 : w.cell? ⟨B, 0, none⟩ = some (.slice pa m.parts.length pc) := by simp [World.cell?, hbox]
  have hu := refUint_any m.parts.length w (by omega)
  have H0 : Hid (w.heap[B]? = some (.cells #[.slice pa m.parts.length pc, .int .i64 (m.last : Int), .slice ja m.jn.length jc] 35) ∧ B < w.heap.size) := ⟨hbox, hblt⟩
  have HW : Hid (WmV w (fun k => k = B) pa pc ja jc m ∧ (∀ p ∈ m.parts, p.1 < 1000000) ∧ m.last < 1000000 ∧ m.jn.length ≤ 1000000) := ⟨h, hn, hl, hj⟩
  clear h hbox hblt hn hl hj
  go_enter Tryz.func48, Tryz.ntmps48
  go_upto_region 1 with (go_at_call 90; refine hu.mono ?_; clear hu; rintro e w1 ⟨v1, rfl, ho1, hB1⟩; have H1 : Hid (RcB w w1 B (.slice pa m.parts.length pc) m.last (.slice ja m.jn.length jc) v1 (short m.parts.length)) := ⟨(hB1.block B H0.out.2).trans H0.out.1, ho1, Turn.of_below _ hB1, H0.out.2⟩; clear ho1 hB1)
  obtain ⟨c10, _⟩ := H1.out.cells
  clear c0
  go_wp2_with fail
  have H1' : Hid (RcB w w1 B (.slice pa m.parts.length pc) ((m.nums.take 0).foldl max m.last) (.slice ja m.jn.length jc) v1 (short m.parts.length ++ numsB (m.nums.take 0))) := by
    rw [List.take_zero]
    simp only [numsB, List.append_nil]
    exact H1.out
  clear H1 c10
  have hnl : Hid (m.nums.length = m.parts.length) := (List.length_map _ : m.nums.length = m.parts.length)
  go_loopg [2, 17] m.parts.length (fun gk v i wr => ∃ k : Nat, k + gk = m.parts.length ∧ i = .int .i64 (k : Int) ∧ Hid (RcB w wr B (.slice pa m.parts.length pc) ((m.nums.take k).foldl max m.last) (.slice ja m.jn.length jc) v (short m.parts.length ++ numsB (m.nums.take k))))
  case atStart => exact ⟨0, by omega, rfl, H1'⟩
  case round =>
    clear H1'
    obtain ⟨k, hk, rfl, HI⟩ := hrel
    cases gk with
    | zero =>
      obtain rfl : k = m.parts.length := by omega
      have i5 : ¬ ((m.parts.length : Nat) : Int) < (m.parts.length : Int) := by omega
      clear hk
      obtain ⟨p0, p1, p2, p3⟩ := HI.out.cells
      have p5 := p3 2
      obtain ⟨L, hL⟩ : ∃ L, L = short m.parts.length ++ numsB (m.nums.take m.parts.length) := ⟨_, rfl⟩
      obtain ⟨la, hla⟩ : ∃ la, la = (m.nums.take m.parts.length).foldl max m.last := ⟨_, rfl⟩
      have hLe : L = encR m.nums := by
        rw [hL, ← hnl.out, List.take_length]; rfl
      have hlae : la = m.nums.foldl max m.last := by rw [hla, ← hnl.out, List.take_length]
      have hlL : L.length ≤ 100 := by
        rw [hLe]
        have h1 := numsB_len m.nums
        have h2 := short_len m.nums.length
        have := hnl.out
        unfold encR
        rw [List.length_append]
        omega
      have HL : Hid (L = encR m.nums ∧ la = m.nums.foldl max m.last ∧ L.length ≤ 100) := ⟨hLe, hlae, hlL⟩
      rw [← hL, ← hla] at HI
      rw [← hla] at p1
      obtain ⟨xa, xc, rfl, hxc, hxn⟩ := vrow_shape HI.out.own
      clear hL hla hLe hlae
      have hjb : Bytes wr ja m.jn.length m.jn := (HW.out.1.jn.turn HI.out.turn).1
      have hBA : Below wr.heap.size wr (wr.alloc (.cells #[] 5)) := (Below.refl _ wr).alloc (Nat.le_refl _) _
      have HA : Hid (RcB w (wr.alloc (.cells #[] 5)) B (.slice pa m.parts.length pc) la (.slice ja m.jn.length jc) (.slice xa L.length xc) L ∧ (wr.alloc (.cells #[] 5)).ownsRow w.heap.size 5 1 (.slice (some ⟨wr.heap.size, 0, none⟩) 0 0) 0 (cellsOf []) ∧ Bytes (wr.alloc (.cells #[] 5)) ja m.jn.length m.jn ∧ (ja = none → m.jn.length = 0 ∧ jc = 0) ∧ w.heap.size ≤ wr.heap.size ∧ ∀ r, (Value.slice xa L.length xc).ownBlock = some r → r < wr.heap.size) :=
        ⟨HI.out.below hBA, drow_empty wr w.heap.size HI.out.turn.size, vbytes_below hjb hBA, HW.out.1.jnil, HI.out.turn.size, fun r e => (vrow_block HI.out.own r e).2.1⟩
      have hjl : m.jn.length ≤ 1000000 := HW.out.2.2.2
      obtain ⟨_, _, cA2, _⟩ := HA.out.1.cells
      have HJ : Hid (m.jn.length ≤ 1000000 ∧ (recB L).length ≤ 1000) := ⟨hjl, by rw [recB_len]; have := short_len L.length; omega⟩
      clear hjb hBA HI p0 p1 p2 p3 p5
      go_wp2_with first
        | (go_at_call 91; refine hrec.mono ?_; clear hrec; rintro e w5 ⟨rb, rfl, hb5, hB5, hr5⟩; have HC : Hid (w5.ownsRow w.heap.size 5 1 v4 m.jn.length (cellsOf m.jn) ∧ Bytes w5 (some ⟨rb, 0, none⟩) (recB L).length (recB L) ∧ RcB w w5 B (.slice pa m.parts.length pc) la (.slice ja m.jn.length jc) (.slice xa L.length xc) L) := ⟨HB.out.1.kept (row := none) ⟨hB5.os, hB5.tape, hB5.output, hB5.size, fun k hk _ => hB5.block k hk⟩ (by cases v4.ownBlock <;> simp), hb5, HB.out.2.below hB5⟩; clear hb5 hB5 HB)
        | (at_builtin; refine vwpList_app _ w.heap.size HA.out.1.turn.size rfl _ _ rfl (.slice (some ⟨wr.heap.size, 0, none⟩) 0 0) 0 (cellsOf []) rfl HA.out.2.1 ja m.jn.length jc m.jn rfl HA.out.2.2.1 HA.out.2.2.2.1 (by omega) ?_; intro v4 w4 ho4 hg4 _; have hT4 : Turn (fun k => k = wr.heap.size) _ w4 := Turn.of_grownBy hg4 (fun k e => .inl (by cases e; rfl)); have HB : Hid (w4.ownsRow w.heap.size 5 1 v4 m.jn.length (cellsOf m.jn) ∧ RcB w w4 B (.slice pa m.parts.length pc) la (.slice ja m.jn.length jc) (.slice xa L.length xc) L) := ⟨(by have := ho4; rwa [Nat.zero_add] at this), ⟨(hT4.block B (by have := HA.out.1.lt; have := HA.out.1.turn.size; omega) (by have := HA.out.1.lt; have := HA.out.2.2.2.2.1; omega)).trans HA.out.1.box, yrow_move HA.out.1.own (fun g e => hT4.block g (by have := (vrow_block HA.out.1.own g e).2.1; omega) (by have := HA.out.2.2.2.2.2 g e; omega)), HA.out.1.turn.trans hT4 (fun i hi e => by have := HA.out.2.2.2.2.1; omega), HA.out.1.lt⟩⟩; clear ho4 hg4 hT4; have hrec := refRecord_any xa L.length xc L w4 (vrow_bytes HB.out.2.own) (by omega))
        | (at_builtin; go_loud (refine vwpList_app _ w.heap.size HC.out.2.2.turn.size rfl _ _ rfl v4 m.jn.length (cellsOf m.jn) rfl HC.out.1 (some ⟨rb, 0, none⟩) (recB L).length (recB L).length (recB L) rfl HC.out.2.1 (fun e => by cases e) (by have := HJ.out; omega) ?_; intro v6 w6 ho6 hg6 _; obtain ⟨za, zc, rfl, hzc, hzn⟩ := vrow_shape ho6; have hb6 := (hg6.block B (Nat.lt_of_lt_of_le HC.out.2.2.lt HC.out.2.2.turn.size) (fun e => by have := (vrow_block HC.out.1 B e.symm).1; have := HC.out.2.2.lt; omega)).trans HC.out.2.2.box; have hT6 : Turn (fun k => k = B) w w6 := HC.out.2.2.turn.trans (Turn.of_grownBy (Fp := fun k => w.heap.size ≤ k) hg6 (fun k e => .inl (vrow_block HC.out.1 k e).1)) (fun i hi hk => by omega); have HD : Hid (w6.ownsRow w.heap.size 5 1 (.slice za (m.jn.length + (recB L).length) zc) (m.jn.length + (recB L).length) (cellsOf m.jn ++ cellsOf (recB L)) ∧ w6.heap[B]? = some (.cells #[.slice pa m.parts.length pc, .int .i64 (la : Int), .slice ja m.jn.length jc] 35) ∧ Turn (fun k => k = B) w w6) := ⟨ho6, hb6, hT6⟩; have cz2 : w6.cell? ⟨B, 2, none⟩ = some (.slice ja m.jn.length jc) := (by simp [World.cell?, hb6]); have fz2 : w6.frozen? ⟨B, 2, none⟩ = false := (by simp [World.frozen?, hb6]); clear hb6 hT6 ho6 hg6 HC))
      go_end0
      obtain ⟨ho, hb, hT⟩ := HD.out
      have hlen : (m.jn ++ recB (encR m.nums)).length = m.jn.length + (recB L).length := by rw [List.length_append, HL.out.1]
      refine ⟨⟨_, rfl⟩, za, zc, ?_, ?_, fun x e => (vrow_block ho x.block (by rw [e]; rfl)).1, by rw [hlen]; exact hzc, fun e => by rw [hlen]; exact hzn e, hT.trans (turn_setCell w6 B 2 _) fun _ _ e => e⟩
      · rw [hlen, ← HL.out.2.1]; exact (three_set hb _).2.1
      · have hbz : Bytes w6 za (m.jn.length + (recB L).length) (m.jn ++ recB L) := by
          rw [← cellsOf_append] at ho
          exact vrow_bytes ho
        rw [hlen, ← HL.out.1]
        refine (turn_setCell w6 B 2 _).bytes hbz fun _ x e hx => ?_
        have := (vrow_block ho x.block (by rw [e]; rfl)).1
        have := H0.out.2
        omega
    | succ g =>
      obtain ⟨x, hx⟩ : ∃ x, m.parts[k]? = some x := ⟨_, List.getElem?_eq_getElem (by omega)⟩
      obtain ⟨b, o, rfl, _, hbB, hcs⟩ := HW.out.1.parts.cells (by omega)
      obtain ⟨xa, xc, q1, q2, _⟩ := hcs k x hx
      have t1 := HI.out.turn.cell q1 hbB
      have t2 := HI.out.turn.cell q2 hbB
      have hx6 := HW.out.2.1 x (List.mem_of_getElem? hx)
      have i5 : (k : Int) < (m.parts.length : Int) := by omega
      have hmn : m.nums[k]? = some x.1 := by unfold Wm.nums; rw [List.getElem?_map, hx]; rfl
      have htk : m.nums.take (k + 1) = m.nums.take k ++ [x.1] := by rw [List.take_add_one, hmn]; rfl
      obtain ⟨xn, hxn⟩ : ∃ xn, xn = x.1 := ⟨_, rfl⟩
      rw [← hxn] at t1 hx6 htk
      obtain ⟨wb, hwb⟩ : ∃ wb, wb = wr.alloc (.cells #[.int .i64 (xn : Int), .slice xa x.2.length xc] 99) := ⟨_, rfl⟩
      have hBa : Below wr.heap.size wr wb := by rw [hwb]; exact (Below.refl _ wr).alloc (Nat.le_refl _) _
      have hbb : wb.heap[wr.heap.size]? = some (.cells #[.int .i64 (xn : Int), .slice xa x.2.length xc] 99) := by rw [hwb]; exact World.alloc_heap_new wr _
      have cb0 : wb.cell? ⟨wr.heap.size, 0, none⟩ = some (.int .i64 (xn : Int)) := by simp [World.cell?, hbb]
      have hlL : (short m.parts.length ++ numsB (m.nums.take k)).length ≤ 100 := by
        have h1 := numsB_len (m.nums.take k)
        rw [List.length_take] at h1
        have h2 := short_len m.parts.length
        have := hnl.out
        rw [List.length_append]
        omega
      have hfm : (m.nums.take k).foldl max m.last < 1000000 := foldl_lt _ _ HW.out.2.2.1 fun z hz => by
        obtain ⟨p, hp, rfl⟩ := List.mem_map.1 (List.mem_of_mem_take hz)
        exact HW.out.2.1 p hp
      obtain ⟨L, hL⟩ : ∃ L, L = short m.parts.length ++ numsB (m.nums.take k) := ⟨_, rfl⟩
      obtain ⟨la, hla⟩ : ∃ la, la = (m.nums.take k).foldl max m.last := ⟨_, rfl⟩
      rw [← hL] at hlL
      rw [← hla] at hfm
      have HX : Hid (RcB w wb B (.slice (some ⟨b, o, none⟩) m.parts.length pc) la (.slice ja m.jn.length jc) u2 L ∧ short m.parts.length ++ numsB (m.nums.take (k + 1)) = L ++ short xn ∧ (m.nums.take (k + 1)).foldl max m.last = max la xn ∧ wb.cell? ⟨wr.heap.size, 0, none⟩ = some (.int .i64 (xn : Int)) ∧ L.length ≤ 100 ∧ (short xn).length ≤ 10) := by
        refine ⟨?_, ?_, ?_, cb0, hlL, short_len xn⟩
        · rw [hL, hla]; exact HI.out.below hBa
        · rw [htk, numsB_app, hL]; simp [numsB]
        · rw [htk, List.foldl_append, hla]; rfl
      have HO : Hid (∀ r, u2.ownBlock = some r → r < wr.heap.size) := fun r e => (vrow_block HI.out.own r e).2.1
      have hu := refUint_any xn wb (by omega)
      clear hcs hx q1 q2 hbb hBa HI hmn htk hL hla hxn hlL
      go_upto_region 4 with fail
      rw [← hwb]
      clear hwb
      go_upto_region 5 with first
        | (at_builtin; go_loud (refine vwpList_app _ w.heap.size HY.out.1.turn.size rfl _ _ rfl u2 L.length (cellsOf L) rfl HY.out.1.own sa (short xn).length sc (short xn) rfl HY.out.2.1 HY.out.2.2.1 (by have := HX.out.2.2.2.2; omega) ?_); intro v3 w3 ho3 hg3 _; have HZ : Hid (RcB w w3 B (.slice (some ⟨b, o, none⟩) m.parts.length pc) la (.slice ja m.jn.length jc) v3 (L ++ short xn) ∧ w3.cell? ⟨wr.heap.size, 0, none⟩ = some (.int .i64 (xn : Int))) := ⟨HY.out.1.app ho3 hg3, (World.cell?_of_block (hg3.block wr.heap.size (World.block_lt_of_cell? w2 _ HY.out.2.2.2) (fun e => by have := HO.out wr.heap.size e.symm; omega))).trans HY.out.2.2.2⟩; clear ho3 hg3 HY)
        | (go_at_call 90; refine hu.mono ?_; clear hu; rintro e w2 ⟨v2, rfl, ho2, hB2⟩; obtain ⟨sa, sc, rfl, hsc, hsn⟩ := vrow_shape ho2; have HY : Hid (RcB w w2 B (.slice (some ⟨b, o, none⟩) m.parts.length pc) la (.slice ja m.jn.length jc) u2 L ∧ Bytes w2 sa (short xn).length (short xn) ∧ (sa = none → (short xn).length = 0 ∧ sc = 0) ∧ w2.cell? ⟨wr.heap.size, 0, none⟩ = some (.int .i64 (xn : Int))) := ⟨HX.out.1.below hB2, vrow_bytes ho2, hsn, (hB2.cell (p := ⟨wr.heap.size, 0, none⟩) (World.block_lt_of_cell? wb _ cb0)).trans cb0⟩; clear ho2 hB2)
      obtain ⟨p0, p1, p2, p3⟩ := HZ.out.1.cells
      have p4 := HZ.out.2
      have p5 := p3 1
      have HN : Hid (RcB w (w3.setCell ⟨B, 1, none⟩ (.int .i64 ((max la xn : Nat) : Int))).drew B (.slice (some ⟨b, o, none⟩) m.parts.length pc) ((m.nums.take (k + 1)).foldl max m.last) (.slice ja m.jn.length jc) v3 (short m.parts.length ++ numsB (m.nums.take (k + 1)))) := by
        rw [HX.out.2.1, HX.out.2.2.1]
        exact (HZ.out.1.last _).below ⟨rfl, rfl, rfl, Nat.le_refl _, fun _ _ => rfl⟩
      have imx : max (la : Int) (xn : Int) = ((max la xn : Nat) : Int) := by omega
      clear HX HZ p0 p2 p3
      go_region
      go_wp2_with fail
      go_roundg g
      case measure => omega
      case rel => exact ⟨k + 1, by omega, by go_num, HN⟩
end Go.Proofs.YtdjodigimhgklaaGreatDoor

/- The law's stands: the files of a memo. -/
namespace Go.Proofs.YtdjodigimhgklaaGreatDoor
open Go.RowKit Go.Shelf Go.Maps

attribute [local go_sem] Oper.semAt_some

theorem str_nums (l : List UInt8) : strOfNums (l.map fun b => (b.toNat : Int)) = ⟨l.toArray⟩ := by
  refine ByteArray.ext (Array.toList_inj.1 ?_)
  rw [strOfNums_data, List.map_map]
  simp [Function.comp_def]
theorem dequal_any (w : World) (a b : Option Addr) (n c c2 : Nat) (l : List UInt8) (h1 : Bytes w a n l) (h2 : Bytes w b n l) :
    Calls Tryz.prog 25 #[.slice a n c, .slice b n c2] w fun e w' => e = .returned (.bool true) ∧ w' = w := by
  have := Tryz.bytes_Equal (.slice a n c) (.slice b n c2) (l.map fun b => (b.toNat : Int)) (l.map fun b => (b.toNat : Int)) w (by rw [str_nums]; exact run_string w a n c l h1) (by rw [str_nums]; exact run_string w b n c2 l h2)
  simpa using this
theorem err_some {S : DG} {x : List UInt8} (h : (S.f x).isSome = true) : S.err x = 0 := by unfold DG.err; rw [if_pos h]
set_option maxRecDepth 100000 in
set_option maxHeartbeats 8000000 in
theorem stands_any (w : World) (d key : Nat) (G : Nat → Prop) (S : DG) (hd : IsDisk w d S G) (hkey : key < 18446744073709551616) (Q : Nat → Prop) (pa : Option Addr) (pc : Nat) (ja : Option Addr) (jc : Nat) (m : Wm) (hW : WmV w Q pa pc ja jc m)
    (hp4 : m.parts.length ≤ 4) (hnn : ∀ p ∈ m.parts, 0 < p.1 ∧ p.1 < 100) (hj : m.jn ≠ [] → S.bs (nmB key 0) = m.jn ∧ (S.f (nmB key 0)).isSome = true) (hjl : m.jn.length ≤ 1000000)
    (hr : ∀ p ∈ m.parts, S.bs (nmB key p.1) = runB p.2 ∧ (S.f (nmB key p.1)).isSome = true ∧ PrOk p.2 ∧ p.2.length ≤ 65536) (hn : S.n ≤ 1000000) (hns : ∀ ns, S.Lists ns → ns.length = m.parts.length + (if m.jn = [] then 0 else 1)) :
    Calls Tryz.prog 17 #[.pointer (some ⟨d, 0, none⟩), .int .u64 (key : Int), wmVal pa pc ja jc m] w fun e w' => e = .returned (.bool true) ∧ Below w.heap.size w w' := by
  obtain ⟨w0, hw0⟩ : ∃ w0, w0 = w.alloc (.cells #[.slice pa m.parts.length pc, .int .i64 (m.last : Int), .slice ja m.jn.length jc] 35) := ⟨_, rfl⟩
  have hB0 : Below w.heap.size w w0 := by rw [hw0]; exact (Below.refl _ w).alloc (Nat.le_refl _) _
  have hb0 : w0.heap[w.heap.size]? = some (.cells #[.slice pa m.parts.length pc, .int .i64 (m.last : Int), .slice ja m.jn.length jc] 35) := by rw [hw0]; exact World.alloc_heap_new w _
  have c0 : w0.cell? ⟨w.heap.size, 0, none⟩ = some (.slice pa m.parts.length pc) := by simp [World.cell?, hb0]
  have c2 : w0.cell? ⟨w.heap.size, 2, none⟩ = some (.slice ja m.jn.length jc) := by simp [World.cell?, hb0]
  have hlt0 : w.heap.size < w0.heap.size := (Array.getElem?_eq_some_iff.1 hb0).1
  have H0 : Hid (Below w.heap.size w w0 ∧ IsDisk w0 d S G ∧ WmV w0 Q pa pc ja jc m ∧ w0.cell? ⟨w.heap.size, 0, none⟩ = some (.slice pa m.parts.length pc) ∧ w0.cell? ⟨w.heap.size, 2, none⟩ = some (.slice ja m.jn.length jc) ∧ w.heap.size < w0.heap.size) := ⟨hB0, hd.turn (Turn.of_below (fun _ => False) hB0) fun _ _ => id, hW.below hB0, c0, c2, hlt0⟩
  have HP : Hid ((∀ p ∈ m.parts, 0 < p.1 ∧ p.1 < 100) ∧ (m.jn ≠ [] → S.bs (nmB key 0) = m.jn ∧ (S.f (nmB key 0)).isSome = true) ∧ (∀ p ∈ m.parts, S.bs (nmB key p.1) = runB p.2 ∧ (S.f (nmB key p.1)).isSome = true ∧ PrOk p.2 ∧ p.2.length ≤ 65536) ∧ (∀ ns, S.Lists ns → ns.length = m.parts.length + (if m.jn = [] then 0 else 1)) ∧ key < 18446744073709551616 ∧ m.jn.length ≤ 1000000) := ⟨hnn, hj, hr, hns, hkey, hjl⟩
  have HD : Hid (∀ W, Below w0.heap.size w0 W → IsDisk W d S G) := fun W hB => H0.out.2.1.turn (Turn.of_below (fun _ => False) hB) fun _ _ => id
  have HN : Hid (S.n ≤ 1000000) := hn
  obtain ⟨nj, hnj⟩ : ∃ nj, nj = if m.jn = [] then 0 else 1 := ⟨_, rfl⟩
  have hnj1 : nj ≤ 1 := by rw [hnj]; split <;> omega
  have HJ : Hid (nj = if m.jn = [] then 0 else 1) := hnj
  clear hB0 hb0 hlt0 hd hW hkey hnn hj hjl hr hn hns hnj
  go_enter Tryz.func17, Tryz.ntmps17
  go_upto_region 1 with fail
  rw [← hw0]
  clear hw0
  go_upto_if 20 with fail
  go_cut [7] from 14 to 71 (fun v wx => v = .int .i64 ((m.parts.length + nj : Nat) : Int) ∧ Hid (Below w0.heap.size w0 wx))
  case first =>
    by_cases hj0 : m.jn = []
    · have i5 : ¬ ((0 : Int) < (m.jn.length : Int)) := by simp [hj0]
      have hz : nj = 0 := by rw [HJ.out, if_pos hj0]
      subst hz
      have HR : Hid (Below w0.heap.size w0 w0) := Below.refl _ _
      clear hj0
      go_wp2_with fail
      go_meet
      case rel => exact ⟨by simp, HR⟩
    · have i5 : (0 : Int) < (m.jn.length : Int) := by have := List.length_pos_iff.2 hj0; omega
      have hz : nj = 1 := by rw [HJ.out, if_neg hj0]
      subst hz
      have HR : Hid (S.bs (nmB key 0) = m.jn ∧ (S.f (nmB key 0)).isSome = true) := HP.out.2.1 hj0
      have hfl := dfile_any key w0 HP.out.2.2.2.2.1
      clear hj0
      go_wp2_with first
        | (go_at_call 25; refine heq.mono ?_; clear heq; rintro e w3 ⟨rfl, hw3⟩; subst w3)
        | (go_at_call 19; refine hrd.mono ?_; clear hrd; rintro e w2 ⟨ra, rc, rfl, ho2, hB2, _, _⟩; have HR2 : Hid (Below w0.heap.size w0 w2) := HR1.out.trans (hB2.mono HR1.out.size); have heq := dequal_any w2 ra ja m.jn.length rc jc m.jn (vrow_bytes ho2) (vbytes_below H0.out.2.2.1.jn.1 HR2.out); have c22 := (HR2.out.cell (p := ⟨w.heap.size, 2, none⟩) H0.out.2.2.2.2.2).trans H0.out.2.2.2.2.1; clear ho2 hB2)
        | (go_at_call 24; refine hfl.mono ?_; clear hfl; rintro e w1 ⟨rfl, hB1⟩; have HR1 : Hid (Below w0.heap.size w0 w1) := hB1; clear hB1; have hrd := read_any d S G w1 ⟨(nmB key 0).toArray⟩ (HD.out w1 HR1.out) (by have := nm_len key 0 (by omega); unfold maxLen; omega) (by rw [nm_list, HR.out.1]; have := HP.out.2.2.2.2.2; omega); rw [nm_list, HR.out.1, err_some HR.out.2] at hrd)
      go_meet
      case rel => exact ⟨rfl, HR2⟩
  case rest =>
    obtain ⟨rfl, HB⟩ := hcut
    have d0 := (HB.out.cell (p := ⟨w.heap.size, 0, none⟩) H0.out.2.2.2.2.2).trans H0.out.2.2.2.1
    clear c0 c2
    go_wp2_with fail
    go_loopg [42] m.parts.length (fun gk i wx => ∃ k : Nat, k + gk = m.parts.length ∧ i = .int .i64 (k : Int) ∧ Hid (Below w0.heap.size w0 wx))
    case atStart => exact ⟨0, by omega, rfl, HB⟩
    case round =>
      clear HB d0
      obtain ⟨k, hk, rfl, HI⟩ := hrel
      cases gk with
      | zero =>
        obtain rfl : k = m.parts.length := by omega
        have i5 : ¬ ((m.parts.length : Nat) : Int) < (m.parts.length : Int) := by omega
        have hnm := names_any d S G wr (HD.out wr HI.out) HN.out
        clear hk
        go_wp2_with (go_at_call 26; refine hnm.mono ?_; clear hnm; rintro e w5 ⟨ns, na, nc, rfl, hL, _, hB5⟩; have hlen := HP.out.2.2.2.1 ns hL; rw [← HJ.out] at hlen; have HF : Hid (Below w.heap.size w w5) := (H0.out.1.trans (HI.out.mono H0.out.1.size)).trans (hB5.mono (by have := H0.out.1.size; have := HI.out.size; omega)); clear hB5 hL; rw [hlen]; clear hlen)
        go_ret
        exact ⟨by simp, HF.out⟩
      | succ g =>
        obtain ⟨x, hx⟩ : ∃ x, m.parts[k]? = some x := ⟨_, List.getElem?_eq_getElem (by omega)⟩
        obtain ⟨b, o, rfl, _, _, hcs⟩ := (H0.out.2.2.1.below HI.out).parts.cells (by omega)
        obtain ⟨xa, xc, q1, q2, q3⟩ := hcs k x hx
        have i5 : (k : Int) < (m.parts.length : Int) := by omega
        obtain ⟨xn, xl⟩ := x
        simp only at q1 q2 q3
        have hxn := HP.out.1 _ (List.mem_of_getElem? hx)
        have hxr := HP.out.2.2.1 _ (List.mem_of_getElem? hx)
        simp only at hxn hxr
        obtain ⟨wb, hwb⟩ : ∃ wb, wb = wr.alloc (.cells #[.int .i64 (xn : Int), .slice xa xl.length xc] 99) := ⟨_, rfl⟩
        have hBa : Below wr.heap.size wr wb := by rw [hwb]; exact (Below.refl _ wr).alloc (Nat.le_refl _) _
        have hbb : wb.heap[wr.heap.size]? = some (.cells #[.int .i64 (xn : Int), .slice xa xl.length xc] 99) := by rw [hwb]; exact World.alloc_heap_new wr _
        have cb0 : wb.cell? ⟨wr.heap.size, 0, none⟩ = some (.int .i64 (xn : Int)) := by simp [World.cell?, hbb]
        have cb1 : wb.cell? ⟨wr.heap.size, 1, none⟩ = some (.slice xa xl.length xc) := by simp [World.cell?, hbb]
        have HX : Hid (Below w0.heap.size w0 wb ∧ Prs wb xa xl.length xl ∧ (0 < xn ∧ xn < 100) ∧ (S.bs (nmB key xn) = runB xl ∧ (S.f (nmB key xn)).isSome = true ∧ PrOk xl ∧ xl.length ≤ 65536) ∧ wb.cell? ⟨wr.heap.size, 1, none⟩ = some (.slice xa xl.length xc)) := ⟨HI.out.trans (hBa.mono HI.out.size), (q3.below hBa).1.prs, hxn, hxr, cb1⟩
        have hrun := drun_any key xn wb HP.out.2.2.2.2.1 hxn.1 hxn.2
        have HLT : Hid (wr.heap.size < wb.heap.size) := World.block_lt_of_cell? wb ⟨wr.heap.size, 0, none⟩ cb0
        clear hcs hx hbb hBa HI hxn hxr q3
        go_upto_region 10 with fail
        rw [← hwb]
        clear hwb q1 q2
        go_wp2_with first
          | (go_at_call 25; refine heq.mono ?_; clear heq; rintro e w4 ⟨rfl, hw4⟩; subst w4)
          | (go_at_call 51; refine hby.mono ?_; clear hby; rintro e w3 ⟨ya, yc, rfl, ho3, hB3⟩; have heq := dequal_any w3 ra ya (runB xl).length rc yc (runB xl) (vbytes_below HR2.out.2 hB3) (vrow_bytes ho3); have HR3 : Hid (Below w0.heap.size w0 w3) := HR2.out.1.trans (hB3.mono HR2.out.1.size); clear ho3 hB3)
          | (go_at_call 19; refine hrd.mono ?_; clear hrd; rintro e w2 ⟨ra, rc, rfl, ho2, hB2, _, _⟩; have c21 := (hB2.cell (p := ⟨wr.heap.size, 1, none⟩) (Nat.lt_of_lt_of_le HLT.out HR1.out.2.1)).trans HR1.out.2.2; have hby := rbytes_any w2 xa xl.length xc xl ((HX.out.2.1.kept HR1.out.1.2).kept hB2) HX.out.2.2.2.1.2.2.1 (by have := HX.out.2.2.2.1.2.2.2; omega); have HR2 : Hid (Below w0.heap.size w0 w2 ∧ Bytes w2 ra (runB xl).length (runB xl)) := ⟨HR1.out.1.1.trans (hB2.mono HR1.out.1.1.size), vrow_bytes ho2⟩; clear ho2 hB2)
          | (go_at_call 50; refine hrun.mono ?_; clear hrun; rintro e w1 ⟨rfl, hB1⟩; have HR1 : Hid ((Below w0.heap.size w0 w1 ∧ Below wb.heap.size wb w1) ∧ wb.heap.size ≤ w1.heap.size ∧ w1.cell? ⟨wr.heap.size, 1, none⟩ = some (.slice xa xl.length xc)) := ⟨⟨HX.out.1.trans (hB1.mono HX.out.1.size), hB1⟩, hB1.size, (hB1.cell (p := ⟨wr.heap.size, 1, none⟩) HLT.out).trans HX.out.2.2.2.2⟩; clear hB1; have hrd := read_any d S G w1 ⟨(nmB key xn).toArray⟩ (HD.out w1 HR1.out.1.1) (by have := nm_len key xn HX.out.2.2.1.2; unfold maxLen; omega) (by rw [nm_list, HX.out.2.2.2.1.1, runB_len]; have := short_len xl.length; have := HX.out.2.2.2.1.2.2.2; omega); rw [nm_list, HX.out.2.2.2.1.1, err_some HX.out.2.2.2.1.2.1] at hrd)
        go_roundg g
        case measure => omega
        case rel => exact ⟨k + 1, by omega, by go_num, HR3⟩
end Go.Proofs.YtdjodigimhgklaaGreatDoor

/- What the law's same keeps, and the frame of its loop that runs twice. -/
namespace Go.Proofs.YtdjodigimhgklaaGreatDoor
open Go.RowKit Go.Shelf Go.Maps

attribute [local go_sem] Oper.semAt_some

theorem below_putY {W : World} {B D : Nat} (o : Obj) (h : B ≤ D) : Below B W (W.putObj D o) := ⟨rfl, rfl, rfl, by simp, fun k hk => World.putObj_heap_other (by omega)⟩
def dfsY (Ds : List Nat) : List Deferred := Ds.map fun D => { target := .collected D, args := #[] }
/-- the frame between two rounds of the loop that runs twice -/
abbrev lfY (u : Nat → Value) (p0 p3 p4 p5 p6 k : Value) (Ds : List Nat) : Act := { tmps := #[p0, u 1, u 2, p3, p4, p5, p6, k, u 8, u 9, u 10, u 11, u 12, u 13, u 14, u 15, u 16, u 17, u 18, u 19, u 20, u 21, u 22, u 23, u 24, u 25, u 26, u 27, u 28, u 29, u 30, u 31, u 32, u 33, u 34, u 35, u 36, u 37, u 38, u 39, u 40, u 41, u 42, u 43, u 44, u 45, u 46, u 47, u 48, u 49, u 50, u 51, u 52, u 53, u 54, u 55, u 56, u 57, u 58, u 59, u 60, u 61, u 62, u 63, u 64, u 65, u 66, u 67, u 68, u 69, u 70, u 71, u 72, u 73, u 74, u 75, u 76, u 77, u 78, u 79, u 80, u 81, u 82, u 83, u 84, u 85, u 86, u 87, u 88, u 89, u 90, u 91, u 92, u 93, u 94, u 95, u 96, u 97, u 98, u 99, u 100, u 101, u 102, u 103, u 104, u 105, u 106, u 107, u 108, u 109, u 110, u 111, u 112, u 113, u 114, u 115, u 116, u 117, u 118, u 119, u 120, u 121, u 122, u 123, u 124, u 125, u 126, u 127, u 128, u 129, u 130, u 131, u 132, u 133, u 134, u 135, u 136, u 137, u 138, u 139, u 140, u 141], defers := dfsY Ds }
theorem lfY_of {p0 p3 p4 p5 p6 k : Value} {Ds : List Nat} (a : Act) (h : a = lfY (fun i => a.tmps.getD i undef) p0 p3 p4 p5 p6 k Ds) : ∃ u, a = lfY u p0 p3 p4 p5 p6 k Ds := ⟨_, h⟩

theorem bool_retY {n k base p : Nat} {f : Func} {u : Value} {tmps : Array Value} {P : Ending → World → Prop} (hf : f.results = #[ResultVar.cell k 4]) (ha : tmps[k]?.getD undef = .pointer (some ⟨p, 0, none⟩)) (hpb : p < base) :
    ∀ (Ds : List Nat) (W : World), Boxed W p 4 u → Ds.Nodup → (∀ D ∈ Ds, base ≤ D ∧ W.heap[D]? = some (.deferred (some []))) → (∀ W', Below base W W' → P (.returned u) W') →
    bodyPostM Fence.wide n Tryz.prog f P Exit.ret { tmps := tmps, defers := dfsY Ds } W
  | [], W, hb, _, _, hP => by
    have c0 := hb.cell
    exact ⟨u, by simp [results, hf, go_sem, ha, c0], hP W (Below.refl _ _)⟩
  | D :: r, W, hb, hn, hD, hP => by
    obtain ⟨hD0, hK⟩ := hD D (by simp)
    have hB : Below base W (W.putObj D (.deferred none)) := below_putY _ hD0
    have ih := bool_retY (n := n) (P := P) hf ha hpb r (W.putObj D (.deferred none)) ((hB.block p hpb).trans hb) (List.nodup_cons.1 hn).2 (fun E hE => ⟨(hD E (by simp [hE])).1, by
      rw [World.putObj_heap_other (fun e => (List.nodup_cons.1 hn).1 (by rw [← e]; exact hE))]; exact (hD E (by simp [hE])).2⟩) (fun W' h => hP W' (hB.trans h))
    refine ⟨by simp, .inl ⟨_, _, rfl, run_takeDeferred hK, ?_⟩⟩
    exact ih


/-- behind a loop: what the next round asks -/
structure LoopY (w4 W X : World) (D : Nat) (Ds : List Nat) : Prop where
  old : w4.heap.size ≤ W.heap.size ∧ Below w4.heap.size w4 W ∧ Ds.Nodup ∧ (∀ D ∈ Ds, w4.heap.size ≤ D ∧ W.heap[D]? = some (.deferred (some [])))
  bel : Below W.heap.size W X
  ge : W.heap.size ≤ D
  now : X.heap[D]? = some (.deferred (some []))
theorem LoopY.next {w4 W X : World} {D : Nat} {Ds : List Nat} (h : LoopY w4 W X D Ds) : w4.heap.size ≤ X.heap.size ∧ Below w4.heap.size w4 X ∧ (D :: Ds).Nodup ∧ (∀ E ∈ D :: Ds, w4.heap.size ≤ E ∧ X.heap[E]? = some (.deferred (some []))) := by
  obtain ⟨h1, h2, h3, h4⟩ := h.old
  have hlt : ∀ E ∈ Ds, E < W.heap.size := fun E hE => (Array.getElem?_eq_some_iff.1 (h4 E hE).2).1
  refine ⟨Nat.le_trans h1 h.bel.size, h2.trans (h.bel.mono h1), List.nodup_cons.2 ⟨fun hm => ?_, h3⟩, fun E hE => ?_⟩
  · have := hlt D hm; have := h.ge; omega
  · rcases List.mem_cons.1 hE with rfl | hE
    · exact ⟨by have := h.ge; omega, h.now⟩
    · exact ⟨(h4 E hE).1, (h.bel.block E (hlt E hE)).trans (h4 E hE).2⟩



set_option maxRecDepth 100000 in
theorem run_seq_nilY (W : World) (f : Nat) (p : Value) : (binOp .eql 70 (.func (.func f) #[] #[p]) .nilFunc).run Tryz.prog W = .ok (.bool false) W := by
  rfl
/-- what stands in memory while a memo is held against the document's -/
structure SmI (w W : World) (m d j : Nat) (g : Me) (vr : Value) (ma : Option Addr) (mc : Nat) (F : Nat → Prop) (Q : Nat → Prop) (pa : Option Addr) (pc : Nat) (ja : Option Addr) (jc : Nat) (mm : Wm) (B5 : Nat) (la : Option Addr) (lc : Nat) : Prop where
  below : Below w.heap.size w W
  b3 : W.heap[w.heap.size]? = some (.cells #[.slice pa mm.parts.length pc, .int .i64 (mm.last : Int), .slice ja mm.jn.length jc] 35)
  b4 : Boxed W (w.heap.size + 1) 4 (.bool false)
  b5 : Boxed W B5 36 (.slice la g.ps.length lc)
  bm : Boxed W (B5 + 1) 28 (.pointer (some ⟨m, 0, none⟩))
  row : PrV W la g.ps.length lc g.ps
  me : MeAt W m d j g vr ma mc F
  wm : WmV W Q pa pc ja jc mm
  s1 : w.heap.size + 2 ≤ B5
  s2 : B5 + 2 ≤ W.heap.size
theorem SmI.kept {w W W' : World} {m d j : Nat} {g : Me} {vr : Value} {ma : Option Addr} {mc : Nat} {F : Nat → Prop} {Q : Nat → Prop} {pa : Option Addr} {pc : Nat} {ja : Option Addr} {jc : Nat} {mm : Wm} {B5 : Nat} {la : Option Addr} {lc : Nat} (h : SmI w W m d j g vr ma mc F Q pa pc ja jc mm B5 la lc) (hB : Below W.heap.size W W') : SmI w W' m d j g vr ma mc F Q pa pc ja jc mm B5 la lc where
  below := h.below.trans (hB.mono h.below.size)
  b3 := (hB.block _ (by have := h.s1; have := h.s2; omega)).trans h.b3
  b4 := (hB.block _ (by have := h.s1; have := h.s2; omega)).trans h.b4
  b5 := (hB.block _ (by have := h.s2; omega)).trans h.b5
  bm := (hB.block _ (by have := h.s2; omega)).trans h.bm
  row := h.row.kept hB
  me := h.me.below hB
  wm := h.wm.below hB
  s1 := h.s1
  s2 := Nat.le_trans h.s2 hB.size
end Go.Proofs.YtdjodigimhgklaaGreatDoor
