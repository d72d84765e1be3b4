import Derived.Test.YtdjodigimhgklaaGreatDoorP14
import Derived.Test.YtdjodigimhgklaaGreatDoorP08
import Derived.Test.YtdjodigimhgklaaGreatDoorP15
/- What a list of payloads is in memory: one array in which they stand one behind the other, and a list of slices of it. -/
namespace Go.Proofs.YtdjodigimhgklaaGreatDoor
open Go.RowKit

/-- payload k; none where there is none -/
def rc (rs : List (List UInt8)) (k : Nat) : List UInt8 := rs.getD k []
/-- where payload k begins -/
def poffs (rs : List (List UInt8)) (k : Nat) : Nat := (rs.take k).flatten.length
theorem offs_zero (rs : List (List UInt8)) : poffs rs 0 = 0 := rfl
theorem rc_get (rs : List (List UInt8)) (k : Nat) (h : k < rs.length) : rs[k]? = some (rc rs k) := by
  simp [rc, List.getD, h]
theorem offs_succ (rs : List (List UInt8)) (k : Nat) (h : k < rs.length) : poffs rs (k + 1) = poffs rs k + (rc rs k).length := by
  unfold poffs rc
  rw [List.take_add_one, List.flatten_append, List.length_append, List.getD]
  rw [List.getElem?_eq_getElem h]
  simp
theorem offs_all (rs : List (List UInt8)) : poffs rs rs.length = rs.flatten.length := by unfold poffs; rw [List.take_length]
theorem offs_le (rs : List (List UInt8)) (k : Nat) (h : k < rs.length) : poffs rs k + (rc rs k).length ≤ rs.flatten.length := by
  rw [← offs_succ rs k h]
  unfold poffs
  conv => rhs; rw [← List.take_append_drop (k + 1) rs, List.flatten_append, List.length_append]
  omega
theorem offs_le' (rs : List (List UInt8)) (k : Nat) : poffs rs k ≤ rs.flatten.length := by
  unfold poffs
  conv => rhs; rw [← List.take_append_drop k rs, List.flatten_append, List.length_append]
  omega
/-- payload k stands in the row from its beginning on -/
theorem flat_sub (rs : List (List UInt8)) (k : Nat) (h : k < rs.length) : (rs.flatten.drop (poffs rs k)).take (rc rs k).length = rc rs k := by
  have e : rs.flatten = (rs.take k).flatten ++ (rc rs k ++ (rs.drop (k + 1)).flatten) := by
    have e0 : rs.drop k = rc rs k :: rs.drop (k + 1) := by rw [List.drop_eq_getElem_cons h]; simp [rc, List.getD, h]
    conv => lhs; rw [← List.take_append_drop k rs, List.flatten_append, e0, List.flatten_cons]
  rw [e]
  unfold poffs
  rw [List.drop_left, List.take_left]
theorem rc_snoc (rs : List (List UInt8)) (l : List UInt8) (k : Nat) (h : k < rs.length) : rc (rs ++ [l]) k = rc rs k := by
  simp [rc, List.getD, List.getElem?_append_left h]
theorem rc_last (rs : List (List UInt8)) (l : List UInt8) : rc (rs ++ [l]) rs.length = l := by simp [rc]
theorem offs_snoc (rs : List (List UInt8)) (l : List UInt8) (k : Nat) (h : k ≤ rs.length) : poffs (rs ++ [l]) k = poffs rs k := by
  unfold poffs; rw [List.take_append_of_le_length h]

/-- slice k of a list leads to payload k, within block g -/
def Elt (g : Nat) (rs : List (List UInt8)) (xs : List Value) (k : Nat) : Prop :=
  ∃ a c, xs[k]? = some (.slice a (rc rs k).length c) ∧ (rc rs k).length ≤ c ∧ (a = none → (rc rs k).length = 0 ∧ c = 0) ∧ (0 < (rc rs k).length → a = some ⟨g, poffs rs k, none⟩)

/-- the array of a list of payloads: nil, or all of block g -/
def arrV (g na : Nat) : Value := if na = 0 then .slice none 0 0 else .slice (some ⟨g, 0, none⟩) na na

/-- at place o of block p stands a list of payloads: its array A lies in block g and has na bytes, full; its list is v, with the cells xs -/
structure PayAt (w : World) (p o : Nat) (rs : List (List UInt8)) (g na : Nat) (full : List UInt8) (A v : Value) (xs : List Value) : Prop where
  ca : w.cell? ⟨p, o, none⟩ = some A
  cu : w.cell? ⟨p, o + 1, none⟩ = some (.int .i64 rs.flatten.length)
  cl : w.cell? ⟨p, o + 2, none⟩ = some v
  fa : w.frozen? ⟨p, o, none⟩ = false
  fu : w.frozen? ⟨p, o + 1, none⟩ = false
  fl : w.frozen? ⟨p, o + 2, none⟩ = false
  arr : w.ownsRow 0 5 1 A na (cellsOf full)
  sh : (A = .slice none 0 0 ∧ na = 0) ∨ A = .slice (some ⟨g, 0, none⟩) na na
  pre : full.take rs.flatten.length = rs.flatten
  fit : rs.flatten.length ≤ na
  row : w.ownsRow 0 33 1 v rs.length xs
  el : ∀ k, k < rs.length → Elt g rs xs k
  gp : A.ownBlock = some g → g ≠ p
  vp : v.ownBlock ≠ some p
  gv : A.ownBlock = some g → v.ownBlock ≠ some g

/-- a list of payloads, whose blocks are among those of Fp -/
def IsPay (w : World) (p o : Nat) (rs : List (List UInt8)) (Fp : Nat → Prop) : Prop :=
  ∃ g na full A v xs, PayAt w p o rs g na full A v xs ∧ (∀ k, A.ownBlock = some k → Fp k) ∧ (∀ k, v.ownBlock = some k → Fp k)

/-- the block of a list of payloads is as it was but for its three cells -/
def Rest (p o : Nat) (w w' : World) : Prop := (∀ i, i ≠ o → i ≠ o + 1 → i ≠ o + 2 → w'.cell? ⟨p, i, none⟩ = w.cell? ⟨p, i, none⟩) ∧ (∀ i, w'.frozen? ⟨p, i, none⟩ = w.frozen? ⟨p, i, none⟩)
theorem Rest.trans {p o : Nat} {a b c : World} (h : Rest p o a b) (k : Rest p o b c) : Rest p o a c :=
  ⟨fun i h1 h2 h3 => (k.1 i h1 h2 h3).trans (h.1 i h1 h2 h3), fun i => (k.2 i).trans (h.2 i)⟩
theorem Rest.of_block {p o : Nat} {a b : World} (h : b.heap[p]? = a.heap[p]?) : Rest p o a b :=
  ⟨fun _ _ _ _ => World.cell?_of_block h, fun _ => World.frozen?_of_block h⟩
theorem Rest.setCell {p o : Nat} (w : World) (i : Nat) (v : Value) (hi : i = o ∨ i = o + 1 ∨ i = o + 2) : Rest p o w (w.setCell ⟨p, i, none⟩ v) :=
  ⟨fun k h1 h2 h3 => World.cell?_setCell_other _ _ _ _ (fun e => by cases e; omega), fun k => World.frozen?_setCell _ _ _ _⟩

theorem ownsRow_move' {w w' : World} {e : TypeId} {B n : Nat} {v : Value} {xs : List Value} (h : w.ownsRow B e 1 v n xs) (hb : ∀ g, v.ownBlock = some g → w'.heap[g]? = w.heap[g]?) : w'.ownsRow B e 1 v n xs := by
  refine ⟨h.1, ?_⟩
  rcases h.2 with h0 | ⟨g, cap, cur, rfl, h1, h2, h3⟩
  · exact .inl h0
  · exact .inr ⟨g, cap, cur, rfl, h1, by rw [hb g rfl]; exact h2, h3⟩

theorem PayAt.kept {w w' : World} {p o g na : Nat} {rs : List (List UInt8)} {full : List UInt8} {A v : Value} {xs : List Value} (h : PayAt w p o rs g na full A v xs)
    (hp : w'.heap[p]? = w.heap[p]?) (hA : ∀ k, A.ownBlock = some k → w'.heap[k]? = w.heap[k]?) (hv : ∀ k, v.ownBlock = some k → w'.heap[k]? = w.heap[k]?) : PayAt w' p o rs g na full A v xs :=
  { h with
    ca := by rw [World.cell?_of_block hp]; exact h.ca
    cu := by rw [World.cell?_of_block hp]; exact h.cu
    cl := by rw [World.cell?_of_block hp]; exact h.cl
    fa := by rw [World.frozen?_of_block hp]; exact h.fa
    fu := by rw [World.frozen?_of_block hp]; exact h.fu
    fl := by rw [World.frozen?_of_block hp]; exact h.fl
    arr := ownsRow_move' h.arr hA
    row := ownsRow_move' h.row hv }

theorem PayAt.alt {w : World} {p o g na : Nat} {rs : List (List UInt8)} {full : List UInt8} {A v : Value} {xs : List Value} (h : PayAt w p o rs g na full A v xs) : full.length = na := by
  have := h.arr.1
  rw [cellsOf_length] at this
  omega

/-- the bytes of payload k -/
theorem PayAt.bytes {w : World} {p o g na : Nat} {rs : List (List UInt8)} {full : List UInt8} {A v : Value} {xs : List Value} (h : PayAt w p o rs g na full A v xs) (k : Nat) (hk : k < rs.length) :
    ∃ a c, xs[k]? = some (.slice a (rc rs k).length c) ∧ (rc rs k).length ≤ c ∧ (a = none → (rc rs k).length = 0 ∧ c = 0) ∧ Bytes w a (rc rs k).length (rc rs k) := by
  obtain ⟨a, c, h1, h2, h3, h4⟩ := h.el k hk
  refine ⟨a, c, h1, h2, h3, rfl, fun h0 => ⟨g, poffs rs k, h4 h0, fun i hi => ?_⟩⟩
  have hle := offs_le rs k hk
  have hfit := h.fit
  have hal := h.alt
  rcases h.sh with ⟨_, rfl⟩ | hA
  · omega
  · have harr := h.arr
    rw [hA] at harr
    have hcell := (ownsRow_toBytes harr).1.2 (by omega)
    obtain ⟨b, off, e, hc⟩ := hcell
    cases e
    have := hc (poffs rs k + i) (by omega)
    rw [Nat.zero_add] at this
    rw [this]
    congr 2
    have e1 : bt (rc rs k) i = bt rs.flatten (poffs rs k + i) := by
      conv => lhs; rw [← flat_sub rs k hk]
      rw [bt_take _ _ _ hi, bt_drop]
    have e2 : bt rs.flatten (poffs rs k + i) = bt full (poffs rs k + i) := by
      conv => lhs; rw [← h.pre]
      rw [bt_take _ _ _ (by omega)]
    rw [e1, e2]

/-- the cell of slice k -/
theorem PayAt.cell {w : World} {p o g na : Nat} {rs : List (List UInt8)} {full : List UInt8} {A v : Value} {xs : List Value} (h : PayAt w p o rs g na full A v xs) :
    (v = .slice none 0 0 ∧ rs = []) ∨ ∃ b cap, v = .slice (some ⟨b, 0, none⟩) rs.length cap ∧ rs.length ≤ cap ∧ cap ≤ maxLen ∧ ∀ k x, xs[k]? = some x → w.cell? ⟨b, k, none⟩ = some x := by
  rcases h.row.2 with ⟨h0, h1⟩ | ⟨b, cap, cur, hv, _, _, h3, h4, _⟩
  · exact .inl ⟨h0, List.eq_nil_of_length_eq_zero h1⟩
  · refine .inr ⟨b, cap, hv, h3, h4, fun k x hx => ?_⟩
    have := h.row.cells (g := b) (by rw [hv]; rfl) k x hx
    rw [Addr.add_lit, Nat.zero_add] at this
    exact this

end Go.Proofs.YtdjodigimhgklaaGreatDoor

/- What Truncate, Rename and Remove leave and answer; their walks. -/
namespace Go.Proofs.YtdjodigimhgklaaGreatDoor
open Go.RowKit Go.Maps

def DG.remove (S : DG) (l : List UInt8) : DG × Int := if S.f l = none then (S, 4) else if S.can = true then (S.done.rem l, 0) else (S, 6)
def DG.trunc (S : DG) (l : List UInt8) (n : Int) : DG × Int :=
  if S.f l = none then (S, 4) else if n < 0 ∨ n > ((S.bs l).length : Int) then (S, 2) else if n = ((S.bs l).length : Int) then (S, 0) else if S.can = true then (S.done.set l ((S.bs l).take n.toNat), 0) else (S, 6)
def DG.renam (S : DG) (l t : List UInt8) : DG × Int :=
  if nameB t = false then (S, 2) else if S.f l = none then (S, 4) else if l = t then (S, 0) else if S.can = true then ((S.done.rem l).set t (S.bs l), 0) else (S, 6)

theorem callEnter {k : Nat} {f : Func} (hf : Tryz.prog.funcs[k]? = some f) (h1 : ¬ f.name = "runtime.NumGoroutine") (h3 : f.body.isNone = false) (caps : Array Value) (w : World) : (callFunc k caps).run Tryz.prog w = .ok (.enter k caps) w := by
  have h2 : ¬ f.body = Option.none := fun e => by rw [e] at h3; cases h3
  simp [callFunc, go_sem, hf, h1, h2]
theorem callTrunc (caps : Array Value) (w : World) : (callFunc 119 caps).run Tryz.prog w = .ok (.enter 119 caps) w := callEnter Tryz.func119 (by decide +kernel) (by kernel_rfl) caps w
theorem callRemove (caps : Array Value) (w : World) : (callFunc 128 caps).run Tryz.prog w = .ok (.enter 128 caps) w := callEnter Tryz.func128 (by decide +kernel) (by kernel_rfl) caps w

/-- a call that began with new boxes of its own -/
theorem boxed_end {w w0 w' : World} {p : Nat} {S : DG} {Fp : Nat → Prop} (hlt : ∀ k, Fp k → k < w.heap.size) (hB : Below w.heap.size w w0) (h : IsDisk w' p S (grow Fp w0 w') ∧ Turn Fp w0 w') : IsDisk w' p S (grow Fp w w') ∧ Turn Fp w w' := by
  have hT : Turn Fp w w' := (Turn.of_below Fp hB).trans h.2 (fun _ _ h => h)
  exact ⟨grow_lt h.1 hlt (fun k hk => hk.elim .inl (fun h1 => .inr (by have := hB.size; omega))) hT.size, hT⟩
theorem boxed_same {w w0 : World} {p : Nat} {S : DG} {Fp : Nat → Prop} (hlt : ∀ k, Fp k → k < w.heap.size) (hB : Below w.heap.size w w0) (h : IsDisk w p S Fp) : IsDisk w0 p S (grow Fp w w0) ∧ Turn Fp w w0 :=
  ⟨grow_lt (h.below hB) hlt (fun _ hk => .inl hk) hB.size, Turn.of_below Fp hB⟩

theorem cell_new1 (w : World) (u : Value) (t : TypeId) : (w.alloc (.cells #[u] t)).cell? ⟨w.heap.size, 0, none⟩ = some u := by simp
theorem box3 (w : World) (u v x : Value) (t1 t2 t3 : TypeId) : (((w.alloc (.cells #[u] t1)).alloc (.cells #[v] t2)).alloc (.cells #[x] t3)).cell? ⟨w.heap.size, 0, none⟩ = some u ∧ (((w.alloc (.cells #[u] t1)).alloc (.cells #[v] t2)).alloc (.cells #[x] t3)).cell? ⟨w.heap.size + 1, 0, none⟩ = some v ∧
    (((w.alloc (.cells #[u] t1)).alloc (.cells #[v] t2)).alloc (.cells #[x] t3)).cell? ⟨w.heap.size + 1 + 1, 0, none⟩ = some x := by
  have h1 := cell_new1 w u t1
  have h2 := cell_new1 (w.alloc (.cells #[u] t1)) v t2
  have h3 := cell_new1 ((w.alloc (.cells #[u] t1)).alloc (.cells #[v] t2)) x t3
  rw [World.size_alloc] at h2
  rw [World.size_alloc, World.size_alloc] at h3
  refine ⟨?_, ?_, h3⟩
  · exact (World.grownBy_alloc _ _ none).cell ((World.grownBy_alloc _ _ none).cell h1 (by simp)) (by simp)
  · exact (World.grownBy_alloc _ _ none).cell h2 (by simp)

theorem below_box {w w1 : World} {o : Obj} (h : Below w.heap.size w w1) : Below w.heap.size w (w1.alloc o) := h.alloc h.size o

set_option maxRecDepth 20000 in
set_option maxHeartbeats 2000000 in
theorem remove_any (p : Nat) (S : DG) (Fp : Nat → Prop) (w : World) (s : ByteArray) (hd : IsDisk w p S Fp) (hs : s.size ≤ maxLen) (hw : S.wr < 4611686018427387904) :
    Calls Tryz.prog 85 #[.pointer (some ⟨p, 0, none⟩), .string s] w fun e w' =>
      e = .returned (.int .i64 (S.remove s.data.toList).2) ∧ IsDisk w' p (S.remove s.data.toList).1 (grow Fp w w') ∧ Turn Fp w w' := by
  have hlt := hd.lt
  obtain ⟨w0, hw0⟩ : ∃ w0, w0 = (w.alloc (.cells #[.pointer (some ⟨p, 0, none⟩)] 26)).alloc (.cells #[.string s] 9) := ⟨_, rfl⟩
  have hB0 : Below w.heap.size w w0 := by rw [hw0]; exact below_box (below_box (Below.refl _ _))
  have k0 : w0.cell? ⟨w.heap.size, 0, none⟩ = some (.pointer (some ⟨p, 0, none⟩)) := by rw [hw0]; simp
  have k1 : w0.cell? ⟨w.heap.size + 1, 0, none⟩ = some (.string s) := by rw [hw0]; simp
  have hd0 := hd.below hB0
  have hfile := file_any p S Fp w0 s hd0 hs
  have nd : ¬ Fp w.heap.size := fun h => by have := hlt _ h; omega
  have nn : ¬ Fp (w.heap.size + 1) := fun h => by have := hlt _ h; omega
  have hraw := raw_any 128 p #[.pointer (some ⟨w.heap.size, 0, none⟩), .pointer (some ⟨w.heap.size + 1, 0, none⟩)] S (S.done.rem s.data.toList) Fp w0 (callRemove _) hd0 hw (by
    intro w1 _ hd1 hT1 _
    have hp := hd0.fp
    exact remove1_any p S.done Fp w1 s w.heap.size (w.heap.size + 1) hd1 (hT1.cell k0 (fun e => nd (by simp only at e; rw [e]; exact hp))) (hT1.cell k1 (fun e => nn (by simp only at e; rw [e]; exact hp))) nd nn hs)
  have HS := boxed_same hlt hB0 hd
  cases hf : S.f s.data.toList with
  | none =>
    have e : S.remove s.data.toList = (S, 4) := by simp [DG.remove, hf]
    have er : S.err s.data.toList = 4 := by simp [DG.err, hf]
    rw [e]
    rw [er] at hfile
    go_enter Tryz.func85, Tryz.ntmps85
    go_wp2_with fail
    rw [← hw0]
    clear hw0 hraw hd0
    refine hfile.mono ?_
    rintro e w2 ⟨a, c, rfl, rfl, _⟩
    go_wp2
    go_ret
    exact ⟨rfl, HS⟩
  | some bs =>
    have e : S.remove s.data.toList = (if S.can = true then (S.done.rem s.data.toList, 0) else (S, 6)) := by simp [DG.remove, hf]
    have er : S.err s.data.toList = 0 := by simp [DG.err, hf]
    rw [er] at hfile
    have HE : Hid ((S.remove s.data.toList).2 = (if S.can = true then 0 else 6) ∧ (S.remove s.data.toList).1 = (if S.can = true then S.done.rem s.data.toList else S)) := by
      refine ⟨?_, ?_⟩ <;> rw [e] <;> split <;> rfl
    clear e
    rw [← HE.out.1, ← HE.out.2] at hraw
    generalize S.remove s.data.toList = R at *
    go_enter Tryz.func85, Tryz.ntmps85
    go_wp2_with fail
    rw [← hw0]
    clear hw0 hd0 HS
    refine hfile.mono ?_
    rintro e w2 ⟨a, c, rfl, rfl, _⟩
    go_wp2_with fail
    refine hraw.mono ?_
    rintro e w3 ⟨rfl, hR⟩
    go_wp2
    go_ret
    exact ⟨rfl, boxed_end hlt hB0 hR⟩

set_option maxRecDepth 20000 in
set_option maxHeartbeats 4000000 in
theorem truncate_any (p : Nat) (S : DG) (Fp : Nat → Prop) (w : World) (s : ByteArray) (n : Int) (hd : IsDisk w p S Fp) (hs : s.size ≤ maxLen) (hw : S.wr < 4611686018427387904) (hn : S.n < maxLen) (hbig : (S.bs s.data.toList).length ≤ 4194304) :
    Calls Tryz.prog 75 #[.pointer (some ⟨p, 0, none⟩), .string s, .int .i64 n] w fun e w' =>
      e = .returned (.int .i64 (S.trunc s.data.toList n).2) ∧ IsDisk w' p (S.trunc s.data.toList n).1 (grow Fp w w') ∧ Turn Fp w w' := by
  have hlt := hd.lt
  obtain ⟨w0, hw0⟩ : ∃ w0, w0 = ((w.alloc (.cells #[.pointer (some ⟨p, 0, none⟩)] 26)).alloc (.cells #[.string s] 9)).alloc (.cells #[.int .i64 n] 3) := ⟨_, rfl⟩
  have hk := box3 w (.pointer (some ⟨p, 0, none⟩)) (.string s) (.int .i64 n) 26 9 3
  have hB0 : Below w.heap.size w w0 := by rw [hw0]; exact below_box (below_box (below_box (Below.refl _ _)))
  have hz0 : w0.heap.size = w.heap.size + 3 := by rw [hw0]; simp
  rw [← hw0] at hk
  have k0 := hk.1
  have k1 := hk.2.1
  have k2 := hk.2.2
  have hd0 := hd.below hB0
  have hfile := file_any p S Fp w0 s hd0 hs
  change Calls _ _ _ _ fun e w' => ∃ a c, e = .returned (.tuple #[.slice a (S.bs s.data.toList).length c, .int .i64 (S.err s.data.toList)]) ∧ w' = w0 ∧ Bytes w0 a (S.bs s.data.toList).length (S.bs s.data.toList) ∧ (S.bs s.data.toList).length ≤ c ∧ (a = none → (S.bs s.data.toList).length = 0 ∧ c = 0) ∧ ∃ b M, DiskAt w0 p b M S Fp ∧ M.atKey (.string s.data.toList) nils = .held (.slice a (S.bs s.data.toList).length c) at hfile
  have nf : ∀ j, ¬ Fp (w.heap.size + j) := fun j h => by have := hlt _ h; omega
  have hraw : ∀ (a : Option Addr) (c m : Nat), n = (m : Int) → m ≤ (S.bs s.data.toList).length → Bytes w0 a (S.bs s.data.toList).length (S.bs s.data.toList) → (S.bs s.data.toList).length ≤ c → (a = none → (S.bs s.data.toList).length = 0 ∧ c = 0) → (∃ b M, DiskAt w0 p b M S Fp ∧ M.atKey (.string s.data.toList) nils = .held (.slice a (S.bs s.data.toList).length c)) → S.f s.data.toList = some (S.bs s.data.toList) →
      Calls Tryz.prog 95 #[.pointer (some ⟨p, 0, none⟩), .func (.func 119) #[] #[.pointer (some ⟨w0.heap.size, 0, none⟩), .pointer (some ⟨w.heap.size + 1 + 1, 0, none⟩), .pointer (some ⟨w.heap.size, 0, none⟩), .pointer (some ⟨w.heap.size + 1, 0, none⟩)]] (w0.alloc (.cells #[.slice a (S.bs s.data.toList).length c] 33)) fun e w' =>
        e = .returned (.int .i64 (if S.can = true then 0 else 6)) ∧ IsDisk w' p (if S.can = true then S.done.set s.data.toList ((S.bs s.data.toList).take m) else S) (grow Fp w w') ∧ Turn Fp w w' := by
    intro a c m hnm hm hb hc hnil hv hf
    have hBa : Below w.heap.size w (w0.alloc (.cells #[.slice a (S.bs s.data.toList).length c] 33)) := below_box hB0
    have hBa' : Below w0.heap.size w0 (w0.alloc (.cells #[.slice a (S.bs s.data.toList).length c] 33)) := below_box (Below.refl _ _)
    have hda := hd.below hBa
    have hp := hd.fp
    have np : ∀ j, ¬ w.heap.size + j = p := fun j e => nf j (by rw [e]; exact hp)
    subst hnm
    refine (raw_any 119 p _ S (S.done.set s.data.toList ((S.bs s.data.toList).take m)) Fp _ (callTrunc _) hda hw ?_).mono fun e w' ⟨he, hR⟩ => ⟨he, boxed_end hlt hBa hR⟩
    intro w1 _ hd1 hT1 _
    refine truncate1_any p S.done Fp w1 s w0.heap.size (w.heap.size + 1 + 1) w.heap.size (w.heap.size + 1) a _ c m _ hd1 ?_ ?_ ?_ ?_ ?_ (nf 2) (nf 0) (nf 1) ?_ hc hnil hm (by omega) hs hn
    · exact hT1.cell (by simp) (by simp only; rw [hz0]; exact np 3)
    · exact hT1.cell (by rw [hBa'.cell (World.block_lt_of_cell? w0 _ k2)]; exact k2) (np 2)
    · exact hT1.cell (by rw [hBa'.cell (World.block_lt_of_cell? w0 _ k0)]; exact k0) (np 0)
    · exact hT1.cell (by rw [hBa'.cell (World.block_lt_of_cell? w0 _ k1)]; exact k1) (np 1)
    · rw [hz0]; exact nf 3
    · have hrp : ∀ x, a = some x → ¬ x.block = p := by
        intro x hx e
        obtain ⟨b, M, hD, hv⟩ := hv
        obtain ⟨v0, hv0, _, hg0⟩ := hD.row _ _ hf
        rw [hv] at hv0
        cases hv0
        exact (hg0 x.block (by rw [hx]; rfl)).2.1 e
      have h1 : Bytes (w0.alloc (.cells #[.slice a (S.bs s.data.toList).length c] 33)) a _ _ := (Turn.of_below (fun _ => False) hBa').bytes hb (fun _ _ _ => id)
      exact hT1.bytes h1 (fun _ x hx e => hrp x hx e)
  have HS := fun (a : Option Addr) (c : Nat) => boxed_same (w0 := w0.alloc (.cells #[.slice a (S.bs s.data.toList).length c] 33)) hlt (below_box hB0) hd
  have q0 := fun o => (World.grownBy_alloc w0 o none).cell k0 (by simp)
  have q1 := fun o => (World.grownBy_alloc w0 o none).cell k1 (by simp)
  have q2 := fun o => (World.grownBy_alloc w0 o none).cell k2 (by simp)
  cases hf : S.f s.data.toList with
  | none =>
    have e : S.trunc s.data.toList n = (S, 4) := by simp [DG.trunc, hf]
    have er : S.err s.data.toList = 4 := by simp [DG.err, hf]
    rw [e]
    rw [er] at hfile
    generalize (S.bs s.data.toList) = bs at *
    go_enter Tryz.func75, Tryz.ntmps75
    go_wp2_with fail
    rw [← hw0]
    clear hw0 hraw hd0
    refine hfile.mono ?_
    rintro e w2 ⟨a, c, rfl, rfl, _⟩
    go_wp2
    go_ret
    exact ⟨rfl, HS a c⟩
  | some bs0 =>
    have hfb : S.f s.data.toList = some (S.bs s.data.toList) := by simp [DG.bs, hf]
    have er : S.err s.data.toList = 0 := by simp [DG.err, hf]
    rw [er] at hfile
    have HR : Hid (∀ (a : Option Addr) (c m : Nat), n = (m : Int) → m ≤ (S.bs s.data.toList).length → Bytes w0 a (S.bs s.data.toList).length (S.bs s.data.toList) → (S.bs s.data.toList).length ≤ c → (a = none → (S.bs s.data.toList).length = 0 ∧ c = 0) → (∃ b M, DiskAt w0 p b M S Fp ∧ M.atKey (.string s.data.toList) nils = .held (.slice a (S.bs s.data.toList).length c)) → S.f s.data.toList = some (S.bs s.data.toList) →
      Calls Tryz.prog 95 #[.pointer (some ⟨p, 0, none⟩), .func (.func 119) #[] #[.pointer (some ⟨w0.heap.size, 0, none⟩), .pointer (some ⟨w.heap.size + 1 + 1, 0, none⟩), .pointer (some ⟨w.heap.size, 0, none⟩), .pointer (some ⟨w.heap.size + 1, 0, none⟩)]] (w0.alloc (.cells #[.slice a (S.bs s.data.toList).length c] 33)) fun e w' =>
        e = .returned (.int .i64 (if S.can = true then 0 else 6)) ∧ IsDisk w' p (if S.can = true then S.done.set s.data.toList ((S.bs s.data.toList).take m) else S) (grow Fp w w') ∧ Turn Fp w w') := hraw
    clear hraw hf
    by_cases h1 : n < 0
    · have e : S.trunc s.data.toList n = (S, 2) := by simp [DG.trunc, hfb, h1]
      rw [e]
      generalize (S.bs s.data.toList) = bs at *
      go_enter Tryz.func75, Tryz.ntmps75
      go_wp2_with fail
      rw [← hw0]
      clear hw0 HR hd0
      refine hfile.mono ?_
      rintro e w2 ⟨a, c, rfl, rfl, _⟩
      go_wp2
      go_ret
      exact ⟨rfl, HS a c⟩
    · by_cases h2 : ((S.bs s.data.toList).length : Int) < n
      · have e : S.trunc s.data.toList n = (S, 2) := by simp [DG.trunc, hfb, h2]
        rw [e]
        generalize (S.bs s.data.toList) = bs at *
        go_enter Tryz.func75, Tryz.ntmps75
        go_wp2_with fail
        rw [← hw0]
        clear hw0 HR hd0
        refine hfile.mono ?_
        rintro e w2 ⟨a, c, rfl, rfl, _⟩
        go_wp2
        go_ret
        exact ⟨rfl, HS a c⟩
      · obtain ⟨m, rfl⟩ : ∃ m : Nat, n = (m : Int) := ⟨n.toNat, by omega⟩
        by_cases h3 : m = (S.bs s.data.toList).length
        · have e : S.trunc s.data.toList m = (S, 0) := by
            unfold DG.trunc
            rw [if_neg (by simp [hfb]), if_neg (by omega), if_pos (by omega)]
          rw [e]
          generalize (S.bs s.data.toList) = bs at *
          subst h3
          go_enter Tryz.func75, Tryz.ntmps75
          go_wp2_with fail
          rw [← hw0]
          clear hw0 HR hd0
          refine hfile.mono ?_
          rintro e w2 ⟨a, c, rfl, rfl, _⟩
          go_wp2
          go_ret
          exact ⟨rfl, HS a c⟩
        · have h3' : ¬ (m : Int) = ((S.bs s.data.toList).length : Int) := by omega
          have HE : Hid ((S.trunc s.data.toList m).2 = (if S.can = true then 0 else 6) ∧ (S.trunc s.data.toList m).1 = (if S.can = true then S.done.set s.data.toList ((S.bs s.data.toList).take m) else S)) := by
            have e : S.trunc s.data.toList m = (if S.can = true then (S.done.set s.data.toList ((S.bs s.data.toList).take m), 0) else (S, 6)) := by
              unfold DG.trunc
              rw [if_neg (by simp [hfb]), if_neg (by omega), if_neg (by omega)]
              rfl
            refine ⟨?_, ?_⟩ <;> rw [e] <;> split <;> rfl
          have HR2 := fun a c => HR.out a c m rfl
          rw [← HE.out.1, ← HE.out.2] at HR2
          have HR3 : Hid _ := HR2
          clear HR HR2
          generalize S.trunc s.data.toList m = T at *
          generalize (S.bs s.data.toList) = bs at *
          go_enter Tryz.func75, Tryz.ntmps75
          go_wp2_with fail
          rw [← hw0]
          clear hw0 hd0 HS
          refine hfile.mono ?_
          rintro e w2 ⟨a, c, rfl, rfl, hb, hc, hnl, hDM⟩
          have hraw := HR3.out a c (by omega) hb hc hnl hDM hfb
          have g1 : ¬ (m : Int) < 0 := by omega
          have g2 : ¬ (bs.length : Int) < (m : Int) := by omega
          have g3 : ¬ (m : Int) = (bs.length : Int) := by omega
          clear HR3 hDM hb hk hz0 HE nf hfb er hbig hn hw hs hd hlt h1 h2 h3 h3' hnl hc hB0 hfile
          go_wp2_with fail
          refine hraw.mono ?_
          rintro e w3 ⟨rfl, hR⟩
          go_wp2
          go_ret
          exact ⟨rfl, hR⟩

theorem bytes_ext {s t : ByteArray} (h : s.data.toList = t.data.toList) : s = t := by
  cases s; cases t
  simp at h
  rw [h]

end Go.Proofs.YtdjodigimhgklaaGreatDoor
