import Derived.Test.YtdjodigimhgklaaGreatDoorMD11
import Derived.Test.YtdjodigimhgklaaGreatDoorMD01
/- What Truncate, Rename and Remove leave and answer; their walks. -/
namespace Go.Proofs.YtdjodigimhgklaaGreatDoor
open Go.RowKit Go.Maps

def DG.remove (S : DG) (l : List UInt8) : DG × Int := if S.f l = none then (S, 4) else if S.can = true then (S.done.rem l, 0) else (S, 6)
def DG.trunc (S : DG) (l : List UInt8) (n : Int) : DG × Int :=
  if S.f l = none then (S, 4) else if n < 0 ∨ n > ((S.bs l).length : Int) then (S, 2) else if n = ((S.bs l).length : Int) then (S, 0) else if S.can = true then (S.done.set l ((S.bs l).take n.toNat), 0) else (S, 6)
def DG.renam (S : DG) (l t : List UInt8) : DG × Int :=
  if nameB t = false then (S, 2) else if S.f l = none then (S, 4) else if l = t then (S, 0) else if S.can = true then ((S.done.rem l).set t (S.bs l), 0) else (S, 6)

theorem callEnter {k : Nat} {f : Func} (hf : Tryz.prog.funcs[k]? = some f) (h1 : ¬ f.name = "runtime.NumGoroutine") (h3 : f.body.isNone = false) (caps : Array Value) (w : World) : (callFunc k caps).run Tryz.prog w = .ok (.enter k caps) w := by
  have h2 : ¬ f.body = Option.none := fun e => by rw [e] at h3; cases h3
  simp [callFunc, go_sem, hf, h1, h2]
theorem callTrunc (caps : Array Value) (w : World) : (callFunc 119 caps).run Tryz.prog w = .ok (.enter 119 caps) w := callEnter Tryz.func119 (by decide +kernel) (by kernel_rfl) caps w
theorem callRemove (caps : Array Value) (w : World) : (callFunc 128 caps).run Tryz.prog w = .ok (.enter 128 caps) w := callEnter Tryz.func128 (by decide +kernel) (by kernel_rfl) caps w

/-- a call that began with new boxes of its own -/
theorem boxed_end {w w0 w' : World} {p : Nat} {S : DG} {Fp : Nat → Prop} (hlt : ∀ k, Fp k → k < w.heap.size) (hB : Below w.heap.size w w0) (h : IsDisk w' p S (grow Fp w0 w') ∧ Turn Fp w0 w') : IsDisk w' p S (grow Fp w w') ∧ Turn Fp w w' := by
  have hT : Turn Fp w w' := (Turn.of_below Fp hB).trans h.2 (fun _ _ h => h)
  exact ⟨grow_lt h.1 hlt (fun k hk => hk.elim .inl (fun h1 => .inr (by have := hB.size; omega))) hT.size, hT⟩
theorem boxed_same {w w0 : World} {p : Nat} {S : DG} {Fp : Nat → Prop} (hlt : ∀ k, Fp k → k < w.heap.size) (hB : Below w.heap.size w w0) (h : IsDisk w p S Fp) : IsDisk w0 p S (grow Fp w w0) ∧ Turn Fp w w0 :=
  ⟨grow_lt (h.below hB) hlt (fun _ hk => .inl hk) hB.size, Turn.of_below Fp hB⟩

theorem cell_new1 (w : World) (u : Value) (t : TypeId) : (w.alloc (.cells #[u] t)).cell? ⟨w.heap.size, 0, none⟩ = some u := by simp
theorem box3 (w : World) (u v x : Value) (t1 t2 t3 : TypeId) : (((w.alloc (.cells #[u] t1)).alloc (.cells #[v] t2)).alloc (.cells #[x] t3)).cell? ⟨w.heap.size, 0, none⟩ = some u ∧ (((w.alloc (.cells #[u] t1)).alloc (.cells #[v] t2)).alloc (.cells #[x] t3)).cell? ⟨w.heap.size + 1, 0, none⟩ = some v ∧
    (((w.alloc (.cells #[u] t1)).alloc (.cells #[v] t2)).alloc (.cells #[x] t3)).cell? ⟨w.heap.size + 1 + 1, 0, none⟩ = some x := by
  have h1 := cell_new1 w u t1
  have h2 := cell_new1 (w.alloc (.cells #[u] t1)) v t2
  have h3 := cell_new1 ((w.alloc (.cells #[u] t1)).alloc (.cells #[v] t2)) x t3
  rw [World.size_alloc] at h2
  rw [World.size_alloc, World.size_alloc] at h3
  refine ⟨?_, ?_, h3⟩
  · exact (World.grownBy_alloc _ _ none).cell ((World.grownBy_alloc _ _ none).cell h1 (by simp)) (by simp)
  · exact (World.grownBy_alloc _ _ none).cell h2 (by simp)

theorem below_box {w w1 : World} {o : Obj} (h : Below w.heap.size w w1) : Below w.heap.size w (w1.alloc o) := h.alloc h.size o

set_option maxRecDepth 20000 in
set_option maxHeartbeats 2000000 in
theorem remove_any (p : Nat) (S : DG) (Fp : Nat → Prop) (w : World) (s : ByteArray) (hd : IsDisk w p S Fp) (hs : s.size ≤ maxLen) (hw : S.wr < 4611686018427387904) :
    Calls Tryz.prog 85 #[.pointer (some ⟨p, 0, none⟩), .string s] w fun e w' =>
      e = .returned (.int .i64 (S.remove s.data.toList).2) ∧ IsDisk w' p (S.remove s.data.toList).1 (grow Fp w w') ∧ Turn Fp w w' := by
  have hlt := hd.lt
  obtain ⟨w0, hw0⟩ : ∃ w0, w0 = (w.alloc (.cells #[.pointer (some ⟨p, 0, none⟩)] 26)).alloc (.cells #[.string s] 9) := ⟨_, rfl⟩
  have hB0 : Below w.heap.size w w0 := by rw [hw0]; exact below_box (below_box (Below.refl _ _))
  have k0 : w0.cell? ⟨w.heap.size, 0, none⟩ = some (.pointer (some ⟨p, 0, none⟩)) := by rw [hw0]; simp
  have k1 : w0.cell? ⟨w.heap.size + 1, 0, none⟩ = some (.string s) := by rw [hw0]; simp
  have hd0 := hd.below hB0
  have hfile := file_any p S Fp w0 s hd0 hs
  have nd : ¬ Fp w.heap.size := fun h => by have := hlt _ h; omega
  have nn : ¬ Fp (w.heap.size + 1) := fun h => by have := hlt _ h; omega
  have hraw := raw_any 128 p #[.pointer (some ⟨w.heap.size, 0, none⟩), .pointer (some ⟨w.heap.size + 1, 0, none⟩)] S (S.done.rem s.data.toList) Fp w0 (callRemove _) hd0 hw (by
    intro w1 _ hd1 hT1 _
    have hp := hd0.fp
    exact remove1_any p S.done Fp w1 s w.heap.size (w.heap.size + 1) hd1 (hT1.cell k0 (fun e => nd (by simp only at e; rw [e]; exact hp))) (hT1.cell k1 (fun e => nn (by simp only at e; rw [e]; exact hp))) nd nn hs)
  have HS := boxed_same hlt hB0 hd
  cases hf : S.f s.data.toList with
  | none =>
    have e : S.remove s.data.toList = (S, 4) := by simp [DG.remove, hf]
    have er : S.err s.data.toList = 4 := by simp [DG.err, hf]
    rw [e]
    rw [er] at hfile
    go_enter Tryz.func85, Tryz.ntmps85
    go_wp2_with fail
    rw [← hw0]
    clear hw0 hraw hd0
    refine hfile.mono ?_
    rintro e w2 ⟨a, c, rfl, rfl, _⟩
    go_wp2
    go_ret
    exact ⟨rfl, HS⟩
  | some bs =>
    have e : S.remove s.data.toList = (if S.can = true then (S.done.rem s.data.toList, 0) else (S, 6)) := by simp [DG.remove, hf]
    have er : S.err s.data.toList = 0 := by simp [DG.err, hf]
    rw [er] at hfile
    have HE : Hid ((S.remove s.data.toList).2 = (if S.can = true then 0 else 6) ∧ (S.remove s.data.toList).1 = (if S.can = true then S.done.rem s.data.toList else S)) := by
      refine ⟨?_, ?_⟩ <;> rw [e] <;> split <;> rfl
    clear e
    rw [← HE.out.1, ← HE.out.2] at hraw
    generalize S.remove s.data.toList = R at *
    go_enter Tryz.func85, Tryz.ntmps85
    go_wp2_with fail
    rw [← hw0]
    clear hw0 hd0 HS
    refine hfile.mono ?_
    rintro e w2 ⟨a, c, rfl, rfl, _⟩
    go_wp2_with fail
    refine hraw.mono ?_
    rintro e w3 ⟨rfl, hR⟩
    go_wp2
    go_ret
    exact ⟨rfl, boxed_end hlt hB0 hR⟩

set_option maxRecDepth 20000 in
set_option maxHeartbeats 4000000 in
theorem truncate_any (p : Nat) (S : DG) (Fp : Nat → Prop) (w : World) (s : ByteArray) (n : Int) (hd : IsDisk w p S Fp) (hs : s.size ≤ maxLen) (hw : S.wr < 4611686018427387904) (hn : S.n < maxLen) (hbig : (S.bs s.data.toList).length ≤ 4194304) :
    Calls Tryz.prog 75 #[.pointer (some ⟨p, 0, none⟩), .string s, .int .i64 n] w fun e w' =>
      e = .returned (.int .i64 (S.trunc s.data.toList n).2) ∧ IsDisk w' p (S.trunc s.data.toList n).1 (grow Fp w w') ∧ Turn Fp w w' := by
  have hlt := hd.lt
  obtain ⟨w0, hw0⟩ : ∃ w0, w0 = ((w.alloc (.cells #[.pointer (some ⟨p, 0, none⟩)] 26)).alloc (.cells #[.string s] 9)).alloc (.cells #[.int .i64 n] 3) := ⟨_, rfl⟩
  have hk := box3 w (.pointer (some ⟨p, 0, none⟩)) (.string s) (.int .i64 n) 26 9 3
  have hB0 : Below w.heap.size w w0 := by rw [hw0]; exact below_box (below_box (below_box (Below.refl _ _)))
  have hz0 : w0.heap.size = w.heap.size + 3 := by rw [hw0]; simp
  rw [← hw0] at hk
  have k0 := hk.1
  have k1 := hk.2.1
  have k2 := hk.2.2
  have hd0 := hd.below hB0
  have hfile := file_any p S Fp w0 s hd0 hs
  change Calls _ _ _ _ fun e w' => ∃ a c, e = .returned (.tuple #[.slice a (S.bs s.data.toList).length c, .int .i64 (S.err s.data.toList)]) ∧ w' = w0 ∧ Bytes w0 a (S.bs s.data.toList).length (S.bs s.data.toList) ∧ (S.bs s.data.toList).length ≤ c ∧ (a = none → (S.bs s.data.toList).length = 0 ∧ c = 0) ∧ ∃ b M, DiskAt w0 p b M S Fp ∧ M.atKey (.string s.data.toList) nils = .held (.slice a (S.bs s.data.toList).length c) at hfile
  have nf : ∀ j, ¬ Fp (w.heap.size + j) := fun j h => by have := hlt _ h; omega
  have hraw : ∀ (a : Option Addr) (c m : Nat), n = (m : Int) → m ≤ (S.bs s.data.toList).length → Bytes w0 a (S.bs s.data.toList).length (S.bs s.data.toList) → (S.bs s.data.toList).length ≤ c → (a = none → (S.bs s.data.toList).length = 0 ∧ c = 0) → (∃ b M, DiskAt w0 p b M S Fp ∧ M.atKey (.string s.data.toList) nils = .held (.slice a (S.bs s.data.toList).length c)) → S.f s.data.toList = some (S.bs s.data.toList) →
      Calls Tryz.prog 95 #[.pointer (some ⟨p, 0, none⟩), .func (.func 119) #[] #[.pointer (some ⟨w0.heap.size, 0, none⟩), .pointer (some ⟨w.heap.size + 1 + 1, 0, none⟩), .pointer (some ⟨w.heap.size, 0, none⟩), .pointer (some ⟨w.heap.size + 1, 0, none⟩)]] (w0.alloc (.cells #[.slice a (S.bs s.data.toList).length c] 33)) fun e w' =>
        e = .returned (.int .i64 (if S.can = true then 0 else 6)) ∧ IsDisk w' p (if S.can = true then S.done.set s.data.toList ((S.bs s.data.toList).take m) else S) (grow Fp w w') ∧ Turn Fp w w' := by
    intro a c m hnm hm hb hc hnil hv hf
    have hBa : Below w.heap.size w (w0.alloc (.cells #[.slice a (S.bs s.data.toList).length c] 33)) := below_box hB0
    have hBa' : Below w0.heap.size w0 (w0.alloc (.cells #[.slice a (S.bs s.data.toList).length c] 33)) := below_box (Below.refl _ _)
    have hda := hd.below hBa
    have hp := hd.fp
    have np : ∀ j, ¬ w.heap.size + j = p := fun j e => nf j (by rw [e]; exact hp)
    subst hnm
    refine (raw_any 119 p _ S (S.done.set s.data.toList ((S.bs s.data.toList).take m)) Fp _ (callTrunc _) hda hw ?_).mono fun e w' ⟨he, hR⟩ => ⟨he, boxed_end hlt hBa hR⟩
    intro w1 _ hd1 hT1 _
    refine truncate1_any p S.done Fp w1 s w0.heap.size (w.heap.size + 1 + 1) w.heap.size (w.heap.size + 1) a _ c m _ hd1 ?_ ?_ ?_ ?_ ?_ (nf 2) (nf 0) (nf 1) ?_ hc hnil hm (by omega) hs hn
    · exact hT1.cell (by simp) (by simp only; rw [hz0]; exact np 3)
    · exact hT1.cell (by rw [hBa'.cell (World.block_lt_of_cell? w0 _ k2)]; exact k2) (np 2)
    · exact hT1.cell (by rw [hBa'.cell (World.block_lt_of_cell? w0 _ k0)]; exact k0) (np 0)
    · exact hT1.cell (by rw [hBa'.cell (World.block_lt_of_cell? w0 _ k1)]; exact k1) (np 1)
    · rw [hz0]; exact nf 3
    · have hrp : ∀ x, a = some x → ¬ x.block = p := by
        intro x hx e
        obtain ⟨b, M, hD, hv⟩ := hv
        obtain ⟨v0, hv0, _, hg0⟩ := hD.row _ _ hf
        rw [hv] at hv0
        cases hv0
        exact (hg0 x.block (by rw [hx]; rfl)).2.1 e
      have h1 : Bytes (w0.alloc (.cells #[.slice a (S.bs s.data.toList).length c] 33)) a _ _ := (Turn.of_below (fun _ => False) hBa').bytes hb (fun _ _ _ => id)
      exact hT1.bytes h1 (fun _ x hx e => hrp x hx e)
  have HS := fun (a : Option Addr) (c : Nat) => boxed_same (w0 := w0.alloc (.cells #[.slice a (S.bs s.data.toList).length c] 33)) hlt (below_box hB0) hd
  have q0 := fun o => (World.grownBy_alloc w0 o none).cell k0 (by simp)
  have q1 := fun o => (World.grownBy_alloc w0 o none).cell k1 (by simp)
  have q2 := fun o => (World.grownBy_alloc w0 o none).cell k2 (by simp)
  cases hf : S.f s.data.toList with
  | none =>
    have e : S.trunc s.data.toList n = (S, 4) := by simp [DG.trunc, hf]
    have er : S.err s.data.toList = 4 := by simp [DG.err, hf]
    rw [e]
    rw [er] at hfile
    generalize (S.bs s.data.toList) = bs at *
    go_enter Tryz.func75, Tryz.ntmps75
    go_wp2_with fail
    rw [← hw0]
    clear hw0 hraw hd0
    refine hfile.mono ?_
    rintro e w2 ⟨a, c, rfl, rfl, _⟩
    go_wp2
    go_ret
    exact ⟨rfl, HS a c⟩
  | some bs0 =>
    have hfb : S.f s.data.toList = some (S.bs s.data.toList) := by simp [DG.bs, hf]
    have er : S.err s.data.toList = 0 := by simp [DG.err, hf]
    rw [er] at hfile
    have HR : Hid (∀ (a : Option Addr) (c m : Nat), n = (m : Int) → m ≤ (S.bs s.data.toList).length → Bytes w0 a (S.bs s.data.toList).length (S.bs s.data.toList) → (S.bs s.data.toList).length ≤ c → (a = none → (S.bs s.data.toList).length = 0 ∧ c = 0) → (∃ b M, DiskAt w0 p b M S Fp ∧ M.atKey (.string s.data.toList) nils = .held (.slice a (S.bs s.data.toList).length c)) → S.f s.data.toList = some (S.bs s.data.toList) →
      Calls Tryz.prog 95 #[.pointer (some ⟨p, 0, none⟩), .func (.func 119) #[] #[.pointer (some ⟨w0.heap.size, 0, none⟩), .pointer (some ⟨w.heap.size + 1 + 1, 0, none⟩), .pointer (some ⟨w.heap.size, 0, none⟩), .pointer (some ⟨w.heap.size + 1, 0, none⟩)]] (w0.alloc (.cells #[.slice a (S.bs s.data.toList).length c] 33)) fun e w' =>
        e = .returned (.int .i64 (if S.can = true then 0 else 6)) ∧ IsDisk w' p (if S.can = true then S.done.set s.data.toList ((S.bs s.data.toList).take m) else S) (grow Fp w w') ∧ Turn Fp w w') := hraw
    clear hraw hf
    by_cases h1 : n < 0
    · have e : S.trunc s.data.toList n = (S, 2) := by simp [DG.trunc, hfb, h1]
      rw [e]
      generalize (S.bs s.data.toList) = bs at *
      go_enter Tryz.func75, Tryz.ntmps75
      go_wp2_with fail
      rw [← hw0]
      clear hw0 HR hd0
      refine hfile.mono ?_
      rintro e w2 ⟨a, c, rfl, rfl, _⟩
      go_wp2
      go_ret
      exact ⟨rfl, HS a c⟩
    · by_cases h2 : ((S.bs s.data.toList).length : Int) < n
      · have e : S.trunc s.data.toList n = (S, 2) := by simp [DG.trunc, hfb, h2]
        rw [e]
        generalize (S.bs s.data.toList) = bs at *
        go_enter Tryz.func75, Tryz.ntmps75
        go_wp2_with fail
        rw [← hw0]
        clear hw0 HR hd0
        refine hfile.mono ?_
        rintro e w2 ⟨a, c, rfl, rfl, _⟩
        go_wp2
        go_ret
        exact ⟨rfl, HS a c⟩
      · obtain ⟨m, rfl⟩ : ∃ m : Nat, n = (m : Int) := ⟨n.toNat, by omega⟩
        by_cases h3 : m = (S.bs s.data.toList).length
        · have e : S.trunc s.data.toList m = (S, 0) := by
            unfold DG.trunc
            rw [if_neg (by simp [hfb]), if_neg (by omega), if_pos (by omega)]
          rw [e]
          generalize (S.bs s.data.toList) = bs at *
          subst h3
          go_enter Tryz.func75, Tryz.ntmps75
          go_wp2_with fail
          rw [← hw0]
          clear hw0 HR hd0
          refine hfile.mono ?_
          rintro e w2 ⟨a, c, rfl, rfl, _⟩
          go_wp2
          go_ret
          exact ⟨rfl, HS a c⟩
        · have h3' : ¬ (m : Int) = ((S.bs s.data.toList).length : Int) := by omega
          have HE : Hid ((S.trunc s.data.toList m).2 = (if S.can = true then 0 else 6) ∧ (S.trunc s.data.toList m).1 = (if S.can = true then S.done.set s.data.toList ((S.bs s.data.toList).take m) else S)) := by
            have e : S.trunc s.data.toList m = (if S.can = true then (S.done.set s.data.toList ((S.bs s.data.toList).take m), 0) else (S, 6)) := by
              unfold DG.trunc
              rw [if_neg (by simp [hfb]), if_neg (by omega), if_neg (by omega)]
              rfl
            refine ⟨?_, ?_⟩ <;> rw [e] <;> split <;> rfl
          have HR2 := fun a c => HR.out a c m rfl
          rw [← HE.out.1, ← HE.out.2] at HR2
          have HR3 : Hid _ := HR2
          clear HR HR2
          generalize S.trunc s.data.toList m = T at *
          generalize (S.bs s.data.toList) = bs at *
          go_enter Tryz.func75, Tryz.ntmps75
          go_wp2_with fail
          rw [← hw0]
          clear hw0 hd0 HS
          refine hfile.mono ?_
          rintro e w2 ⟨a, c, rfl, rfl, hb, hc, hnl, hDM⟩
          have hraw := HR3.out a c (by omega) hb hc hnl hDM hfb
          have g1 : ¬ (m : Int) < 0 := by omega
          have g2 : ¬ (bs.length : Int) < (m : Int) := by omega
          have g3 : ¬ (m : Int) = (bs.length : Int) := by omega
          clear HR3 hDM hb hk hz0 HE nf hfb er hbig hn hw hs hd hlt h1 h2 h3 h3' hnl hc hB0 hfile
          go_wp2_with fail
          refine hraw.mono ?_
          rintro e w3 ⟨rfl, hR⟩
          go_wp2
          go_ret
          exact ⟨rfl, hR⟩

theorem bytes_ext {s t : ByteArray} (h : s.data.toList = t.data.toList) : s = t := by
  cases s; cases t
  simp at h
  rw [h]

end Go.Proofs.YtdjodigimhgklaaGreatDoor

/- What a Journal of the program is in memory, and the walks of its calls that read: Len, Size, Record. -/
namespace Go.Proofs.YtdjodigimhgklaaGreatDoor
open Go.RowKit

/-- block j of w is a Journal over the disk in block d, of that file: its records, how many bytes they have, whether it is cut -/
structure JAt (w : World) (j d : Nat) (nm : ByteArray) (rs : List (List UInt8)) (sz : Nat) (cut : Bool) (Fp : Nat → Prop) : Prop where
  c0 : w.cell? ⟨j, 0, none⟩ = some (.pointer (some ⟨d, 0, none⟩))
  c1 : w.cell? ⟨j, 1, none⟩ = some (.string nm)
  pay : IsPay w j 2 rs Fp
  c5 : w.cell? ⟨j, 5, none⟩ = some (.int .i64 sz)
  c6 : w.cell? ⟨j, 6, none⟩ = some (.bool cut)
  f5 : w.frozen? ⟨j, 5, none⟩ = false
  f6 : w.frozen? ⟨j, 6, none⟩ = false
  fj : Fp j
  lt : ∀ k, Fp k → k < w.heap.size
  cnt : rs.length * 9 + rs.flatten.length ≤ sz
  small : sz ≤ 4194304

theorem IsPay.kept {w w' : World} {p o : Nat} {rs : List (List UInt8)} {Fp : Nat → Prop} (h : IsPay w p o rs Fp) (hp : Fp p) (hk : ∀ k, Fp k → w'.heap[k]? = w.heap[k]?) : IsPay w' p o rs Fp := by
  obtain ⟨g, na, full, A, v, xs, h, h1, h2⟩ := h
  exact ⟨g, na, full, A, v, xs, h.kept (hk p hp) (fun k h => hk k (h1 k h)) (fun k h => hk k (h2 k h)), h1, h2⟩

theorem JAt.kept {w w' : World} {j d : Nat} {nm : ByteArray} {rs : List (List UInt8)} {sz : Nat} {cut : Bool} {Fp : Nat → Prop} (h : JAt w j d nm rs sz cut Fp) (hs : w.heap.size ≤ w'.heap.size) (hk : ∀ k, Fp k → w'.heap[k]? = w.heap[k]?) : JAt w' j d nm rs sz cut Fp :=
  { h with
    c0 := by rw [World.cell?_of_block (hk j h.fj)]; exact h.c0
    c1 := by rw [World.cell?_of_block (hk j h.fj)]; exact h.c1
    pay := h.pay.kept h.fj hk
    c5 := by rw [World.cell?_of_block (hk j h.fj)]; exact h.c5
    c6 := by rw [World.cell?_of_block (hk j h.fj)]; exact h.c6
    f5 := by rw [World.frozen?_of_block (hk j h.fj)]; exact h.f5
    f6 := by rw [World.frozen?_of_block (hk j h.fj)]; exact h.f6
    lt := fun k hf => Nat.lt_of_lt_of_le (h.lt k hf) hs }
theorem JAt.turn {w w' : World} {j d : Nat} {nm : ByteArray} {rs : List (List UInt8)} {sz : Nat} {cut : Bool} {Fp Gp : Nat → Prop} (h : JAt w j d nm rs sz cut Fp) (ht : Turn Gp w w') (hd : ∀ k, Fp k → ¬ Gp k) : JAt w' j d nm rs sz cut Fp :=
  h.kept ht.size (fun k hk => ht.block k (h.lt k hk) (hd k hk))
theorem JAt.below {w w' : World} {j d : Nat} {nm : ByteArray} {rs : List (List UInt8)} {sz : Nat} {cut : Bool} {Fp : Nat → Prop} (h : JAt w j d nm rs sz cut Fp) (hB : Below w.heap.size w w') : JAt w' j d nm rs sz cut Fp :=
  h.turn (Turn.of_below (fun _ => False) hB) (fun _ _ => id)

end Go.Proofs.YtdjodigimhgklaaGreatDoor

/- copy into the array of a list of payloads, as a step of a walk. -/
namespace Go.Proofs.YtdjodigimhgklaaGreatDoor
open Go.RowKit

theorem cellsOf_splice (L : List UInt8) (off : Nat) (l : List UInt8) : cellsOf (splice L off l) = splice (cellsOf L) off (cellsOf l) := by
  simp [splice, cellsOf]
theorem splice_head (L : List UInt8) (off : Nat) (l : List UInt8) (h : off ≤ L.length) : (splice L off l).take (off + l.length) = L.take off ++ l := by
  unfold splice
  rw [← List.append_assoc, List.take_append_of_le_length (by simp; omega), List.take_of_length_le (by simp; omega)]
theorem splice_nil (L : List UInt8) (off : Nat) : splice L off [] = L := by simp [splice]

theorem grownBy_refl (w : World) (row : Option Nat) : w.grownBy w row := ⟨rfl, rfl, rfl, Nat.le_refl _, fun _ _ _ => rfl⟩
theorem grownBy_setRow (w : World) (g : Nat) (cs : Array Value) : w.grownBy (w.setRow g cs) (some g) :=
  ⟨rfl, rfl, rfl, by simp [World.setRow], fun k _ hk => setRow_other w g k cs (fun e => hk (by rw [e]))⟩

/-- copy of bytes into a row of bytes that is owned, from place off on -/
theorem run_copy_bytes (w : World) (ty : TypeId) (A : Value) (g na off : Nat) (full : List UInt8) (hown : w.ownsRow 0 5 1 A na (cellsOf full)) (hA : A = .slice none 0 0 ∨ A = .slice (some ⟨g, 0, none⟩) na na)
    (dp sp : Option Addr) (dl dc m c : Nat) (l : List UInt8) (hb : Bytes w sp m l) (hm : m ≤ dl) (hfit : off + m ≤ na) (hpos : 0 < m → dp = some ⟨g, off, none⟩) :
    ∃ w', (Builtin.copy_ #[33, 33] ty #[.slice dp dl dc, .slice sp m c]).run Tryz.prog w = .ok (goInt m) w' ∧ w'.ownsRow 0 5 1 A na (cellsOf (splice full off l)) ∧ w.grownBy w' A.ownBlock := by
  obtain ⟨i0, hi, hz0, hz1, hz2⟩ := info_parts Tryz.info5
  have hu := Tryz.underlying33
  have hsz : (Tryz.prog.info? 5).map (·.size) = some 1 := by rw [hi]; simp [hz1]
  have hll : (cellsOf l).length = m := by rw [cellsOf_length, hb.1]
  have hmin : Nat.min m dl = m := Nat.min_eq_left hm
  by_cases h0 : m = 0
  · subst h0
    have : l = [] := List.eq_nil_of_length_eq_zero hb.1
    subst this
    rw [splice_nil]
    exact ⟨w, run_copy_none (P := Tryz.prog) w 33 33 ty 5 dp sp dl dc 0 c hu hsz hmin, hown, grownBy_refl _ _⟩
  · obtain rfl := hpos (by omega)
    obtain ⟨b, so, rfl, hc⟩ := hb.2 (by omega)
    rcases hown.2 with ⟨_, hn0⟩ | ⟨g', cap, cur, hAe, _, hg, hcap, hmx, hcs, hxs⟩
    · omega
    · rcases hA with hA | hA
      · rw [hA] at hAe; cases hAe
      · rw [hA] at hAe
        cases hAe
        have hsrc : ∀ j v, (cellsOf l)[j]? = some v → w.cell? ((⟨b, so, none⟩ : Addr).add j) = some v := by
          intro j v hj
          have hjl : j < m := by have := (List.getElem?_eq_some_iff.1 hj).1; omega
          rw [cellsOf_get l j (by rw [hb.1]; exact hjl)] at hj
          rw [Addr.add_lit, hc j hjl]; exact hj
        have hcur : cur.toList = cellsOf full := by
          rw [← hxs, List.take_of_length_le (by simp; omega)]
        have hrun := run_copy_row (P := Tryz.prog) w 33 33 ty 5 g off dl dc ⟨b, so, none⟩ m c cur 5 (cellsOf l) hu hsz hg (by rw [hll]; exact hmin.symm) hsrc (by rw [hll, hcs]; omega) (cellsOf_one l)
        have hfl : full.length = na := by have := hown.1; rw [cellsOf_length] at this; omega
        have hsp : cur.toList.take off ++ (cellsOf l ++ cur.toList.drop (off + (cellsOf l).length)) = cellsOf (splice full off l) := by
          rw [cellsOf_splice, hcur]; rfl
        have hlen : (cellsOf (splice full off l)).length = na := by
          rw [cellsOf_splice, length_splice _ _ _ (by rw [hll, cellsOf_length, hfl]; exact hfit), cellsOf_length, hfl]
        rw [List.append_assoc, hsp] at hrun
        refine ⟨_, by rw [hrun, hll], ⟨by rw [hlen]; omega, .inr ⟨g, na, _, hA, Nat.zero_le _, setRow_heap w g _ _ _ _ hg, Nat.le_refl _, hmx, by simp [hlen], ?_⟩⟩, ?_⟩
        · simp
          exact List.take_of_length_le (by omega)
        · rw [hA]; exact grownBy_setRow w g _

theorem step_copy_bytes (w : World) {ops : Array Oper} {o : Oper} {a : Act} {K : Act → World → Prop} {Q : Exit → Act → World → Prop} {E : Prop} (hgd : o.guard = none) (d s : Operand)
    (ho : o.op = .call { callee := .builtin .copy, args := #[d, s], argTypes := #[33, 33] })
    (A : Value) (g na off : Nat) (full : List UInt8) (hown : w.ownsRow 0 5 1 A na (cellsOf full)) (hA : A = .slice none 0 0 ∨ A = .slice (some ⟨g, 0, none⟩) na na)
    (dp sp : Option Addr) (dl dc m c : Nat) (l : List UInt8) (hd : a.eval d = .slice dp dl dc) (hs : a.eval s = .slice sp m c) (hb : Bytes w sp m l) (hm : m ≤ dl) (hfit : off + m ≤ na) (hpos : 0 < m → dp = some ⟨g, off, none⟩)
    (h : ∀ w', w'.ownsRow 0 5 1 A na (cellsOf (splice full off l)) → w.grownBy w' A.ownBlock → K (a.put o.dst (goInt m)) w') :
    if Region.wanted o (yielded ops a.tmps) = true then Oper.wp Tryz.prog o a w K Q else E := by
  have hw : Region.wanted o (yielded ops a.tmps) = true := by simp [Region.wanted, hgd]
  rw [if_pos hw]
  obtain ⟨w', hr, h1, h2⟩ := run_copy_bytes w o.type A g na off full hown hA dp sp dl dc m c l hb hm hfit hpos
  unfold Oper.wp
  simp [execOp, ho, resolve, invoke, builtin, hd, hs, hr, Result.andThen]
  exact h w' h1 h2

theorem wpList_copy_bytes (w : World) {ops : Array Oper} {rest : List Oper} {o : Oper} {a : Act} {Q : Exit → Act → World → Prop} (hgd : o.guard = none) (d s : Operand)
    (ho : o.op = .call { callee := .builtin .copy, args := #[d, s], argTypes := #[33, 33] })
    (A : Value) (g na off : Nat) (full : List UInt8) (hown : w.ownsRow 0 5 1 A na (cellsOf full)) (hA : A = .slice none 0 0 ∨ A = .slice (some ⟨g, 0, none⟩) na na)
    (dp sp : Option Addr) (dl dc m c : Nat) (l : List UInt8) (hd : a.eval d = .slice dp dl dc) (hs : a.eval s = .slice sp m c) (hb : Bytes w sp m l) (hm : m ≤ dl) (hfit : off + m ≤ na) (hpos : 0 < m → dp = some ⟨g, off, none⟩)
    (h : ∀ w', w'.ownsRow 0 5 1 A na (cellsOf (splice full off l)) → w.grownBy w' A.ownBlock → wpList Tryz.prog ops Q rest (a.put o.dst (goInt m)) w') : wpList Tryz.prog ops Q (o :: rest) a w := by
  refine wpList_plain hgd fun K hK => ?_
  obtain ⟨w', hr, h1, h2⟩ := run_copy_bytes w o.type A g na off full hown hA dp sp dl dc m c l hb hm hfit hpos
  unfold Oper.wp
  simp [execOp, ho, resolve, invoke, builtin, hd, hs, hr, Result.andThen]
  exact hK _ _ (h w' h1 h2)

end Go.Proofs.YtdjodigimhgklaaGreatDoor

/- A Journal whose fields are written: what it is then. -/
namespace Go.Proofs.YtdjodigimhgklaaGreatDoor
open Go.RowKit

theorem IsPay.setCell {w : World} {p o : Nat} {rs : List (List UInt8)} {Fp : Nat → Prop} (h : IsPay w p o rs Fp) (i : Nat) (u : Value) (h0 : i ≠ o) (h1 : i ≠ o + 1) (h2 : i ≠ o + 2) : IsPay (w.setCell ⟨p, i, none⟩ u) p o rs Fp := by
  obtain ⟨g, na, full, A, v, xs, h, hA, hv⟩ := h
  have hAp : ∀ k, A.ownBlock = some k → k ≠ p := fun k e => by
    rcases h.sh with ⟨e1, _⟩ | e1
    · rw [e1] at e; cases e
    · rw [e1] at e
      have : g = k := by simpa [Value.ownBlock] using e
      subst this
      exact h.gp (by rw [e1]; rfl)
  refine ⟨g, na, full, A, v, xs, { h with ca := ?_, cu := ?_, cl := ?_, fa := ?_, fu := ?_, fl := ?_, arr := ?_, row := ?_ }, hA, hv⟩
  · rw [World.cell?_setCell_other _ _ _ _ (fun e => by cases e; omega)]; exact h.ca
  · rw [World.cell?_setCell_other _ _ _ _ (fun e => by cases e; omega)]; exact h.cu
  · rw [World.cell?_setCell_other _ _ _ _ (fun e => by cases e; omega)]; exact h.cl
  · rw [World.frozen?_setCell]; exact h.fa
  · rw [World.frozen?_setCell]; exact h.fu
  · rw [World.frozen?_setCell]; exact h.fl
  · exact ownsRow_move' h.arr (fun k hk => Below.heap_setCell _ _ _ _ (hAp k hk))
  · exact ownsRow_move' h.row (fun k hk => Below.heap_setCell _ _ _ _ (fun e => h.vp (by rw [hk]; exact congrArg some e)))

theorem JAt.wide {w : World} {j d : Nat} {nm : ByteArray} {rs : List (List UInt8)} {sz : Nat} {cut : Bool} {F G : Nat → Prop} (h : JAt w j d nm rs sz cut F) (hs : ∀ k, F k → G k) (hlt : ∀ k, G k → k < w.heap.size) : JAt w j d nm rs sz cut G :=
  { h with
    pay := by
      obtain ⟨g, na, full, A, v, xs, hp, h1, h2⟩ := h.pay
      exact ⟨g, na, full, A, v, xs, hp, fun k hk => hs k (h1 k hk), fun k hk => hs k (h2 k hk)⟩
    fj := hs _ h.fj
    lt := hlt }

/-- a payload was put behind the others, and the size is written -/
theorem JAt.added {w w' : World} {j d : Nat} {nm : ByteArray} {rs : List (List UInt8)} {sz : Nat} {cut : Bool} {F : Nat → Prop} {q : List UInt8} (h : JAt w j d nm rs sz cut F) (hp : IsPay w' j 2 (rs ++ [q]) (grow F w w')) (hT : Turn F w w') (hR : Rest j 2 w w')
    (k : Nat) (hk : 9 + q.length ≤ k) (hs : sz + k ≤ 4194304) (z : Int) (hz : z = ((sz + k : Nat) : Int)) : JAt (w'.setCell ⟨j, 5, none⟩ (.int .i64 z)) j d nm (rs ++ [q]) (sz + k) cut (grow F w w') ∧ Turn F w (w'.setCell ⟨j, 5, none⟩ (.int .i64 z)) := by
  subst hz
  refine ⟨{ c0 := ?_, c1 := ?_, pay := hp.setCell 5 _ (by decide) (by decide) (by decide), c5 := ?_, c6 := ?_, f5 := ?_, f6 := ?_, fj := .inl h.fj, lt := ?_, cnt := ?_, small := hs }, hT.trans (turn_setCell w' j 5 _) (fun i _ hi => by subst hi; exact h.fj)⟩
  · rw [World.cell?_setCell_other _ _ _ _ (by simp), hR.1 0 (by decide) (by decide) (by decide)]; exact h.c0
  · rw [World.cell?_setCell_other _ _ _ _ (by simp), hR.1 1 (by decide) (by decide) (by decide)]; exact h.c1
  · exact World.cell?_setCell_same _ _ _ (by rw [hR.1 5 (by decide) (by decide) (by decide)]; exact h.c5)
  · rw [World.cell?_setCell_other _ _ _ _ (by simp), hR.1 6 (by decide) (by decide) (by decide)]; exact h.c6
  · rw [World.frozen?_setCell, hR.2]; exact h.f5
  · rw [World.frozen?_setCell, hR.2]; exact h.f6
  · intro i hi
    have := hT.size
    rcases hi with hi | hi
    · have := h.lt i hi
      simp [World.setCell]; omega
    · simp [World.setCell]; omega
  · have := h.cnt
    rw [List.length_append, List.length_singleton, List.flatten_append, List.length_append, show ([q] : List (List UInt8)).flatten = q by simp]
    omega

/-- the mark of a cut is written -/
theorem JAt.mark {w : World} {j d : Nat} {nm : ByteArray} {rs : List (List UInt8)} {sz : Nat} {cut : Bool} {F : Nat → Prop} (h : JAt w j d nm rs sz cut F) (b : Bool) : JAt (w.setCell ⟨j, 6, none⟩ (.bool b)) j d nm rs sz b F ∧ Turn F w (w.setCell ⟨j, 6, none⟩ (.bool b)) := by
  refine ⟨{ c0 := ?_, c1 := ?_, pay := h.pay.setCell 6 _ (by decide) (by decide) (by decide), c5 := ?_, c6 := ?_, f5 := ?_, f6 := ?_, fj := h.fj, lt := ?_, cnt := h.cnt, small := h.small }, (turn_setCell w j 6 _).wide (fun k hk => by subst hk; exact h.fj)⟩
  · rw [World.cell?_setCell_other _ _ _ _ (by simp)]; exact h.c0
  · rw [World.cell?_setCell_other _ _ _ _ (by simp)]; exact h.c1
  · rw [World.cell?_setCell_other _ _ _ _ (by simp)]; exact h.c5
  · exact World.cell?_setCell_same _ _ _ h.c6
  · rw [World.frozen?_setCell]; exact h.f5
  · rw [World.frozen?_setCell]; exact h.f6
  · intro i hi
    have := h.lt i hi
    simpa [World.setCell] using this

end Go.Proofs.YtdjodigimhgklaaGreatDoor
