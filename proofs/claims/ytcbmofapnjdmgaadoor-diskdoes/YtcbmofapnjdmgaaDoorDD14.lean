import Derived.Test.YtcbmofapnjdmgaaDoorDD12
/- What Truncate, Rename and Remove leave and answer; their walks. -/
namespace Go.Proofs.YtcbmofapnjdmgaaDoor
open Go.RowKit Go.Maps

def DG.remove (S : DG) (l : List UInt8) : DG × Int := if S.f l = none then (S, 4) else if S.can = true then (S.done.rem l, 0) else (S, 6)
def DG.trunc (S : DG) (l : List UInt8) (n : Int) : DG × Int :=
  if S.f l = none then (S, 4) else if n < 0 ∨ n > ((S.bs l).length : Int) then (S, 2) else if n = ((S.bs l).length : Int) then (S, 0) else if S.can = true then (S.done.set l ((S.bs l).take n.toNat), 0) else (S, 6)
def DG.renam (S : DG) (l t : List UInt8) : DG × Int :=
  if nameB t = false then (S, 2) else if S.f l = none then (S, 4) else if l = t then (S, 0) else if S.can = true then ((S.done.rem l).set t (S.bs l), 0) else (S, 6)

theorem callEnter {k : Nat} {f : Func} (hf : Tryd.prog.funcs[k]? = some f) (h1 : ¬ f.name = "runtime.NumGoroutine") (h3 : f.body.isNone = false) (caps : Array Value) (w : World) : (callFunc k caps).run Tryd.prog w = .ok (.enter k caps) w := by
  have h2 : ¬ f.body = Option.none := fun e => by rw [e] at h3; cases h3
  simp [callFunc, go_sem, hf, h1, h2]
theorem callTrunc (caps : Array Value) (w : World) : (callFunc 43 caps).run Tryd.prog w = .ok (.enter 43 caps) w := callEnter Tryd.func43 (by decide +kernel) (by kernel_rfl) caps w
theorem callRename (caps : Array Value) (w : World) : (callFunc 44 caps).run Tryd.prog w = .ok (.enter 44 caps) w := callEnter Tryd.func44 (by decide +kernel) (by kernel_rfl) caps w
theorem callRemove (caps : Array Value) (w : World) : (callFunc 46 caps).run Tryd.prog w = .ok (.enter 46 caps) w := callEnter Tryd.func46 (by decide +kernel) (by kernel_rfl) caps w

/-- a call that began with new boxes of its own -/
theorem boxed_end {w w0 w' : World} {p : Nat} {S : DG} {Fp : Nat → Prop} (hlt : ∀ k, Fp k → k < w.heap.size) (hB : Below w.heap.size w w0) (h : IsDisk w' p S (grow Fp w0 w') ∧ Turn Fp w0 w') : IsDisk w' p S (grow Fp w w') ∧ Turn Fp w w' := by
  have hT : Turn Fp w w' := (Turn.of_below Fp hB).trans h.2 (fun _ _ h => h)
  exact ⟨grow_lt h.1 hlt (fun k hk => hk.elim .inl (fun h1 => .inr (by have := hB.size; omega))) hT.size, hT⟩
theorem boxed_same {w w0 : World} {p : Nat} {S : DG} {Fp : Nat → Prop} (hlt : ∀ k, Fp k → k < w.heap.size) (hB : Below w.heap.size w w0) (h : IsDisk w p S Fp) : IsDisk w0 p S (grow Fp w w0) ∧ Turn Fp w w0 :=
  ⟨grow_lt (h.below hB) hlt (fun _ hk => .inl hk) hB.size, Turn.of_below Fp hB⟩

theorem cell_new1 (w : World) (u : Value) (t : TypeId) : (w.alloc (.cells #[u] t)).cell? ⟨w.heap.size, 0, none⟩ = some u := by simp
theorem box3 (w : World) (u v x : Value) (t1 t2 t3 : TypeId) : (((w.alloc (.cells #[u] t1)).alloc (.cells #[v] t2)).alloc (.cells #[x] t3)).cell? ⟨w.heap.size, 0, none⟩ = some u ∧ (((w.alloc (.cells #[u] t1)).alloc (.cells #[v] t2)).alloc (.cells #[x] t3)).cell? ⟨w.heap.size + 1, 0, none⟩ = some v ∧
    (((w.alloc (.cells #[u] t1)).alloc (.cells #[v] t2)).alloc (.cells #[x] t3)).cell? ⟨w.heap.size + 1 + 1, 0, none⟩ = some x := by
  have h1 := cell_new1 w u t1
  have h2 := cell_new1 (w.alloc (.cells #[u] t1)) v t2
  have h3 := cell_new1 ((w.alloc (.cells #[u] t1)).alloc (.cells #[v] t2)) x t3
  rw [World.size_alloc] at h2
  rw [World.size_alloc, World.size_alloc] at h3
  refine ⟨?_, ?_, h3⟩
  · exact (World.grownBy_alloc _ _ none).cell ((World.grownBy_alloc _ _ none).cell h1 (by simp)) (by simp)
  · exact (World.grownBy_alloc _ _ none).cell h2 (by simp)

theorem below_box {w w1 : World} {o : Obj} (h : Below w.heap.size w w1) : Below w.heap.size w (w1.alloc o) := h.alloc h.size o

set_option maxRecDepth 20000 in
set_option maxHeartbeats 2000000 in
theorem remove_any (p : Nat) (S : DG) (Fp : Nat → Prop) (w : World) (s : ByteArray) (hd : IsDisk w p S Fp) (hs : s.size ≤ maxLen) (hw : S.wr < 4611686018427387904) :
    Calls Tryd.prog 27 #[.pointer (some ⟨p, 0, none⟩), .string s] w fun e w' =>
      e = .returned (.int .i64 (S.remove s.data.toList).2) ∧ IsDisk w' p (S.remove s.data.toList).1 (grow Fp w w') ∧ Turn Fp w w' := by
  have hlt := hd.lt
  obtain ⟨w0, hw0⟩ : ∃ w0, w0 = (w.alloc (.cells #[.pointer (some ⟨p, 0, none⟩)] 24)).alloc (.cells #[.string s] 9) := ⟨_, rfl⟩
  have hB0 : Below w.heap.size w w0 := by rw [hw0]; exact below_box (below_box (Below.refl _ _))
  have k0 : w0.cell? ⟨w.heap.size, 0, none⟩ = some (.pointer (some ⟨p, 0, none⟩)) := by rw [hw0]; simp
  have k1 : w0.cell? ⟨w.heap.size + 1, 0, none⟩ = some (.string s) := by rw [hw0]; simp
  have hd0 := hd.below hB0
  have hfile := file_any p S Fp w0 s hd0 hs
  have nd : ¬ Fp w.heap.size := fun h => by have := hlt _ h; omega
  have nn : ¬ Fp (w.heap.size + 1) := fun h => by have := hlt _ h; omega
  have hraw := raw_any 46 p #[.pointer (some ⟨w.heap.size, 0, none⟩), .pointer (some ⟨w.heap.size + 1, 0, none⟩)] S (S.done.rem s.data.toList) Fp w0 (callRemove _) hd0 hw (by
    intro w1 _ hd1 hT1 _
    have hp := hd0.fp
    exact remove1_any p S.done Fp w1 s w.heap.size (w.heap.size + 1) hd1 (hT1.cell k0 (fun e => nd (by simp only at e; rw [e]; exact hp))) (hT1.cell k1 (fun e => nn (by simp only at e; rw [e]; exact hp))) nd nn hs)
  have HS := boxed_same hlt hB0 hd
  cases hf : S.f s.data.toList with
  | none =>
    have e : S.remove s.data.toList = (S, 4) := by simp [DG.remove, hf]
    have er : S.err s.data.toList = 4 := by simp [DG.err, hf]
    rw [e]
    rw [er] at hfile
    go_enter Tryd.func27, Tryd.ntmps27
    go_wp2_with fail
    rw [← hw0]
    clear hw0 hraw hd0
    refine hfile.mono ?_
    rintro e w2 ⟨a, c, rfl, rfl, _⟩
    go_wp2
    go_ret
    exact ⟨rfl, HS⟩
  | some bs =>
    have e : S.remove s.data.toList = (if S.can = true then (S.done.rem s.data.toList, 0) else (S, 6)) := by simp [DG.remove, hf]
    have er : S.err s.data.toList = 0 := by simp [DG.err, hf]
    rw [er] at hfile
    have HE : Hid ((S.remove s.data.toList).2 = (if S.can = true then 0 else 6) ∧ (S.remove s.data.toList).1 = (if S.can = true then S.done.rem s.data.toList else S)) := by
      refine ⟨?_, ?_⟩ <;> rw [e] <;> split <;> rfl
    clear e
    rw [← HE.out.1, ← HE.out.2] at hraw
    generalize S.remove s.data.toList = R at *
    go_enter Tryd.func27, Tryd.ntmps27
    go_wp2_with fail
    rw [← hw0]
    clear hw0 hd0 HS
    refine hfile.mono ?_
    rintro e w2 ⟨a, c, rfl, rfl, _⟩
    go_wp2_with fail
    refine hraw.mono ?_
    rintro e w3 ⟨rfl, hR⟩
    go_wp2
    go_ret
    exact ⟨rfl, boxed_end hlt hB0 hR⟩

set_option maxRecDepth 20000 in
set_option maxHeartbeats 4000000 in
theorem truncate_any (p : Nat) (S : DG) (Fp : Nat → Prop) (w : World) (s : ByteArray) (n : Int) (hd : IsDisk w p S Fp) (hs : s.size ≤ maxLen) (hw : S.wr < 4611686018427387904) (hn : S.n < maxLen) (hbig : (S.bs s.data.toList).length ≤ 4194304) :
    Calls Tryd.prog 23 #[.pointer (some ⟨p, 0, none⟩), .string s, .int .i64 n] w fun e w' =>
      e = .returned (.int .i64 (S.trunc s.data.toList n).2) ∧ IsDisk w' p (S.trunc s.data.toList n).1 (grow Fp w w') ∧ Turn Fp w w' := by
  have hlt := hd.lt
  obtain ⟨w0, hw0⟩ : ∃ w0, w0 = ((w.alloc (.cells #[.pointer (some ⟨p, 0, none⟩)] 24)).alloc (.cells #[.string s] 9)).alloc (.cells #[.int .i64 n] 3) := ⟨_, rfl⟩
  have hk := box3 w (.pointer (some ⟨p, 0, none⟩)) (.string s) (.int .i64 n) 24 9 3
  have hB0 : Below w.heap.size w w0 := by rw [hw0]; exact below_box (below_box (below_box (Below.refl _ _)))
  have hz0 : w0.heap.size = w.heap.size + 3 := by rw [hw0]; simp
  rw [← hw0] at hk
  have k0 := hk.1
  have k1 := hk.2.1
  have k2 := hk.2.2
  have hd0 := hd.below hB0
  have hfile := file_any p S Fp w0 s hd0 hs
  change Calls _ _ _ _ fun e w' => ∃ a c, e = .returned (.tuple #[.slice a (S.bs s.data.toList).length c, .int .i64 (S.err s.data.toList)]) ∧ w' = w0 ∧ Bytes w0 a (S.bs s.data.toList).length (S.bs s.data.toList) ∧ (S.bs s.data.toList).length ≤ c ∧ (a = none → (S.bs s.data.toList).length = 0 ∧ c = 0) ∧ ∃ b M, DiskAt w0 p b M S Fp ∧ M.atKey (.string s.data.toList) nils = .held (.slice a (S.bs s.data.toList).length c) at hfile
  have nf : ∀ j, ¬ Fp (w.heap.size + j) := fun j h => by have := hlt _ h; omega
  have hraw : ∀ (a : Option Addr) (c m : Nat), n = (m : Int) → m ≤ (S.bs s.data.toList).length → Bytes w0 a (S.bs s.data.toList).length (S.bs s.data.toList) → (S.bs s.data.toList).length ≤ c → (a = none → (S.bs s.data.toList).length = 0 ∧ c = 0) → (∃ b M, DiskAt w0 p b M S Fp ∧ M.atKey (.string s.data.toList) nils = .held (.slice a (S.bs s.data.toList).length c)) → S.f s.data.toList = some (S.bs s.data.toList) →
      Calls Tryd.prog 42 #[.pointer (some ⟨p, 0, none⟩), .func (.func 43) #[] #[.pointer (some ⟨w0.heap.size, 0, none⟩), .pointer (some ⟨w.heap.size + 1 + 1, 0, none⟩), .pointer (some ⟨w.heap.size, 0, none⟩), .pointer (some ⟨w.heap.size + 1, 0, none⟩)]] (w0.alloc (.cells #[.slice a (S.bs s.data.toList).length c] 32)) fun e w' =>
        e = .returned (.int .i64 (if S.can = true then 0 else 6)) ∧ IsDisk w' p (if S.can = true then S.done.set s.data.toList ((S.bs s.data.toList).take m) else S) (grow Fp w w') ∧ Turn Fp w w' := by
    intro a c m hnm hm hb hc hnil hv hf
    have hBa : Below w.heap.size w (w0.alloc (.cells #[.slice a (S.bs s.data.toList).length c] 32)) := below_box hB0
    have hBa' : Below w0.heap.size w0 (w0.alloc (.cells #[.slice a (S.bs s.data.toList).length c] 32)) := below_box (Below.refl _ _)
    have hda := hd.below hBa
    have hp := hd.fp
    have np : ∀ j, ¬ w.heap.size + j = p := fun j e => nf j (by rw [e]; exact hp)
    subst hnm
    refine (raw_any 43 p _ S (S.done.set s.data.toList ((S.bs s.data.toList).take m)) Fp _ (callTrunc _) hda hw ?_).mono fun e w' ⟨he, hR⟩ => ⟨he, boxed_end hlt hBa hR⟩
    intro w1 _ hd1 hT1 _
    refine truncate1_any p S.done Fp w1 s w0.heap.size (w.heap.size + 1 + 1) w.heap.size (w.heap.size + 1) a _ c m _ hd1 ?_ ?_ ?_ ?_ ?_ (nf 2) (nf 0) (nf 1) ?_ hc hnil hm (by omega) hs hn
    · exact hT1.cell (by simp) (by simp only; rw [hz0]; exact np 3)
    · exact hT1.cell (by rw [hBa'.cell (World.block_lt_of_cell? w0 _ k2)]; exact k2) (np 2)
    · exact hT1.cell (by rw [hBa'.cell (World.block_lt_of_cell? w0 _ k0)]; exact k0) (np 0)
    · exact hT1.cell (by rw [hBa'.cell (World.block_lt_of_cell? w0 _ k1)]; exact k1) (np 1)
    · rw [hz0]; exact nf 3
    · have hrp : ∀ x, a = some x → ¬ x.block = p := by
        intro x hx e
        obtain ⟨b, M, hD, hv⟩ := hv
        obtain ⟨v0, hv0, _, hg0⟩ := hD.row _ _ hf
        rw [hv] at hv0
        cases hv0
        exact (hg0 x.block (by rw [hx]; rfl)).2.1 e
      have h1 : Bytes (w0.alloc (.cells #[.slice a (S.bs s.data.toList).length c] 32)) a _ _ := (Turn.of_below (fun _ => False) hBa').bytes hb (fun _ _ _ => id)
      exact hT1.bytes h1 (fun _ x hx e => hrp x hx e)
  have HS := fun (a : Option Addr) (c : Nat) => boxed_same (w0 := w0.alloc (.cells #[.slice a (S.bs s.data.toList).length c] 32)) hlt (below_box hB0) hd
  have q0 := fun o => (World.grownBy_alloc w0 o none).cell k0 (by simp)
  have q1 := fun o => (World.grownBy_alloc w0 o none).cell k1 (by simp)
  have q2 := fun o => (World.grownBy_alloc w0 o none).cell k2 (by simp)
  cases hf : S.f s.data.toList with
  | none =>
    have e : S.trunc s.data.toList n = (S, 4) := by simp [DG.trunc, hf]
    have er : S.err s.data.toList = 4 := by simp [DG.err, hf]
    rw [e]
    rw [er] at hfile
    generalize (S.bs s.data.toList) = bs at *
    go_enter Tryd.func23, Tryd.ntmps23
    go_wp2_with fail
    rw [← hw0]
    clear hw0 hraw hd0
    refine hfile.mono ?_
    rintro e w2 ⟨a, c, rfl, rfl, _⟩
    go_wp2
    go_ret
    exact ⟨rfl, HS a c⟩
  | some bs0 =>
    have hfb : S.f s.data.toList = some (S.bs s.data.toList) := by simp [DG.bs, hf]
    have er : S.err s.data.toList = 0 := by simp [DG.err, hf]
    rw [er] at hfile
    have HR : Hid (∀ (a : Option Addr) (c m : Nat), n = (m : Int) → m ≤ (S.bs s.data.toList).length → Bytes w0 a (S.bs s.data.toList).length (S.bs s.data.toList) → (S.bs s.data.toList).length ≤ c → (a = none → (S.bs s.data.toList).length = 0 ∧ c = 0) → (∃ b M, DiskAt w0 p b M S Fp ∧ M.atKey (.string s.data.toList) nils = .held (.slice a (S.bs s.data.toList).length c)) → S.f s.data.toList = some (S.bs s.data.toList) →
      Calls Tryd.prog 42 #[.pointer (some ⟨p, 0, none⟩), .func (.func 43) #[] #[.pointer (some ⟨w0.heap.size, 0, none⟩), .pointer (some ⟨w.heap.size + 1 + 1, 0, none⟩), .pointer (some ⟨w.heap.size, 0, none⟩), .pointer (some ⟨w.heap.size + 1, 0, none⟩)]] (w0.alloc (.cells #[.slice a (S.bs s.data.toList).length c] 32)) fun e w' =>
        e = .returned (.int .i64 (if S.can = true then 0 else 6)) ∧ IsDisk w' p (if S.can = true then S.done.set s.data.toList ((S.bs s.data.toList).take m) else S) (grow Fp w w') ∧ Turn Fp w w') := hraw
    clear hraw hf
    by_cases h1 : n < 0
    · have e : S.trunc s.data.toList n = (S, 2) := by simp [DG.trunc, hfb, h1]
      rw [e]
      generalize (S.bs s.data.toList) = bs at *
      go_enter Tryd.func23, Tryd.ntmps23
      go_wp2_with fail
      rw [← hw0]
      clear hw0 HR hd0
      refine hfile.mono ?_
      rintro e w2 ⟨a, c, rfl, rfl, _⟩
      go_wp2
      go_ret
      exact ⟨rfl, HS a c⟩
    · by_cases h2 : ((S.bs s.data.toList).length : Int) < n
      · have e : S.trunc s.data.toList n = (S, 2) := by simp [DG.trunc, hfb, h2]
        rw [e]
        generalize (S.bs s.data.toList) = bs at *
        go_enter Tryd.func23, Tryd.ntmps23
        go_wp2_with fail
        rw [← hw0]
        clear hw0 HR hd0
        refine hfile.mono ?_
        rintro e w2 ⟨a, c, rfl, rfl, _⟩
        go_wp2
        go_ret
        exact ⟨rfl, HS a c⟩
      · obtain ⟨m, rfl⟩ : ∃ m : Nat, n = (m : Int) := ⟨n.toNat, by omega⟩
        by_cases h3 : m = (S.bs s.data.toList).length
        · have e : S.trunc s.data.toList m = (S, 0) := by
            unfold DG.trunc
            rw [if_neg (by simp [hfb]), if_neg (by omega), if_pos (by omega)]
          rw [e]
          generalize (S.bs s.data.toList) = bs at *
          subst h3
          go_enter Tryd.func23, Tryd.ntmps23
          go_wp2_with fail
          rw [← hw0]
          clear hw0 HR hd0
          refine hfile.mono ?_
          rintro e w2 ⟨a, c, rfl, rfl, _⟩
          go_wp2
          go_ret
          exact ⟨rfl, HS a c⟩
        · have h3' : ¬ (m : Int) = ((S.bs s.data.toList).length : Int) := by omega
          have HE : Hid ((S.trunc s.data.toList m).2 = (if S.can = true then 0 else 6) ∧ (S.trunc s.data.toList m).1 = (if S.can = true then S.done.set s.data.toList ((S.bs s.data.toList).take m) else S)) := by
            have e : S.trunc s.data.toList m = (if S.can = true then (S.done.set s.data.toList ((S.bs s.data.toList).take m), 0) else (S, 6)) := by
              unfold DG.trunc
              rw [if_neg (by simp [hfb]), if_neg (by omega), if_neg (by omega)]
              rfl
            refine ⟨?_, ?_⟩ <;> rw [e] <;> split <;> rfl
          have HR2 := fun a c => HR.out a c m rfl
          rw [← HE.out.1, ← HE.out.2] at HR2
          have HR3 : Hid _ := HR2
          clear HR HR2
          generalize S.trunc s.data.toList m = T at *
          generalize (S.bs s.data.toList) = bs at *
          go_enter Tryd.func23, Tryd.ntmps23
          go_wp2_with fail
          rw [← hw0]
          clear hw0 hd0 HS
          refine hfile.mono ?_
          rintro e w2 ⟨a, c, rfl, rfl, hb, hc, hnl, hDM⟩
          have hraw := HR3.out a c (by omega) hb hc hnl hDM hfb
          have g1 : ¬ (m : Int) < 0 := by omega
          have g2 : ¬ (bs.length : Int) < (m : Int) := by omega
          have g3 : ¬ (m : Int) = (bs.length : Int) := by omega
          clear HR3 hDM hb hk hz0 HE nf hfb er hbig hn hw hs hd hlt h1 h2 h3 h3' hnl hc hB0 hfile
          go_wp2_with fail
          refine hraw.mono ?_
          rintro e w3 ⟨rfl, hR⟩
          go_wp2
          go_ret
          exact ⟨rfl, hR⟩

theorem bytes_ext {s t : ByteArray} (h : s.data.toList = t.data.toList) : s = t := by
  cases s; cases t
  simp at h
  rw [h]

set_option maxRecDepth 20000 in
set_option maxHeartbeats 4000000 in
theorem rename_any (p : Nat) (S : DG) (Fp : Nat → Prop) (w : World) (s t : ByteArray) (hd : IsDisk w p S Fp) (hs : s.size ≤ maxLen) (ht : t.size ≤ maxLen) (hw : S.wr < 4611686018427387904) (hn : S.n < maxLen) :
    Calls Tryd.prog 25 #[.pointer (some ⟨p, 0, none⟩), .string s, .string t] w fun e w' =>
      e = .returned (.int .i64 (S.renam s.data.toList t.data.toList).2) ∧ IsDisk w' p (S.renam s.data.toList t.data.toList).1 (grow Fp w w') ∧ Turn Fp w w' := by
  have hlt := hd.lt
  obtain ⟨w0, hw0⟩ : ∃ w0, w0 = ((w.alloc (.cells #[.pointer (some ⟨p, 0, none⟩)] 24)).alloc (.cells #[.string s] 9)).alloc (.cells #[.string t] 9) := ⟨_, rfl⟩
  have hk := box3 w (.pointer (some ⟨p, 0, none⟩)) (.string s) (.string t) 24 9 9
  have hB0 : Below w.heap.size w w0 := by rw [hw0]; exact below_box (below_box (below_box (Below.refl _ _)))
  have hz0 : w0.heap.size = w.heap.size + 3 := by rw [hw0]; simp
  rw [← hw0] at hk
  obtain ⟨k0, k1, k2⟩ := hk
  have hd0 := hd.below hB0
  have hfile := file_any p S Fp w0 s hd0 hs
  change Calls _ _ _ _ fun e w' => ∃ a c, e = .returned (.tuple #[.slice a (S.bs s.data.toList).length c, .int .i64 (S.err s.data.toList)]) ∧ w' = w0 ∧ Bytes w0 a (S.bs s.data.toList).length (S.bs s.data.toList) ∧ (S.bs s.data.toList).length ≤ c ∧ (a = none → (S.bs s.data.toList).length = 0 ∧ c = 0) ∧ ∃ b M, DiskAt w0 p b M S Fp ∧ M.atKey (.string s.data.toList) nils = .held (.slice a (S.bs s.data.toList).length c) at hfile
  have nf : ∀ j, ¬ Fp (w.heap.size + j) := fun j h => by have := hlt _ h; omega
  have HR : Hid (∀ (a : Option Addr) (c : Nat), (∃ b M, DiskAt w0 p b M S Fp ∧ M.atKey (.string s.data.toList) nils = .held (.slice a (S.bs s.data.toList).length c)) → S.f s.data.toList = some (S.bs s.data.toList) →
      Calls Tryd.prog 42 #[.pointer (some ⟨p, 0, none⟩), .func (.func 44) #[] #[.pointer (some ⟨w.heap.size, 0, none⟩), .pointer (some ⟨w.heap.size + 1, 0, none⟩), .pointer (some ⟨w0.heap.size, 0, none⟩), .pointer (some ⟨w.heap.size + 1 + 1, 0, none⟩)]] (w0.alloc (.cells #[.slice a (S.bs s.data.toList).length c] 32)) fun e w' =>
        e = .returned (.int .i64 (if S.can = true then 0 else 6)) ∧ IsDisk w' p (if S.can = true then (S.done.rem s.data.toList).set t.data.toList (S.bs s.data.toList) else S) (grow Fp w w') ∧ Turn Fp w w') := by
    intro a c hv hf
    have hBa : Below w.heap.size w (w0.alloc (.cells #[.slice a (S.bs s.data.toList).length c] 32)) := below_box hB0
    have hBa' : Below w0.heap.size w0 (w0.alloc (.cells #[.slice a (S.bs s.data.toList).length c] 32)) := below_box (Below.refl _ _)
    have hda := hd.below hBa
    have hp := hd.fp
    have np : ∀ j, ¬ w.heap.size + j = p := fun j e => nf j (by rw [e]; exact hp)
    obtain ⟨b, M, hD, hv⟩ := hv
    refine (raw_any 44 p _ S ((S.done.rem s.data.toList).set t.data.toList (S.bs s.data.toList)) Fp _ (callRename _) hda hw ?_).mono fun e w' ⟨he, hR⟩ => ⟨he, boxed_end hlt hBa hR⟩
    intro w1 hkp _ hT1 _
    have hDa : DiskAt (w0.alloc (.cells #[.slice a (S.bs s.data.toList).length c] 32)) p b M S Fp := hD.kept hBa'.size (fun k hk => hBa'.block k (hD.lt k hk))
    have hD1 := hkp b M hDa
    refine rename1_any p S.done Fp w1 s t w.heap.size (w.heap.size + 1) w0.heap.size (w.heap.size + 1 + 1) a c _ b M hD1 ?_ ?_ ?_ ?_ (nf 0) (nf 1) ?_ (nf 2) hf hv hs ht hn
    · exact hT1.cell (by rw [hBa'.cell (World.block_lt_of_cell? w0 _ k0)]; exact k0) (np 0)
    · exact hT1.cell (by rw [hBa'.cell (World.block_lt_of_cell? w0 _ k1)]; exact k1) (np 1)
    · exact hT1.cell (by simp) (by simp only; rw [hz0]; exact np 3)
    · exact hT1.cell (by rw [hBa'.cell (World.block_lt_of_cell? w0 _ k2)]; exact k2) (np 2)
    · rw [hz0]; exact nf 3
  have HS := fun (a : Option Addr) (c : Nat) => boxed_same (w0 := w0.alloc (.cells #[.slice a (S.bs s.data.toList).length c] 32)) hlt (below_box hB0) hd
  have HS0 := boxed_same hlt hB0 hd
  have q0 := fun o => (World.grownBy_alloc w0 o none).cell k0 (by simp)
  have q1 := fun o => (World.grownBy_alloc w0 o none).cell k1 (by simp)
  have q2 := fun o => (World.grownBy_alloc w0 o none).cell k2 (by simp)
  have hname := name_any t w0 ht
  cases hnb : nameB t.data.toList with
  | false =>
    have e : S.renam s.data.toList t.data.toList = (S, 2) := by simp [DG.renam, hnb]
    rw [e]
    rw [hnb] at hname
    go_enter Tryd.func25, Tryd.ntmps25
    go_wp2_with fail
    rw [← hw0]
    clear hw0 HR hd0 hd hlt hB0 hfile HS nf hz0
    refine hname.mono ?_
    rintro e w2 ⟨rfl, rfl⟩
    go_wp2
    go_ret
    exact ⟨rfl, HS0⟩
  | true =>
    rw [hnb] at hname
    cases hf : S.f s.data.toList with
    | none =>
      have e : S.renam s.data.toList t.data.toList = (S, 4) := by simp [DG.renam, hnb, hf]
      have er : S.err s.data.toList = 4 := by simp [DG.err, hf]
      rw [e]
      rw [er] at hfile
      generalize (S.bs s.data.toList) = bs at *
      go_enter Tryd.func25, Tryd.ntmps25
      go_wp2_with fail
      rw [← hw0]
      clear hw0 HR hd0 hd hlt hB0 nf hz0 HS0
      refine hname.mono ?_
      rintro e w2 ⟨rfl, rfl⟩
      go_wp2_with fail
      refine hfile.mono ?_
      rintro e w3 ⟨a, c, rfl, rfl, _⟩
      have HS1 := HS a c
      clear HS hfile hname
      go_wp2
      go_ret
      exact ⟨rfl, HS1⟩
    | some bs0 =>
      have hfb : S.f s.data.toList = some (S.bs s.data.toList) := by simp [DG.bs, hf]
      have er : S.err s.data.toList = 0 := by simp [DG.err, hf]
      rw [er] at hfile
      by_cases hst : s = t
      · subst hst
        have e : S.renam s.data.toList s.data.toList = (S, 0) := by simp [DG.renam, hnb, hfb]
        rw [e]
        generalize (S.bs s.data.toList) = bs at *
        go_enter Tryd.func25, Tryd.ntmps25
        go_wp2_with fail
        rw [← hw0]
        clear hw0 HR hd0 hd hlt hB0 nf hz0 HS0
        refine hname.mono ?_
        rintro e w2 ⟨rfl, rfl⟩
        go_wp2_with fail
        refine hfile.mono ?_
        rintro e w3 ⟨a, c, rfl, rfl, _⟩
        have HS1 := HS a c
        clear HS hfile hname
        go_wp2
        go_ret
        exact ⟨rfl, HS1⟩
      · have hne : ¬ s.data.toList = t.data.toList := fun h => hst (bytes_ext h)
        have hne2 : (s.toList == t.toList) = false := by rw [ByteArray.toList_eq, ByteArray.toList_eq]; simpa using hne
        have HE : Hid ((S.renam s.data.toList t.data.toList).2 = (if S.can = true then 0 else 6) ∧ (S.renam s.data.toList t.data.toList).1 = (if S.can = true then (S.done.rem s.data.toList).set t.data.toList (S.bs s.data.toList) else S)) := by
          have e : S.renam s.data.toList t.data.toList = (if S.can = true then ((S.done.rem s.data.toList).set t.data.toList (S.bs s.data.toList), 0) else (S, 6)) := by
            unfold DG.renam
            rw [if_neg (by simp [hnb]), if_neg (by simp [hfb]), if_neg hne]
          refine ⟨?_, ?_⟩ <;> rw [e] <;> split <;> rfl
        rw [← HE.out.1, ← HE.out.2] at HR
        generalize S.renam s.data.toList t.data.toList = T at *
        generalize (S.bs s.data.toList) = bs at *
        go_enter Tryd.func25, Tryd.ntmps25
        go_wp2_with fail
        rw [← hw0]
        clear hw0 hd0 hd hlt hB0 nf hz0 HS0 HS HE hne
        refine hname.mono ?_
        rintro e w2 ⟨rfl, rfl⟩
        go_wp2_with fail
        refine hfile.mono ?_
        rintro e w3 ⟨a, c, rfl, rfl, _, _, _, hDM⟩
        have hraw := HR.out a c hDM hfb
        clear HR hDM hfile hname hfb hnb hf er hs ht hw hn
        go_wp2_with fail
        refine hraw.mono ?_
        rintro e w4 ⟨rfl, hR⟩
        go_wp2
        go_ret
        exact ⟨rfl, hR⟩

end Go.Proofs.YtcbmofapnjdmgaaDoor
