import Derived.Test.YtncagdfbgpdhfaaGreatP24
/- What Truncate, Rename and Remove leave and answer; their walks. -/
namespace Go.Proofs.YtncagdfbgpdhfaaGreat
open Go.RowKit Go.Maps

def DG.trunc (S : DG) (l : List UInt8) (n : Int) : DG × Int :=
  if S.f l = none then (S, 4) else if n < 0 ∨ n > ((S.bs l).length : Int) then (S, 2) else if n = ((S.bs l).length : Int) then (S, 0) else if S.can = true then (S.done.set l ((S.bs l).take n.toNat), 0) else (S, 6)
theorem callEnter {k : Nat} {f : Func} (hf : Tryz.prog.funcs[k]? = some f) (h1 : ¬ f.name = "runtime.NumGoroutine") (h3 : f.body.isNone = false) (caps : Array Value) (w : World) : (callFunc k caps).run Tryz.prog w = .ok (.enter k caps) w := by
  have h2 : ¬ f.body = Option.none := fun e => by rw [e] at h3; cases h3
  simp [callFunc, go_sem, hf, h1, h2]
theorem callTrunc (caps : Array Value) (w : World) : (callFunc 98 caps).run Tryz.prog w = .ok (.enter 98 caps) w := callEnter Tryz.func98 (by decide +kernel) (by kernel_rfl) caps w
/-- a call that began with new boxes of its own -/
theorem boxed_end {w w0 w' : World} {p : Nat} {S : DG} {Fp : Nat → Prop} (hlt : ∀ k, Fp k → k < w.heap.size) (hB : Below w.heap.size w w0) (h : IsDisk w' p S (grow Fp w0 w') ∧ Turn Fp w0 w') : IsDisk w' p S (grow Fp w w') ∧ Turn Fp w w' := by
  have hT : Turn Fp w w' := (Turn.of_below Fp hB).trans h.2 (fun _ _ h => h)
  exact ⟨grow_lt h.1 hlt (fun k hk => hk.elim .inl (fun h1 => .inr (by have := hB.size; omega))) hT.size, hT⟩
theorem boxed_same {w w0 : World} {p : Nat} {S : DG} {Fp : Nat → Prop} (hlt : ∀ k, Fp k → k < w.heap.size) (hB : Below w.heap.size w w0) (h : IsDisk w p S Fp) : IsDisk w0 p S (grow Fp w w0) ∧ Turn Fp w w0 :=
  ⟨grow_lt (h.below hB) hlt (fun _ hk => .inl hk) hB.size, Turn.of_below Fp hB⟩

theorem cell_new1 (w : World) (u : Value) (t : TypeId) : (w.alloc (.cells #[u] t)).cell? ⟨w.heap.size, 0, none⟩ = some u := by simp
theorem box3 (w : World) (u v x : Value) (t1 t2 t3 : TypeId) : (((w.alloc (.cells #[u] t1)).alloc (.cells #[v] t2)).alloc (.cells #[x] t3)).cell? ⟨w.heap.size, 0, none⟩ = some u ∧ (((w.alloc (.cells #[u] t1)).alloc (.cells #[v] t2)).alloc (.cells #[x] t3)).cell? ⟨w.heap.size + 1, 0, none⟩ = some v ∧
    (((w.alloc (.cells #[u] t1)).alloc (.cells #[v] t2)).alloc (.cells #[x] t3)).cell? ⟨w.heap.size + 1 + 1, 0, none⟩ = some x := by
  have h1 := cell_new1 w u t1
  have h2 := cell_new1 (w.alloc (.cells #[u] t1)) v t2
  have h3 := cell_new1 ((w.alloc (.cells #[u] t1)).alloc (.cells #[v] t2)) x t3
  rw [World.size_alloc] at h2
  rw [World.size_alloc, World.size_alloc] at h3
  refine ⟨?_, ?_, h3⟩
  · exact (World.grownBy_alloc _ _ none).cell ((World.grownBy_alloc _ _ none).cell h1 (by simp)) (by simp)
  · exact (World.grownBy_alloc _ _ none).cell h2 (by simp)

theorem below_box {w w1 : World} {o : Obj} (h : Below w.heap.size w w1) : Below w.heap.size w (w1.alloc o) := h.alloc h.size o

set_option maxRecDepth 20000 in
set_option maxHeartbeats 4000000 in
theorem truncate_any (p : Nat) (S : DG) (Fp : Nat → Prop) (w : World) (s : ByteArray) (n : Int) (hd : IsDisk w p S Fp) (hs : s.size ≤ maxLen) (hw : S.wr < 4611686018427387904) (hn : S.n < maxLen) (hbig : (S.bs s.data.toList).length ≤ 4194304) :
    Calls Tryz.prog 69 #[.pointer (some ⟨p, 0, none⟩), .string s, .int .i64 n] w fun e w' =>
      e = .returned (.int .i64 (S.trunc s.data.toList n).2) ∧ IsDisk w' p (S.trunc s.data.toList n).1 (grow Fp w w') ∧ Turn Fp w w' := by
  have hlt := hd.lt
  obtain ⟨w0, hw0⟩ : ∃ w0, w0 = ((w.alloc (.cells #[.pointer (some ⟨p, 0, none⟩)] 74)).alloc (.cells #[.string s] 9)).alloc (.cells #[.int .i64 n] 3) := ⟨_, rfl⟩
  have hk := box3 w (.pointer (some ⟨p, 0, none⟩)) (.string s) (.int .i64 n) 74 9 3
  have hB0 : Below w.heap.size w w0 := by rw [hw0]; exact below_box (below_box (below_box (Below.refl _ _)))
  have hz0 : w0.heap.size = w.heap.size + 3 := by rw [hw0]; simp
  rw [← hw0] at hk
  have k0 := hk.1
  have k1 := hk.2.1
  have k2 := hk.2.2
  have hd0 := hd.below hB0
  have hfile := file_any p S Fp w0 s hd0 hs
  change Calls _ _ _ _ fun e w' => ∃ a c, e = .returned (.tuple #[.slice a (S.bs s.data.toList).length c, .int .i64 (S.err s.data.toList)]) ∧ w' = w0 ∧ Bytes w0 a (S.bs s.data.toList).length (S.bs s.data.toList) ∧ (S.bs s.data.toList).length ≤ c ∧ (a = none → (S.bs s.data.toList).length = 0 ∧ c = 0) ∧ ∃ b M, DiskAt w0 p b M S Fp ∧ M.atKey (.string s.data.toList) nils = .held (.slice a (S.bs s.data.toList).length c) at hfile
  have nf : ∀ j, ¬ Fp (w.heap.size + j) := fun j h => by have := hlt _ h; omega
  have hraw : ∀ (a : Option Addr) (c m : Nat), n = (m : Int) → m ≤ (S.bs s.data.toList).length → Bytes w0 a (S.bs s.data.toList).length (S.bs s.data.toList) → (S.bs s.data.toList).length ≤ c → (a = none → (S.bs s.data.toList).length = 0 ∧ c = 0) → (∃ b M, DiskAt w0 p b M S Fp ∧ M.atKey (.string s.data.toList) nils = .held (.slice a (S.bs s.data.toList).length c)) → S.f s.data.toList = some (S.bs s.data.toList) →
      Calls Tryz.prog 97 #[.pointer (some ⟨p, 0, none⟩), .func (.func 98) #[] #[.pointer (some ⟨w0.heap.size, 0, none⟩), .pointer (some ⟨w.heap.size + 1 + 1, 0, none⟩), .pointer (some ⟨w.heap.size, 0, none⟩), .pointer (some ⟨w.heap.size + 1, 0, none⟩)]] (w0.alloc (.cells #[.slice a (S.bs s.data.toList).length c] 80)) fun e w' =>
        e = .returned (.int .i64 (if S.can = true then 0 else 6)) ∧ IsDisk w' p (if S.can = true then S.done.set s.data.toList ((S.bs s.data.toList).take m) else S) (grow Fp w w') ∧ Turn Fp w w' := by
    intro a c m hnm hm hb hc hnil hv hf
    have hBa : Below w.heap.size w (w0.alloc (.cells #[.slice a (S.bs s.data.toList).length c] 80)) := below_box hB0
    have hBa' : Below w0.heap.size w0 (w0.alloc (.cells #[.slice a (S.bs s.data.toList).length c] 80)) := below_box (Below.refl _ _)
    have hda := hd.below hBa
    have hp := hd.fp
    have np : ∀ j, ¬ w.heap.size + j = p := fun j e => nf j (by rw [e]; exact hp)
    subst hnm
    refine (raw_any 98 p _ S (S.done.set s.data.toList ((S.bs s.data.toList).take m)) Fp _ (callTrunc _) hda hw ?_).mono fun e w' ⟨he, hR⟩ => ⟨he, boxed_end hlt hBa hR⟩
    intro w1 _ hd1 hT1 _
    refine truncate1_any p S.done Fp w1 s w0.heap.size (w.heap.size + 1 + 1) w.heap.size (w.heap.size + 1) a _ c m _ hd1 ?_ ?_ ?_ ?_ ?_ (nf 2) (nf 0) (nf 1) ?_ hc hnil hm (by omega) hs hn
    · exact hT1.cell (by simp) (by simp only; rw [hz0]; exact np 3)
    · exact hT1.cell (by rw [hBa'.cell (World.block_lt_of_cell? w0 _ k2)]; exact k2) (np 2)
    · exact hT1.cell (by rw [hBa'.cell (World.block_lt_of_cell? w0 _ k0)]; exact k0) (np 0)
    · exact hT1.cell (by rw [hBa'.cell (World.block_lt_of_cell? w0 _ k1)]; exact k1) (np 1)
    · rw [hz0]; exact nf 3
    · have hrp : ∀ x, a = some x → ¬ x.block = p := by
        intro x hx e
        obtain ⟨b, M, hD, hv⟩ := hv
        obtain ⟨v0, hv0, _, hg0⟩ := hD.row _ _ hf
        rw [hv] at hv0
        cases hv0
        exact (hg0 x.block (by rw [hx]; rfl)).2.1 e
      have h1 : Bytes (w0.alloc (.cells #[.slice a (S.bs s.data.toList).length c] 80)) a _ _ := (Turn.of_below (fun _ => False) hBa').bytes hb (fun _ _ _ => id)
      exact hT1.bytes h1 (fun _ x hx e => hrp x hx e)
  have HS := fun (a : Option Addr) (c : Nat) => boxed_same (w0 := w0.alloc (.cells #[.slice a (S.bs s.data.toList).length c] 80)) hlt (below_box hB0) hd
  have q0 := fun o => (World.grownBy_alloc w0 o none).cell k0 (by simp)
  have q1 := fun o => (World.grownBy_alloc w0 o none).cell k1 (by simp)
  have q2 := fun o => (World.grownBy_alloc w0 o none).cell k2 (by simp)
  cases hf : S.f s.data.toList with
  | none =>
    have e : S.trunc s.data.toList n = (S, 4) := by simp [DG.trunc, hf]
    have er : S.err s.data.toList = 4 := by simp [DG.err, hf]
    rw [e]
    rw [er] at hfile
    generalize (S.bs s.data.toList) = bs at *
    go_enter Tryz.func69, Tryz.ntmps69
    go_wp2_with fail
    rw [← hw0]
    clear hw0 hraw hd0
    refine hfile.mono ?_
    rintro e w2 ⟨a, c, rfl, rfl, _⟩
    go_wp2
    go_ret
    exact ⟨rfl, HS a c⟩
  | some bs0 =>
    have hfb : S.f s.data.toList = some (S.bs s.data.toList) := by simp [DG.bs, hf]
    have er : S.err s.data.toList = 0 := by simp [DG.err, hf]
    rw [er] at hfile
    have HR : Hid (∀ (a : Option Addr) (c m : Nat), n = (m : Int) → m ≤ (S.bs s.data.toList).length → Bytes w0 a (S.bs s.data.toList).length (S.bs s.data.toList) → (S.bs s.data.toList).length ≤ c → (a = none → (S.bs s.data.toList).length = 0 ∧ c = 0) → (∃ b M, DiskAt w0 p b M S Fp ∧ M.atKey (.string s.data.toList) nils = .held (.slice a (S.bs s.data.toList).length c)) → S.f s.data.toList = some (S.bs s.data.toList) →
      Calls Tryz.prog 97 #[.pointer (some ⟨p, 0, none⟩), .func (.func 98) #[] #[.pointer (some ⟨w0.heap.size, 0, none⟩), .pointer (some ⟨w.heap.size + 1 + 1, 0, none⟩), .pointer (some ⟨w.heap.size, 0, none⟩), .pointer (some ⟨w.heap.size + 1, 0, none⟩)]] (w0.alloc (.cells #[.slice a (S.bs s.data.toList).length c] 80)) fun e w' =>
        e = .returned (.int .i64 (if S.can = true then 0 else 6)) ∧ IsDisk w' p (if S.can = true then S.done.set s.data.toList ((S.bs s.data.toList).take m) else S) (grow Fp w w') ∧ Turn Fp w w') := hraw
    clear hraw hf
    by_cases h1 : n < 0
    · have e : S.trunc s.data.toList n = (S, 2) := by simp [DG.trunc, hfb, h1]
      rw [e]
      generalize (S.bs s.data.toList) = bs at *
      go_enter Tryz.func69, Tryz.ntmps69
      go_wp2_with fail
      rw [← hw0]
      clear hw0 HR hd0
      refine hfile.mono ?_
      rintro e w2 ⟨a, c, rfl, rfl, _⟩
      go_wp2
      go_ret
      exact ⟨rfl, HS a c⟩
    · by_cases h2 : ((S.bs s.data.toList).length : Int) < n
      · have e : S.trunc s.data.toList n = (S, 2) := by simp [DG.trunc, hfb, h2]
        rw [e]
        generalize (S.bs s.data.toList) = bs at *
        go_enter Tryz.func69, Tryz.ntmps69
        go_wp2_with fail
        rw [← hw0]
        clear hw0 HR hd0
        refine hfile.mono ?_
        rintro e w2 ⟨a, c, rfl, rfl, _⟩
        go_wp2
        go_ret
        exact ⟨rfl, HS a c⟩
      · obtain ⟨m, rfl⟩ : ∃ m : Nat, n = (m : Int) := ⟨n.toNat, by omega⟩
        by_cases h3 : m = (S.bs s.data.toList).length
        · have e : S.trunc s.data.toList m = (S, 0) := by
            unfold DG.trunc
            rw [if_neg (by simp [hfb]), if_neg (by omega), if_pos (by omega)]
          rw [e]
          generalize (S.bs s.data.toList) = bs at *
          subst h3
          go_enter Tryz.func69, Tryz.ntmps69
          go_wp2_with fail
          rw [← hw0]
          clear hw0 HR hd0
          refine hfile.mono ?_
          rintro e w2 ⟨a, c, rfl, rfl, _⟩
          go_wp2
          go_ret
          exact ⟨rfl, HS a c⟩
        · have h3' : ¬ (m : Int) = ((S.bs s.data.toList).length : Int) := by omega
          have HE : Hid ((S.trunc s.data.toList m).2 = (if S.can = true then 0 else 6) ∧ (S.trunc s.data.toList m).1 = (if S.can = true then S.done.set s.data.toList ((S.bs s.data.toList).take m) else S)) := by
            have e : S.trunc s.data.toList m = (if S.can = true then (S.done.set s.data.toList ((S.bs s.data.toList).take m), 0) else (S, 6)) := by
              unfold DG.trunc
              rw [if_neg (by simp [hfb]), if_neg (by omega), if_neg (by omega)]
              rfl
            refine ⟨?_, ?_⟩ <;> rw [e] <;> split <;> rfl
          have HR2 := fun a c => HR.out a c m rfl
          rw [← HE.out.1, ← HE.out.2] at HR2
          have HR3 : Hid _ := HR2
          clear HR HR2
          generalize S.trunc s.data.toList m = T at *
          generalize (S.bs s.data.toList) = bs at *
          go_enter Tryz.func69, Tryz.ntmps69
          go_wp2_with fail
          rw [← hw0]
          clear hw0 hd0 HS
          refine hfile.mono ?_
          rintro e w2 ⟨a, c, rfl, rfl, hb, hc, hnl, hDM⟩
          have hraw := HR3.out a c (by omega) hb hc hnl hDM hfb
          have g1 : ¬ (m : Int) < 0 := by omega
          have g2 : ¬ (bs.length : Int) < (m : Int) := by omega
          have g3 : ¬ (m : Int) = (bs.length : Int) := by omega
          clear HR3 hDM hb hk hz0 HE nf hfb er hbig hn hw hs hd hlt h1 h2 h3 h3' hnl hc hB0 hfile
          go_wp2_with fail
          refine hraw.mono ?_
          rintro e w3 ⟨rfl, hR⟩
          go_wp2
          go_ret
          exact ⟨rfl, hR⟩

end Go.Proofs.YtncagdfbgpdhfaaGreat

/- The walk of Open. -/
namespace Go.Proofs.YtncagdfbgpdhfaaGreat
open Go.RowKit

/-- a Journal just made -/
theorem JAt.new (w : World) (d : Nat) (nm : ByteArray) : JAt (w.alloc (.cells #[.pointer (some ⟨d, 0, none⟩), .string nm, .slice none 0 0, .int .i64 0, .slice none 0 0, .int .i64 0, .bool false] 155)) w.heap.size d nm [] 0 false (fun k => k = w.heap.size) := by
  refine { c0 := by simp, c1 := by simp, pay := ?_, c5 := by simp, c6 := by simp, f5 := by simp, f6 := by simp, fj := rfl, lt := fun k hk => by subst hk; simp, cnt := by simp, small := by simp }
  refine ⟨0, 0, [], .slice none 0 0, .slice none 0 0, [], ?_, by simp [Value.ownBlock], by simp [Value.ownBlock]⟩
  exact { ca := by simp, cu := by simp, cl := by simp, fa := by simp, fu := by simp, fl := by simp, arr := World.ownsRow_nil _ _ _ _, sh := .inl ⟨rfl, rfl⟩, pre := rfl, fit := by simp, row := World.ownsRow_nil _ _ _ _, el := fun k hk => by simp at hk, gp := by simp [Value.ownBlock], vp := by simp [Value.ownBlock], gv := by simp [Value.ownBlock] }

/-- what Open leaves of a disk, and what it answers -/
def DG.opened (S : DG) (nm : List UInt8) : DG × Int :=
  if (parseL (S.bs nm)).2.2 = true then (S, 8) else if (parseL (S.bs nm)).2.1 < (S.bs nm).length then S.trunc nm (parseL (S.bs nm)).2.1 else (S, 0)

/-- what lies behind an Open -/
def Opened (w w' : World) (d : Nat) (S : DG) (Gp : Nat → Prop) (s : ByteArray) (e : Ending) : Prop :=
  Turn Gp w w' ∧ ∃ G', IsDisk w' d (S.opened s.data.toList).1 G' ∧ (∀ k, G' k → Gp k ∨ w.heap.size ≤ k) ∧
    (((S.opened s.data.toList).2 ≠ 0 ∧ e = .returned (.tuple #[.pointer none, .int .i64 (S.opened s.data.toList).2])) ∨
     ((S.opened s.data.toList).2 = 0 ∧ ∃ j F, e = .returned (.tuple #[.pointer (some ⟨j, 0, none⟩), .int .i64 0]) ∧ JAt w' j d s (parseL (S.bs s.data.toList)).1 (parseL (S.bs s.data.toList)).2.1 false F ∧ (∀ k, F k → w.heap.size ≤ k) ∧ (∀ k, F k → ¬ G' k)))

theorem trunc_err (S : DG) (nm : List UInt8) (n : Nat) (h0 : 0 < (S.bs nm).length) (hn : n < (S.bs nm).length) : S.trunc nm n = if S.can = true then (S.done.set nm ((S.bs nm).take n), 0) else (S, 6) := by
  unfold DG.trunc
  have h1 : S.f nm ≠ none := fun e => by unfold DG.bs at h0; rw [e] at h0; simp at h0
  rw [if_neg h1, if_neg (by omega), if_neg (by omega)]
  simp

set_option maxRecDepth 20000 in
set_option maxHeartbeats 4000000 in
theorem jopen_any (w : World) (d : Nat) (S : DG) (Gp : Nat → Prop) (s : ByteArray) (hd : IsDisk w d S Gp) (hs : s.size ≤ maxLen) (hbig : (S.bs s.data.toList).length ≤ 4194304) (hw : S.wr < 4611686018427387904) (hn : S.n < maxLen) :
    Calls Tryz.prog 49 #[.pointer (some ⟨d, 0, none⟩), .string s] w fun e w' => Opened w w' d S Gp s e := by
  have hb4 : (S.bs s.data.toList).length ≤ 140737488355328 := by omega
  have hx1 := read_any d S Gp w s hd hs hb4
  obtain ⟨bs, hbs⟩ : ∃ bs, bs = S.bs s.data.toList := ⟨_, rfl⟩
  have HS : Hid (bs = S.bs s.data.toList) := hbs
  rw [← hbs] at hx1 hbig
  clear hbs hb4
  obtain ⟨n, hn'⟩ : ∃ n, n = bs.length := ⟨_, rfl⟩
  have Hn : Hid (n = bs.length) := hn'
  rw [← hn'] at hx1 hbig
  clear hn'
  have herr : S.err s.data.toList = 0 ∨ S.err s.data.toList = 4 := by unfold DG.err; split <;> simp
  obtain ⟨er, her⟩ : ∃ er, er = S.err s.data.toList := ⟨_, rfl⟩
  rw [← her] at hx1 herr
  clear her
  have hdlt := hd.lt
  have HD : Hid (IsDisk w d S Gp) := hd
  clear hd
  go_enter Tryz.func49, Tryz.ntmps49
  go_wp2_with fail
  refine hx1.mono ?_
  rintro e w1 ⟨a, c, rfl, hown, hB1, hnc, hnil⟩
  obtain ⟨hb1, hab⟩ := ownsRow_toBytes hown
  clear hx1 hown
  have hs1 := hB1.size
  have hJ0 := JAt.new w1 d s
  have hB2 : Below w.heap.size w (w1.alloc (.cells #[.pointer (some ⟨d, 0, none⟩), .string s, .slice none 0 0, .int .i64 0, .slice none 0 0, .int .i64 0, .bool false] 155)) := hB1.alloc hB1.size _
  have hb2 : Bytes (w1.alloc (.cells #[.pointer (some ⟨d, 0, none⟩), .string s, .slice none 0 0, .int .i64 0, .slice none 0 0, .int .i64 0, .bool false] 155)) a n bs := (Turn.of_below (fun _ => False) ((Below.refl _ w1).alloc (Nat.le_refl _) _)).bytes hb1 (fun _ _ _ => id)
  have hx2 := jread_any _ w1.heap.size d s _ hJ0 a n c bs hb2 hbig
  obtain ⟨w2, hw2⟩ : ∃ w2, w2 = w1.alloc (.cells #[.pointer (some ⟨d, 0, none⟩), .string s, .slice none 0 0, .int .i64 0, .slice none 0 0, .int .i64 0, .bool false] 155) := ⟨_, rfl⟩
  have hs2 : w2.heap.size = w1.heap.size + 1 := by rw [hw2]; simp
  rw [← hw2] at hx2 hB2
  clear hJ0 hb2 hb1
  have HK : Hid (∀ w3, Turn (fun k => k = w1.heap.size) w2 w3 → Turn Gp w w3 ∧ IsDisk w3 d S Gp) := fun w3 hT3 =>
    ⟨(Turn.of_below Gp hB2).trans hT3 (fun i hi e => by omega), (HD.out.below hB2).turn hT3 (fun k hk e => by have := hdlt k hk; omega)⟩
  rcases herr with rfl | rfl
  · go_wp2_with fail
    rw [← hw2]
    clear hw2
    refine hx2.mono ?_
    clear hx2
    rintro e w3 ⟨hT3, (⟨hwr, rfl⟩ | ⟨hok, rfl, hJ3⟩)⟩
    · have HT3 : Hid (Turn Gp w w3 ∧ IsDisk w3 d S Gp) := HK.out w3 hT3
      clear hT3
      go_wp2
      go_ret2
      rw [HS.out] at hwr
      have hO : S.opened s.data.toList = (S, 8) := by unfold DG.opened; rw [if_pos hwr]
      refine ⟨HT3.out.1, Gp, by rw [hO]; exact HT3.out.2, fun k hk => .inl hk, .inl ⟨by rw [hO]; simp, by rw [hO]; rfl⟩⟩
    · have HT3 : Hid (Turn Gp w w3 ∧ IsDisk w3 d S Gp) := HK.out w3 hT3
      have hs3 := hT3.size
      clear hT3
      obtain ⟨Z, hZ⟩ : ∃ Z, Z = (parseL bs).2.1 := ⟨_, rfl⟩
      have HZ : Hid (Z = (parseL bs).2.1 ∧ (parseL bs).2.2 = false) := ⟨hZ, hok⟩
      rw [← hZ] at hJ3
      clear hZ hok
      have c5 := hJ3.c5
      have HJ3 : Hid (JAt w3 w1.heap.size d s (parseL bs).1 Z false (grow (fun k => k = w1.heap.size) w2 w3)) := hJ3
      have HF : Hid (∀ k, grow (fun k => k = w1.heap.size) w2 w3 k → w.heap.size ≤ k ∧ ¬ Gp k) := fun k hk => by
        have : w.heap.size ≤ k := hk.elim (fun e => by omega) (fun e => by omega)
        exact ⟨this, fun hg => by have := hdlt k hg; omega⟩
      clear hJ3
      by_cases hZn : Z < n
      · have i1 : (Z : Int) < (n : Int) := by omega
        have hx4 := truncate_any d S Gp w3 s Z HT3.out.2 hs hw hn (by rw [← HS.out, ← Hn.out]; exact hbig)
        have hte := trunc_err S s.data.toList Z (by rw [← HS.out, ← Hn.out]; omega) (by rw [← HS.out, ← Hn.out]; exact hZn)
        have hO : Hid (S.opened s.data.toList = S.trunc s.data.toList Z) := by
          show _ = _
          unfold DG.opened
          rw [← HS.out, if_neg (by rw [HZ.out.2]; decide), ← HZ.out.1, if_pos (by rw [← Hn.out]; exact hZn)]
        by_cases hcan : S.can = true
        · rw [if_pos hcan] at hte
          have HO : Hid (S.opened s.data.toList = (S.done.set s.data.toList ((S.bs s.data.toList).take Z), 0)) := by show _ = _; rw [hO.out, hte]
          rw [hte] at hx4
          clear hte hO
          go_wp2_with fail
          refine hx4.mono ?_
          rintro e w4 ⟨rfl, hd4, hT4⟩
          have HE : Hid (Turn Gp w w4 ∧ IsDisk w4 d (S.done.set s.data.toList ((S.bs s.data.toList).take Z)) (grow Gp w3 w4) ∧ JAt w4 w1.heap.size d s (parseL bs).1 Z false (grow (fun k => k = w1.heap.size) w2 w3)) :=
            ⟨HT3.out.1.trans hT4 (fun _ _ h => h), hd4, HJ3.out.turn hT4 (fun k hk => (HF.out k hk).2)⟩
          have hlt3 := HJ3.out.lt
          clear hd4 hT4 hx4
          go_wp2
          go_ret2
          refine ⟨HE.out.1, grow Gp w3 w4, by rw [HO.out]; exact HE.out.2.1, fun k hk => hk.elim .inl (fun h => .inr (by have := HT3.out.1.size; omega)), .inr ⟨by rw [HO.out], w1.heap.size, _, rfl, ?_, fun k hk => (HF.out k hk).1, fun k hk hg => hg.elim (HF.out k hk).2 (fun h => by have := hlt3 k hk; omega)⟩⟩
          rw [← HS.out, ← HZ.out.1]; exact HE.out.2.2
        · rw [if_neg hcan] at hte
          have HO : Hid (S.opened s.data.toList = (S, 6)) := by show _ = _; rw [hO.out, hte]
          rw [hte] at hx4
          clear hte hO
          go_wp2_with fail
          refine hx4.mono ?_
          rintro e w4 ⟨rfl, hd4, hT4⟩
          have HE : Hid (Turn Gp w w4 ∧ IsDisk w4 d S (grow Gp w3 w4)) := ⟨HT3.out.1.trans hT4 (fun _ _ h => h), hd4⟩
          clear hd4 hT4 hx4
          go_wp2
          go_ret2
          exact ⟨HE.out.1, grow Gp w3 w4, by rw [HO.out]; exact HE.out.2, fun k hk => hk.elim .inl (fun h => .inr (by have := HT3.out.1.size; omega)), .inl ⟨by rw [HO.out]; simp, by rw [HO.out]; rfl⟩⟩
      · have i1 : ¬ (Z : Int) < (n : Int) := by omega
        have HO : Hid (S.opened s.data.toList = (S, 0)) := by
          show _ = _
          unfold DG.opened
          rw [← HS.out, if_neg (by rw [HZ.out.2]; decide), ← HZ.out.1, if_neg (by rw [← Hn.out]; exact hZn)]
        go_wp2
        go_ret2
        refine ⟨HT3.out.1, Gp, by rw [HO.out]; exact HT3.out.2, fun k hk => .inl hk, .inr ⟨by rw [HO.out], w1.heap.size, _, rfl, ?_, fun k hk => (HF.out k hk).1, fun k hk => (HF.out k hk).2⟩⟩
        rw [← HS.out, ← HZ.out.1]; exact HJ3.out
  · go_wp2_with fail
    rw [← hw2]
    clear hw2
    refine hx2.mono ?_
    clear hx2
    rintro e w3 ⟨hT3, (⟨hwr, rfl⟩ | ⟨hok, rfl, hJ3⟩)⟩
    · have HT3 : Hid (Turn Gp w w3 ∧ IsDisk w3 d S Gp) := HK.out w3 hT3
      clear hT3
      go_wp2
      go_ret2
      rw [HS.out] at hwr
      have hO : S.opened s.data.toList = (S, 8) := by unfold DG.opened; rw [if_pos hwr]
      refine ⟨HT3.out.1, Gp, by rw [hO]; exact HT3.out.2, fun k hk => .inl hk, .inl ⟨by rw [hO]; simp, by rw [hO]; rfl⟩⟩
    · have HT3 : Hid (Turn Gp w w3 ∧ IsDisk w3 d S Gp) := HK.out w3 hT3
      have hs3 := hT3.size
      clear hT3
      obtain ⟨Z, hZ⟩ : ∃ Z, Z = (parseL bs).2.1 := ⟨_, rfl⟩
      have HZ : Hid (Z = (parseL bs).2.1 ∧ (parseL bs).2.2 = false) := ⟨hZ, hok⟩
      rw [← hZ] at hJ3
      clear hZ hok
      have c5 := hJ3.c5
      have HJ3 : Hid (JAt w3 w1.heap.size d s (parseL bs).1 Z false (grow (fun k => k = w1.heap.size) w2 w3)) := hJ3
      have HF : Hid (∀ k, grow (fun k => k = w1.heap.size) w2 w3 k → w.heap.size ≤ k ∧ ¬ Gp k) := fun k hk => by
        have : w.heap.size ≤ k := hk.elim (fun e => by omega) (fun e => by omega)
        exact ⟨this, fun hg => by have := hdlt k hg; omega⟩
      clear hJ3
      by_cases hZn : Z < n
      · have i1 : (Z : Int) < (n : Int) := by omega
        have hx4 := truncate_any d S Gp w3 s Z HT3.out.2 hs hw hn (by rw [← HS.out, ← Hn.out]; exact hbig)
        have hte := trunc_err S s.data.toList Z (by rw [← HS.out, ← Hn.out]; omega) (by rw [← HS.out, ← Hn.out]; exact hZn)
        have hO : Hid (S.opened s.data.toList = S.trunc s.data.toList Z) := by
          show _ = _
          unfold DG.opened
          rw [← HS.out, if_neg (by rw [HZ.out.2]; decide), ← HZ.out.1, if_pos (by rw [← Hn.out]; exact hZn)]
        by_cases hcan : S.can = true
        · rw [if_pos hcan] at hte
          have HO : Hid (S.opened s.data.toList = (S.done.set s.data.toList ((S.bs s.data.toList).take Z), 0)) := by show _ = _; rw [hO.out, hte]
          rw [hte] at hx4
          clear hte hO
          go_wp2_with fail
          refine hx4.mono ?_
          rintro e w4 ⟨rfl, hd4, hT4⟩
          have HE : Hid (Turn Gp w w4 ∧ IsDisk w4 d (S.done.set s.data.toList ((S.bs s.data.toList).take Z)) (grow Gp w3 w4) ∧ JAt w4 w1.heap.size d s (parseL bs).1 Z false (grow (fun k => k = w1.heap.size) w2 w3)) :=
            ⟨HT3.out.1.trans hT4 (fun _ _ h => h), hd4, HJ3.out.turn hT4 (fun k hk => (HF.out k hk).2)⟩
          have hlt3 := HJ3.out.lt
          clear hd4 hT4 hx4
          go_wp2
          go_ret2
          refine ⟨HE.out.1, grow Gp w3 w4, by rw [HO.out]; exact HE.out.2.1, fun k hk => hk.elim .inl (fun h => .inr (by have := HT3.out.1.size; omega)), .inr ⟨by rw [HO.out], w1.heap.size, _, rfl, ?_, fun k hk => (HF.out k hk).1, fun k hk hg => hg.elim (HF.out k hk).2 (fun h => by have := hlt3 k hk; omega)⟩⟩
          rw [← HS.out, ← HZ.out.1]; exact HE.out.2.2
        · rw [if_neg hcan] at hte
          have HO : Hid (S.opened s.data.toList = (S, 6)) := by show _ = _; rw [hO.out, hte]
          rw [hte] at hx4
          clear hte hO
          go_wp2_with fail
          refine hx4.mono ?_
          rintro e w4 ⟨rfl, hd4, hT4⟩
          have HE : Hid (Turn Gp w w4 ∧ IsDisk w4 d S (grow Gp w3 w4)) := ⟨HT3.out.1.trans hT4 (fun _ _ h => h), hd4⟩
          clear hd4 hT4 hx4
          go_wp2
          go_ret2
          exact ⟨HE.out.1, grow Gp w3 w4, by rw [HO.out]; exact HE.out.2, fun k hk => hk.elim .inl (fun h => .inr (by have := HT3.out.1.size; omega)), .inl ⟨by rw [HO.out]; simp, by rw [HO.out]; rfl⟩⟩
      · have i1 : ¬ (Z : Int) < (n : Int) := by omega
        have HO : Hid (S.opened s.data.toList = (S, 0)) := by
          show _ = _
          unfold DG.opened
          rw [← HS.out, if_neg (by rw [HZ.out.2]; decide), ← HZ.out.1, if_neg (by rw [← Hn.out]; exact hZn)]
        go_wp2
        go_ret2
        refine ⟨HT3.out.1, Gp, by rw [HO.out]; exact HT3.out.2, fun k hk => .inl hk, .inr ⟨by rw [HO.out], w1.heap.size, _, rfl, ?_, fun k hk => (HF.out k hk).1, fun k hk => (HF.out k hk).2⟩⟩
        rw [← HS.out, ← HZ.out.1]; exact HJ3.out

end Go.Proofs.YtncagdfbgpdhfaaGreat
