import Derived.Test.YtdjodigimhgklaaGreatDoorMD24
import Derived.Test.YtdjodigimhgklaaGreatDoorMD15
import Derived.Test.YtdjodigimhgklaaGreatDoorMD04
import Derived.Test.YtdjodigimhgklaaGreatDoorMD12
import Derived.Test.YtdjodigimhgklaaGreatDoorMD16
import Derived.Test.YtdjodigimhgklaaGreatDoorMD18
import Derived.Test.YtdjodigimhgklaaGreatDoorMD03
/- The memo's remove: run files taken away, by rising number. -/
namespace Go.Proofs.YtdjodigimhgklaaGreatDoor
open Go.RowKit Go.Shelf Go.Maps Go.Lib

attribute [local go_sem] Oper.semAt_some

theorem isNaNI_any (x : Int) (w : World) : Calls Tryz.prog 127 #[.int .i64 x] w fun e w' => e = .returned (.bool false) ∧ w' = w := by
  go_enter Tryz.func127, Tryz.ntmps127
  go_wp2
  go_ret
  exact ⟨rfl, rfl⟩
theorem compareI_any (x y : Nat) (w : World) : Calls Tryz.prog 84 #[nV x, nV y] w fun e w' => e = .returned (.int .i64 (cmpN x y)) ∧ w' = w := by
  by_cases h1 : x < y
  · have i1 : (x : Int) < (y : Int) := by omega
    have HC : Hid (cmpN x y = -1) := by show _ = _; unfold cmpN; rw [if_pos h1]
    go_enter Tryz.func84, Tryz.ntmps84
    go_wp2_with (go_at_call 127; refine (isNaNI_any _ _).mono ?_; rintro e w1 ⟨rfl, rfl⟩)
    go_ret
    exact ⟨by rw [HC.out]; rfl, rfl⟩
  · by_cases h2 : y < x
    · have i1 : ¬ (x : Int) < (y : Int) := by omega
      have i2 : (y : Int) < (x : Int) := by omega
      have HC : Hid (cmpN x y = 1) := by show _ = _; unfold cmpN; rw [if_neg h1, if_pos h2]
      go_enter Tryz.func84, Tryz.ntmps84
      go_wp2_with (go_at_call 127; refine (isNaNI_any _ _).mono ?_; rintro e w1 ⟨rfl, rfl⟩)
      go_ret
      exact ⟨by rw [HC.out]; rfl, rfl⟩
    · have i1 : ¬ (x : Int) < (y : Int) := by omega
      have i2 : ¬ (y : Int) < (x : Int) := by omega
      have HC : Hid (cmpN x y = 0) := by show _ = _; unfold cmpN; rw [if_neg h1, if_neg h2]
      go_enter Tryz.func84, Tryz.ntmps84
      go_wp2_with (go_at_call 127; refine (isNaNI_any _ _).mono ?_; rintro e w1 ⟨rfl, rfl⟩)
      go_ret
      exact ⟨by rw [HC.out]; rfl, rfl⟩
theorem ltI (p q : Nat) : ltOf cmpN p q = decide (p < q) := by
  unfold ltOf cmpN
  by_cases h1 : p < q
  · simp [h1]
  · by_cases h2 : q < p <;> simp [h1, h2]
theorem swoI : Sort.SWO (ltOf cmpN) where
  irrefl x := by rw [ltI]; simp
  trans x y z h1 h2 := by rw [ltI] at *; simp at *; omega
  ntrans x y z h1 h2 := by rw [ltI] at *; simp at *; omega
theorem cmpI_any (p q : Nat) (W : World) : Calls Tryz.prog 83 #[nV p, nV q] W fun e w' => e = .returned (.int .i64 (cmpN p q)) ∧ w' = W := by
  have hcon := compareI_any p q W
  generalize cmpN p q = r at hcon ⊢
  go_enter Tryz.func83, Tryz.ntmps83
  go_wp2_with (go_at_call 84; refine hcon.mono ?_; clear hcon; rintro e w' ⟨rfl, hw⟩; subst hw)
  go_ret
  exact ⟨rfl, rfl⟩
theorem cmpLaysI (blk off size : Nat) (w : World) : CmpLays1 Tryz.prog 83 #[] nV cmpN blk off size w :=
  fun _ _ _ _ x y => (cmpI_any x y _).mono fun _ _ ⟨h1, h2⟩ => ⟨h1, 0, #[], by rw [h2]; rfl⟩
theorem getI! {l : List Nat} {j : Nat} {x : Nat} (h : l[j]? = some x) : (l.toArray[j]! : Nat) = x := by
  obtain ⟨hj, rfl⟩ := List.getElem?_eq_some_iff.1 h
  rw [getElem!_pos l.toArray j (by simpa using hj)]
  simp
theorem holdsI {w : World} {b off n : Nat} {l : List Nat} (h : NsV w (some ⟨b, off, none⟩) n l) (hf : ∀ j, w.frozen? ⟨b, off + j, none⟩ = false) : Sort.Holds nV w b off l.toArray := by
  intro t ht
  have ht' : t < l.length := by simpa using ht
  refine ⟨?_, hf t⟩
  have hx : l[t]? = some l[t] := List.getElem?_eq_getElem ht'
  obtain ⟨b', off', e, hc⟩ := h.2 (by have := h.1; omega)
  cases e
  rw [getI! hx]
  exact hc _ _ hx
theorem nsI {w : World} {b off : Nat} {d : Array Nat} (h : Sort.Holds nV w b off d) : NsV w (some ⟨b, off, none⟩) d.size d.toList := by
  refine ⟨by simp, fun h0 => ⟨b, off, rfl, fun j x hx => ?_⟩⟩
  have hj : j < d.size := by have := (List.getElem?_eq_some_iff.1 hx).1; simpa using this
  have e : (d[j]! : Nat) = x := by
    rw [getElem!_pos d j hj]
    have := (List.getElem?_eq_some_iff.1 hx).2
    rw [← this]; simp
  have c1 := (h j hj).1
  rw [e] at c1
  exact c1
theorem grownBy_sortI {w : World} {g off m : Nat} {os : Array Obj} (d : Array Nat) : w.grownBy (sortWorld nV w g off m d os) (some g) := by
  unfold sortWorld
  refine ⟨rfl, rfl, rfl, by simp, fun k hk hne => ?_⟩
  rw [Sort.heap_grow_old _ _ (by simpa using hk)]
  have : g ≠ k := fun e => hne (by rw [e])
  simp [Sort.putRow, Sort.mapBlock, Sort.ahead, Array.getElem?_modify, this]
theorem sortedI_le {d : Array Nat} (h : Sort.SortedIn (ltOf cmpN) 0 d.size d) : d.toList.Pairwise fun p q => p ≤ q := by
  rw [List.pairwise_iff_getElem]
  intro i j hi hj hij
  have hi' : i < d.size := by simpa using hi
  have hj' : j < d.size := by simpa using hj
  have := h i j (Nat.zero_le _) hij hj'
  rw [ltI, decide_eq_false_iff_not, getElem!_pos d j hj', getElem!_pos d i hi'] at this
  simp only [Array.getElem_toList]
  omega
theorem isort_any (w : World) (ad : Option Addr) (n c : Nat) (l : List Nat) (h : NsV w ad n l) (hn : n ≤ 1000000) (hnil : ad = none → n = 0) (hb : ∀ x, ad = some x → x.spot = none ∧ x.block < w.heap.size ∧ ∀ j, w.frozen? ⟨x.block, j, none⟩ = false) :
    Calls Tryz.prog 82 #[.slice ad n c, .func (.func 83) #[] #[]] w fun e w' => e = .returned (.tuple #[]) ∧ ∃ l', l'.Perm l ∧ (l'.Pairwise fun p q => p ≤ q) ∧ NsV w' ad n l' ∧ w.grownBy w' (ad.map (·.block)) := by
  cases ad with
  | none =>
    obtain rfl := hnil rfl
    have hl0 : l = [] := List.eq_nil_of_length_eq_zero h.1
    subst hl0
    refine Calls.mono (AnyF.slices_SortFunc_none Tryz.sortI0 none c (.func (.func 83) #[] #[]) w) ?_
    rintro e w' ⟨rfl, rfl⟩
    exact ⟨rfl, [], List.Perm.refl _, List.Pairwise.nil, ⟨rfl, fun h => by omega⟩, ⟨rfl, rfl, rfl, Nat.le_refl _, fun _ _ _ => rfl⟩⟩
  | some ad =>
    obtain ⟨g, o, sp⟩ := ad
    obtain ⟨h1, hgl, hfr⟩ := hb _ rfl
    simp only at h1 hgl hfr
    subst h1
    have eg : ∀ args w, (callFunc 83 args).run Tryz.prog w = .ok (.enter 83 args) w := enters_of Tryz.func83 (by kernel_rfl) rfl
    have hH := holdsI h (fun j => hfr (o + j))
    have hs : l.toArray.size = n := by simpa using h.1
    have hcon := Any.slices_SortFunc Tryz.sortI nV (fun x => rfl) cmpN swoI 83 #[] g o c l.toArray w eg (cmpLaysI _ _ _ _) hH hgl (by rw [hs]; omega)
    rw [hs] at hcon
    refine Calls.mono hcon ?_
    rintro e w' ⟨rfl, d', m, os, hP, hS, rfl⟩
    obtain ⟨p1, _, p3⟩ := hP
    rw [hs] at p1
    have e1 : d'.extract 0 n = d' := by rw [← p1]; simp
    have e2 : l.toArray.extract 0 n = l.toArray := by rw [← hs]; simp
    rw [e1, e2] at p3
    refine ⟨rfl, d'.toList, by simpa using p3, sortedI_le (by rw [p1]; exact hS), ?_, ?_⟩
    · have := nsI (holds_sortWorld nV w g o m l.toArray d' os hgl hH (by rw [p1, hs]))
      rw [p1] at this
      exact this
    · exact grownBy_sortI d'
set_option maxRecDepth 20000 in
theorem ystep_name (w : World) {ops : Array Oper} {o : Oper} {a : Act} {K : Act → World → Prop} {Q : Exit → Act → World → Prop} {E : Prop} (hw : Region.wanted o (yielded ops a.tmps) = true) (x0 x1 : Nat) (ty0 ty1 : TypeId)
    (ho : o.op = .call { callee := .value (.func 37), args := #[.tmp x0, .tmp x1], argTypes := #[ty0, ty1] }) (vx0 vx1 : Value) (hx0 : a.tmps[x0]?.getD undef = vx0) (hx1 : a.tmps[x1]?.getD undef = vx1) (R : Value → World → Prop)
    (hc : Calls Tryz.prog 37 #[vx0, vx1] w fun e w' => ∃ v, e = .returned v ∧ R v w') (hK : ∀ v w', R v w' → K (a.put o.dst v) w') :
    if Region.wanted o (yielded ops a.tmps) = true then Oper.wp Tryz.prog o a w K Q else E := by
  rw [if_pos hw]
  unfold Oper.wp execOp
  simp [ho, resolve, invoke, go_sem, hx0, hx1]
  refine hc.mono ?_
  rintro e w' ⟨v, rfl, hR⟩
  have := hK v w' hR
  simpa [go_sem] using this
set_option maxRecDepth 20000 in
theorem ystep_rem (w : World) {ops : Array Oper} {o : Oper} {a : Act} {K : Act → World → Prop} {Q : Exit → Act → World → Prop} {E : Prop} (hw : Region.wanted o (yielded ops a.tmps) = true) (x0 x1 : Nat) (ty0 ty1 : TypeId)
    (ho : o.op = .call { callee := .value (.func 85), args := #[.tmp x0, .tmp x1], argTypes := #[ty0, ty1] }) (vx0 vx1 : Value) (hx0 : a.tmps[x0]?.getD undef = vx0) (hx1 : a.tmps[x1]?.getD undef = vx1) (R : Value → World → Prop)
    (hc : Calls Tryz.prog 85 #[vx0, vx1] w fun e w' => ∃ v, e = .returned v ∧ R v w') (hK : ∀ v w', R v w' → K (a.put o.dst v) w') :
    if Region.wanted o (yielded ops a.tmps) = true then Oper.wp Tryz.prog o a w K Q else E := by
  rw [if_pos hw]
  unfold Oper.wp execOp
  simp [ho, resolve, invoke, go_sem, hx0, hx1]
  refine hc.mono ?_
  rintro e w' ⟨v, rfl, hR⟩
  have := hK v w' hR
  simpa [go_sem] using this
/-- run files taken away, one behind the other -/
def remS (key : Nat) : DG → List Nat → DG × Int
  | S, [] => (S, 0)
  | S, n :: r => if (S.remove (nmB key n)).2 = 0 then remS key (S.remove (nmB key n)).1 r else S.remove (nmB key n)
theorem remS_snoc (key : Nat) : ∀ (l : List Nat) (S : DG) (x : Nat), remS key S (l ++ [x]) = if (remS key S l).2 = 0 then (remS key S l).1.remove (nmB key x) else remS key S l
  | [], S, x => by
    simp only [List.nil_append, remS, if_pos]
    split <;> rename_i h
    · exact Prod.ext rfl h.symm
    · rfl
  | n :: r, S, x => by
    simp only [List.cons_append, remS]
    split
    · exact remS_snoc key r _ x
    · rename_i h
      first | rfl | rw [if_neg h]
theorem remS_stop (key : Nat) : ∀ (l m : List Nat) (S : DG), (remS key S l).2 ≠ 0 → remS key S (l ++ m) = remS key S l
  | [], m, S, h => absurd rfl h
  | n :: r, m, S, h => by
    simp only [List.cons_append, remS] at h ⊢
    split
    · rename_i h1
      rw [if_pos h1] at h
      exact remS_stop key r m _ h
    · rfl
theorem remove_wr (S : DG) (l : List UInt8) : (S.remove l).1.wr ≤ S.wr + 1 := by
  unfold DG.remove
  split
  · simp
  · split
    · simp [DG.done, DG.rem]
    · simp
theorem remS_wr (key : Nat) : ∀ (l : List Nat) (S : DG), (remS key S l).1.wr ≤ S.wr + l.length
  | [], S => Nat.le_refl _
  | n :: r, S => by
    have h1 := remove_wr S (nmB key n)
    simp only [remS, List.length_cons]
    split
    · have := remS_wr key r (S.remove (nmB key n)).1
      omega
    · omega
theorem nmB_len (key n : Nat) (hn : n < 100) : (nmB key n).length ≤ 24 := by
  have h : ∀ n < 100, (Lib.decDigits n).length ≤ 2 := by decide +kernel
  have := h n hn
  unfold nmB
  rw [List.length_append, List.length_append, hexOf_len]
  split
  · simp
  · simp only [List.length_cons, List.length_nil]; omega
/-- what remove answers -/
def RemA (w : World) (d key : Nat) (S : DG) (G : Nat → Prop) (ad : Option Addr) (l : List Nat) (e : Ending) (w' : World) : Prop :=
  ∃ l', l'.Perm l ∧ (l'.Pairwise fun p q => p ≤ q) ∧ e = .returned (.int .i64 (remS key S l').2) ∧ ∃ G', IsDisk w' d (remS key S l').1 G' ∧ (∀ k, G' k → G k ∨ w.heap.size ≤ k) ∧ Turn (fun k => G k ∨ (ad.map (·.block)) = some k) w w'
theorem isDisk_drew {w : World} {p : Nat} {S : DG} {F : Nat → Prop} (h : IsDisk w p S F) : IsDisk w.drew p S F := h.below ⟨rfl, rfl, rfl, Nat.le_refl _, fun _ _ => rfl⟩

set_option maxRecDepth 100000 in
set_option maxHeartbeats 4000000 in
theorem remove_anyY (w : World) (m d key : Nat) (hkey : key < 18446744073709551616) (c0 : w.cell? ⟨m, 0, none⟩ = some (.pointer (some ⟨d, 0, none⟩))) (c1 : w.cell? ⟨m, 1, none⟩ = some (.int .u64 (key : Int)))
    (S : DG) (G : Nat → Prop) (hd : IsDisk w d S G) (hm : ¬ G m) (ad : Option Addr) (n c : Nat) (l : List Nat) (h : NsV w ad n l) (hn : n ≤ 1000) (hl : ∀ x ∈ l, x < 100) (hnil : ad = none → n = 0)
    (hb : ∀ x, ad = some x → x.spot = none ∧ x.block < w.heap.size ∧ (∀ j, w.frozen? ⟨x.block, j, none⟩ = false) ∧ x.block ≠ m ∧ ¬ G x.block) (hw : S.wr < 4000000000000000000) :
    Calls Tryz.prog 40 #[.pointer (some ⟨m, 0, none⟩), .slice ad n c] w (RemA w d key S G ad l) := by
  have hmx : Tryz.prog.follows .mixedOrders = true := by kernel_rfl
  have hso := isort_any w ad n c l h (by omega) hnil (fun x e => ⟨(hb x e).1, (hb x e).2.1, (hb x e).2.2.1⟩)
  have hmlt : m < w.heap.size := World.block_lt_of_cell? w _ c0
  have HB : Hid (∀ x, ad = some x → x.spot = none ∧ x.block < w.heap.size ∧ x.block ≠ m ∧ ¬ G x.block) := fun x e => ⟨(hb x e).1, (hb x e).2.1, (hb x e).2.2.2.1, (hb x e).2.2.2.2⟩
  have HC : Hid (w.cell? ⟨m, 0, none⟩ = some (.pointer (some ⟨d, 0, none⟩)) ∧ w.cell? ⟨m, 1, none⟩ = some (.int .u64 (key : Int)) ∧ m < w.heap.size ∧ IsDisk w d S G ∧ ¬ G m ∧ (∀ k, G k → k < w.heap.size)) := ⟨c0, c1, hmlt, hd, hm, hd.lt⟩
  have hll := h.1
  clear c0 c1 hd hm h hb hmlt hnil
  go_enter Tryz.func40, Tryz.ntmps40
  go_wp2_with (go_at_call 82; refine hso.mono ?_; clear hso; rintro e w1 ⟨rfl, l', hp, hsr, hns, hg⟩)
  have hlen : l'.length = n := hns.1
  have H1 : Hid (l'.Perm l ∧ (l'.Pairwise fun p q => p ≤ q) ∧ NsV w1 ad n l' ∧ Turn (fun k => (ad.map (·.block)) = some k) w w1 ∧ IsDisk w1 d S G ∧ w1.cell? ⟨m, 0, none⟩ = some (.pointer (some ⟨d, 0, none⟩)) ∧ w1.cell? ⟨m, 1, none⟩ = some (.int .u64 (key : Int)) ∧ (∀ x ∈ l', x < 100)) := by
    have hT : Turn (fun k => (ad.map (·.block)) = some k) w w1 := Turn.of_grownBy hg (fun k e => .inl e)
    have hX : ∀ k, (ad.map (·.block)) = some k → k ≠ m ∧ ¬ G k := fun k e => by
      cases ad with
      | none => cases e
      | some x => cases e; exact ⟨(HB.out x rfl).2.2.1, (HB.out x rfl).2.2.2⟩
    refine ⟨hp, hsr, hns, hT, HC.out.2.2.2.1.turn hT (fun k hk e => (hX k e).2 hk), hT.cell HC.out.1 (fun e => (hX m e).1 rfl), hT.cell HC.out.2.1 (fun e => (hX m e).1 rfl), fun x hx => hl x (hp.mem_iff.1 hx)⟩
  clear hp hsr hns hg hl hll
  go_wp2_with fail
  go_loopw [12] (fun i wr => ∃ k : Nat, k ≤ n ∧ i = .int .i64 (k : Int) ∧ Hid ((remS key S (l'.take k)).2 = 0 ∧ ∃ G', IsDisk wr d (remS key S (l'.take k)).1 G' ∧ (∀ k, G' k → G k ∨ w1.heap.size ≤ k) ∧ Turn G w1 wr)) (fun i _ => n - (intOf i).toNat)
  case atStart => exact ⟨0, Nat.zero_le _, rfl, by rw [List.take_zero]; rfl, G, by rw [List.take_zero]; exact H1.out.2.2.2.2.1, fun k hk => .inl hk, Turn.refl _ _⟩
  case round =>
    obtain ⟨k, hk, rfl, H⟩ := hrel
    obtain ⟨hz, G', hd', hG', hT'⟩ := H.out
    have hsz := hT'.size
    by_cases hlt : k < n
    · obtain ⟨x, hx⟩ : ∃ x, l'[k]? = some x := ⟨_, List.getElem?_eq_getElem (by rw [hlen]; exact hlt)⟩
      have hx100 := H1.out.2.2.2.2.2.2.2 x (List.mem_of_getElem? hx)
      obtain ⟨b1, o1, rfl, hc1⟩ := H1.out.2.2.1.2 (by omega)
      have t1 := hT'.cell (hc1 k x hx) (HB.out _ rfl).2.2.2
      have HM : Hid (∀ Y, Below wr.heap.size wr Y → Y.cell? ⟨m, 0, none⟩ = some (.pointer (some ⟨d, 0, none⟩)) ∧ Y.cell? ⟨m, 1, none⟩ = some (.int .u64 (key : Int))) := fun Y hY => by
        have q0 := hT'.cell H1.out.2.2.2.2.2.1 HC.out.2.2.2.2.1
        have q1 := hT'.cell H1.out.2.2.2.2.2.2.1 HC.out.2.2.2.2.1
        exact ⟨(hY.cell (p := ⟨m, 0, none⟩) (World.block_lt_of_cell? wr _ q0)).trans q0, (hY.cell (p := ⟨m, 1, none⟩) (World.block_lt_of_cell? wr _ q1)).trans q1⟩
      have i1 : (k : Int) < (n : Int) := by omega
      have i2 : ¬ n ≤ k := by omega
      have HE : Hid (l'.take (k + 1) = l'.take k ++ [x]) := (by rw [List.take_add_one, hx]; rfl : l'.take (k + 1) = l'.take k ++ [x])
      have HR : Hid ((remS key S (l'.take k)).2 = 0 ∧ IsDisk wr.drew d (remS key S (l'.take k)).1 G' ∧ (∀ k, G' k → G k ∨ w1.heap.size ≤ k) ∧ Turn G w1 wr ∧ ¬ G' m ∧ (remS key S (l'.take k)).1.wr < 4611686018427387904) := ⟨hz, isDisk_drew hd', hG', hT', fun e => by
        rcases hG' m e with e | e
        · exact HC.out.2.2.2.2.1 e
        · have := HC.out.2.2.1
          have := H1.out.2.2.2.1.size
          omega, by
        have h1 := remS_wr key (l'.take k) S
        rw [List.length_take] at h1
        omega⟩
      clear hc1 hx hz hd' hG' hT' H
      go_upto_region 5 with fail
      refine wp_region_G (S := SB 1000 (fun _ => True) (fun Y => Y.cell? ⟨m, 0, none⟩ = some (.pointer (some ⟨d, 0, none⟩)) ∧ Y.cell? ⟨m, 1, none⟩ = some (.int .u64 (key : Int)))) hmx ?_
      have hBd : Below wr.heap.size wr wr.drew := ⟨rfl, rfl, rfl, Nat.le_refl _, fun _ _ => rfl⟩
      have hSB : SB 1000 (fun _ => True) (fun Y => Y.cell? ⟨m, 0, none⟩ = some (.pointer (some ⟨d, 0, none⟩)) ∧ Y.cell? ⟨m, 1, none⟩ = some (.int .u64 (key : Int))) (Array.replicate 12 false) wr.drew := SB.on trivial (HM.out _ hBd)
      refine wpAnyG_takeP (i := 0) (v := ?_) rfl (by kernel_rfl) (by kernel_rfl) (by kernel_rfl) (fun _ _ _ h => h) rfl (Or.inl ⟨by rfl, ?_⟩) (by assumption) ?_
      rotate_left
      · intro Y _; go_simp; try with_reducible rfl
      intro hSB0
      try simp only [Act.put, List.getElem_toArray, List.getElem_cons_zero, List.setIfInBounds_toArray, List.set_cons_zero, List.set_cons_succ]
      refine wpAnyG_takeP (i := 1) (v := ?_) rfl (by kernel_rfl) (by kernel_rfl) (by kernel_rfl) (fun _ _ _ h => h) rfl (Or.inl ⟨by rfl, ?_⟩) (by assumption) ?_
      rotate_left
      · intro Y _; go_simp; try with_reducible rfl
      intro hSB1
      try simp only [Act.put, List.getElem_toArray, List.getElem_cons_zero, List.getElem_cons_succ, List.setIfInBounds_toArray, List.set_cons_zero, List.set_cons_succ]
      refine wpAnyG_takeP (i := 2) (v := ?_) rfl (by kernel_rfl) (by kernel_rfl) (by kernel_rfl) (fun _ _ _ h => h) rfl (Or.inl ⟨by rfl, ?_⟩) (by assumption) ?_
      rotate_left
      · intro Y _; go_simp; try with_reducible rfl
      intro hSB2
      try simp only [Act.put, List.getElem_toArray, List.getElem_cons_zero, List.getElem_cons_succ, List.setIfInBounds_toArray, List.set_cons_zero, List.set_cons_succ]
      refine wpAnyG_takeP (i := 3) (v := ?_) rfl (by kernel_rfl) (by kernel_rfl) (by kernel_rfl) (fun _ _ _ h => h) rfl (Or.inl ⟨by rfl, ?_⟩) (by assumption) ?_
      rotate_left
      · intro Y hY; obtain ⟨y1, y2⟩ := hY; go_simp; try with_reducible rfl
      intro hSB3
      try simp only [Act.put, List.getElem_toArray, List.getElem_cons_zero, List.getElem_cons_succ, List.setIfInBounds_toArray, List.set_cons_zero, List.set_cons_succ]
      refine wpAnyG_takeP (i := 4) (v := ?_) rfl (by kernel_rfl) (by kernel_rfl) (by kernel_rfl) (fun _ _ _ h => h) rfl (Or.inl ⟨by rfl, ?_⟩) (by assumption) ?_
      rotate_left
      · intro Y _; go_simp; try with_reducible rfl
      intro hSB4
      try simp only [Act.put, List.getElem_toArray, List.getElem_cons_zero, List.getElem_cons_succ, List.setIfInBounds_toArray, List.set_cons_zero, List.set_cons_succ]
      refine wpAnyG_takeP (i := 5) (v := ?_) rfl (by kernel_rfl) (by kernel_rfl) (by kernel_rfl) (fun _ _ _ h => h) rfl (Or.inl ⟨by rfl, ?_⟩) (by assumption) ?_
      rotate_left
      · intro Y _; go_simp; try with_reducible rfl
      intro hSB5
      try simp only [Act.put, List.getElem_toArray, List.getElem_cons_zero, List.getElem_cons_succ, List.setIfInBounds_toArray, List.set_cons_zero, List.set_cons_succ]
      refine wpAnyG_takeP (i := 6) (v := ?_) rfl (by kernel_rfl) (by kernel_rfl) (by kernel_rfl) (fun _ _ _ h => h) rfl (Or.inl ⟨by rfl, ?_⟩) (by assumption) ?_
      rotate_left
      · intro Y _; go_simp; try with_reducible rfl
      intro hSB6
      try simp only [Act.put, List.getElem_toArray, List.getElem_cons_zero, List.getElem_cons_succ, List.setIfInBounds_toArray, List.set_cons_zero, List.set_cons_succ]
      refine wpAnyG_takeP (i := 7) (v := ?_) rfl (by kernel_rfl) (by kernel_rfl) (by kernel_rfl) (fun _ _ _ h => h) rfl (Or.inl ⟨by rfl, ?_⟩) (by assumption) ?_
      rotate_left
      · intro Y hY; obtain ⟨y1, y2⟩ := hY; go_simp; try with_reducible rfl
      intro hSB7
      try simp only [Act.put, List.getElem_toArray, List.getElem_cons_zero, List.getElem_cons_succ, List.setIfInBounds_toArray, List.set_cons_zero, List.set_cons_succ]
      refine wpAnyG_takeP (i := 8) (v := ?_) rfl (by kernel_rfl) (by kernel_rfl) (by kernel_rfl) (fun _ _ _ h => h) rfl (Or.inl ⟨by rfl, ?_⟩) (by assumption) ?_
      rotate_left
      · intro Y _; go_simp; try with_reducible rfl
      intro hSB8
      try simp only [Act.put, List.getElem_toArray, List.getElem_cons_zero, List.getElem_cons_succ, List.setIfInBounds_toArray, List.set_cons_zero, List.set_cons_succ]
      refine wpAnyG_one (i := 9) (by kernel_rfl) rfl (fun K hK => ?_)
      refine ystep_name _ (by rfl) _ _ _ _ (by rfl) _ _ (by rfl) (by rfl) (fun v W => v = .string ⟨(nmB key x).toArray⟩ ∧ Below wr.heap.size wr W) ((fileName_any key x wr.drew hkey hx100).mono (fun e w' h => ⟨_, h.1, rfl, hBd.trans h.2⟩)) ?_
      rintro v w7 ⟨rfl, hB7⟩
      refine hK.out _ _ (SB.on trivial (HM.out _ hB7)) (fun hSB9 => ?_)
      clear hK K
      try simp only [Act.put, List.getElem_toArray, List.getElem_cons_zero, List.getElem_cons_succ, List.setIfInBounds_toArray, List.set_cons_zero, List.set_cons_succ]
      have hd7 := HR.out.2.1.below (w' := w7) ⟨hB7.os, hB7.tape, hB7.output, hB7.size, hB7.block⟩
      have hrm := remove_any d _ G' w7 ⟨(nmB key x).toArray⟩ hd7 (by have := nmB_len key x hx100; show (nmB key x).toArray.size ≤ maxLen; rw [List.size_toArray]; unfold maxLen; omega) HR.out.2.2.2.2.2
      refine wpAnyG_one (i := 10) (by kernel_rfl) rfl (fun K hK => ?_)
      refine ystep_rem _ (by rfl) _ _ _ _ (by rfl) _ _ (by rfl) (by rfl) (fun v W => ∃ er : Int, v = .int .i64 er ∧ Hid (er = ((remS key S (l'.take k)).1.remove (nmB key x)).2) ∧ IsDisk W d ((remS key S (l'.take k)).1.remove (nmB key x)).1 (grow G' w7 W) ∧ Turn G' w7 W) (hrm.mono (fun e w' h => ⟨_, h.1, _, rfl, rfl, h.2.1, h.2.2⟩)) ?_
      rintro v w8 ⟨er, rfl, hv, hd8, hT8⟩
      have hm8 : w8.cell? ⟨m, 0, none⟩ = some (.pointer (some ⟨d, 0, none⟩)) ∧ w8.cell? ⟨m, 1, none⟩ = some (.int .u64 (key : Int)) := ⟨hT8.cell (HM.out _ hB7).1 HR.out.2.2.2.2.1, hT8.cell (HM.out _ hB7).2 HR.out.2.2.2.2.1⟩
      refine hK.out _ _ (SB.on trivial hm8) (fun hSB10 => ?_)
      clear hK K
      try simp only [Act.put, List.getElem_toArray, List.getElem_cons_zero, List.getElem_cons_succ, List.setIfInBounds_toArray, List.set_cons_zero, List.set_cons_succ]
      refine wpAnyG_takeP (i := 11) (v := ?_) rfl (by kernel_rfl) (by kernel_rfl) (by kernel_rfl) (fun _ _ _ h => h) rfl (Or.inl ⟨by rfl, ?_⟩) (by assumption) ?_
      rotate_left
      · intro Y _; go_simp; try with_reducible rfl
      intro hSB11
      try simp only [Act.put, List.getElem_toArray, List.getElem_cons_zero, List.getElem_cons_succ, List.setIfInBounds_toArray, List.set_cons_zero, List.set_cons_succ]
      refine wpAnyG_done (by kernel_rfl) ?_ _
      clear hSB hSB0 hSB1 hSB2 hSB3 hSB4 hSB5 hSB6 hSB7 hSB8 hSB9 hSB10 hSB11
      have HW : Hid (er = (remS key S (l'.take (k + 1))).2 ∧ (∃ G', IsDisk w8 d (remS key S (l'.take (k + 1))).1 G' ∧ (∀ k, G' k → G k ∨ w1.heap.size ≤ k)) ∧ Turn G w1 w8) := by
        rw [HE.out, remS_snoc, if_pos HR.out.1]
        refine ⟨hv.out, ⟨_, hd8, fun q hq => ?_⟩, (HR.out.2.2.2.1.trans (Turn.of_below G hB7) (fun i hi e => e)).trans hT8 (fun i hi e => (HR.out.2.2.1 i e).resolve_right (by omega))⟩
        rcases hq with hq | hq
        · exact HR.out.2.2.1 q hq
        · have := hB7.size
          exact .inr (by omega)
      clear hv hd8 hT8 hm8 hd7 hrm hB7 HR HM t1
      obtain ⟨hv, ⟨G2, hG1, hG2⟩, hT⟩ := HW.out
      have HV : Hid (er = (remS key S (l'.take (k + 1))).2) := hv
      by_cases he : er = 0
      · have HZ : Hid ((remS key S (l'.take (k + 1))).2 = 0 ∧ ∃ G', IsDisk w8 d (remS key S (l'.take (k + 1))).1 G' ∧ (∀ k, G' k → G k ∨ w1.heap.size ≤ k) ∧ Turn G w1 w8) := ⟨by rw [← hv]; exact he, G2, hG1, hG2, hT⟩
        subst he
        clear HW hG1 hG2 hT hv HV
        go_wp2
        go_roundw
        case rel => exact ⟨k + 1, by omega, by go_num, HZ.out⟩
        case measure => simp [intOf]; omega
      · have HZ : Hid (RemA w d key S G (some ⟨b1, o1, none⟩) l (.returned (.int .i64 er)) w8) := by
          have e : remS key S l' = remS key S (l'.take (k + 1)) := by
            conv => lhs; rw [← List.take_append_drop (k + 1) l']
            exact remS_stop key _ _ S (by rw [← hv]; exact he)
          have h1 := hG1
          have h2 := hG2
          have hs1 := H1.out.2.2.2.1.size
          refine ⟨l', H1.out.1, H1.out.2.1, by rw [e, ← hv], G2, by rw [e]; exact h1, fun k hk => (h2 k hk).imp id (fun h => by omega), (H1.out.2.2.2.1.wide (fun k e => .inr e)).trans hT (fun i hi e => .inl e)⟩
        have i5 : (er != 0) = true := by simpa using he
        have i6 : (er == 0) = false := by simpa using he
        clear HW hG1 hG2 hT hv HV
        go_wp2
        go_ret
        exact HZ.out
    · obtain rfl : k = n := by omega
      have hlk : l'.take k = l' := List.take_of_length_le (by rw [hlen]; exact Nat.le_refl _)
      rw [hlk] at hz hd'
      have HZ : Hid (RemA w d key S G ad l (.returned (.int .i64 0)) wr) := by
        have hs1 := H1.out.2.2.2.1.size
        exact ⟨l', H1.out.1, H1.out.2.1, by rw [hz], G', hd', fun k hk => (hG' k hk).imp id (fun h => by omega), (H1.out.2.2.2.1.wide (fun k e => .inr e)).trans hT' (fun i hi e => .inl e)⟩
      have i1 : ¬ (k : Int) < (k : Int) := by omega
      clear hz hd' hG' hT' H
      go_wp2
      go_ret
      exact HZ.out
end Go.Proofs.YtdjodigimhgklaaGreatDoor
