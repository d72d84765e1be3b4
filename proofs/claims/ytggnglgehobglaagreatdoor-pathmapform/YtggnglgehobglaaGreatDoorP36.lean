import Derived.Test.YtggnglgehobglaaGreatDoorP35
import Derived.Test.YtggnglgehobglaaGreatDoorP03
import Derived.Test.YtggnglgehobglaaGreatDoorP07
import Derived.Deep.RegionHeld3
import Derived.Laws.AppendOwnNone
import Derived.Maps.AppendAt
import Derived.Lib.AppendStr
import Derived.Lib.ConvBytes
/- Rows of bytes that a call puts together while it goes through the runes of a text: how append changes them. -/
namespace Go.Proofs.YtggnglgehobglaaGreatDoor
open Go.RowKit

theorem row_shape {w : World} {B n : Nat} {e : TypeId} {v : Value} {xs : List Value} (h : w.ownsRow B e 1 v n xs) : ∃ ad c, v = .slice ad n c ∧ n ≤ c ∧ (ad = none → n = 0 ∧ c = 0) := by
  rcases h.2 with ⟨rfl, rfl⟩ | ⟨g, cap, cur, rfl, _, _, hc, _⟩
  · exact ⟨none, 0, rfl, Nat.le_refl _, fun _ => ⟨rfl, rfl⟩⟩
  · exact ⟨_, _, rfl, hc, fun h => by cases h⟩

theorem row_bytes {w : World} {B n c : Nat} {ad : Option Addr} {l : List UInt8} (h : w.ownsRow B 5 1 (.slice ad n c) n (cellsOf l)) : Bytes w ad n l := by
  have hl : l.length = n := by have := h.1; rw [cellsOf_length] at this; omega
  rcases h.2 with ⟨hv, hn⟩ | ⟨g, cap, cur, hv, _, hg, hc, _, _, ht⟩
  · exact ⟨hl, fun h0 => by omega⟩
  · cases hv
    refine ⟨hl, fun _ => ⟨g, 0, rfl, fun j hj => ?_⟩⟩
    have e : (cur.toList.take (n * 1))[j]? = some (.int .u8 (bt l j)) := by rw [ht]; exact cellsOf_get l j (by omega)
    rw [List.getElem?_take_of_lt (by omega)] at e
    simp only [World.cell?, hg]
    show cur[0 + j]? = _
    rw [Nat.zero_add, ← Array.getElem?_toList]; exact e

theorem row_block {W : World} {base n : Nat} {e : TypeId} {v : Value} {xs : List Value} (h : W.ownsRow base e 1 v n xs) : ∀ r, v.ownBlock = some r → base ≤ r ∧ r < W.heap.size ∧ ∃ cur, W.heap[r]? = some (.cells cur e (0, 0)) := by
  intro r hr
  rcases h.2 with ⟨rfl, _⟩ | ⟨g, cap, cur, rfl, hb, hg, _⟩
  · cases hr
  · cases hr
    exact ⟨hb, (Array.getElem?_eq_some_iff.1 hg).1, cur, hg⟩

/-- append of bytes to a row that is owned: what it is, and where it lies -/
theorem run_app (w : World) (B : Nat) (hB : B ≤ w.heap.size) (ty : TypeId) (v : Value) (n : Nat) (xs : List Value) (hown : w.ownsRow B 5 1 v n xs) (ad : Option Addr) (m c : Nat) (l : List UInt8) (hb : Bytes w ad m l) (hnil : ad = none → m = 0 ∧ c = 0) (hm : n + m ≤ 140737488355328) :
    ∃ v' w', (Builtin.append_ #[66, 66] ty #[v, .slice ad m c]).run Tryz.prog w = .ok v' w' ∧ w'.ownsRow B 5 1 v' (n + m) (xs ++ cellsOf l) ∧ w.grownBy w' v.ownBlock ∧ (v'.ownBlock = v.ownBlock ∨ v'.ownBlock = some w.heap.size) := by
  obtain ⟨i0, hi, hz0, hz1, hz2⟩ := info_parts Tryz.info5
  cases ad with
  | none =>
    obtain ⟨rfl, rfl⟩ := hnil rfl
    have hl : l = [] := List.eq_nil_of_length_eq_zero hb.1
    subst hl
    exact ⟨v, w, run_append_owned_none (P := Tryz.prog) (w := w) B 66 ty 5 i0 1 Tryz.underlying66 hi v n xs hown, by simpa [cellsOf] using hown, ⟨rfl, rfl, rfl, Nat.le_refl _, fun _ _ _ => rfl⟩, .inl rfl⟩
  | some ad =>
    obtain ⟨v', w', h1, h2, h3, _, h5⟩ := run_append_own_at (P := Tryz.prog) w B 66 ty 5 i0 (.int .u8 0) 1 1 Tryz.underlying66 hi hz0 hz1 hz2 rfl (by omega) v n xs hown ad m c (cellsOf l) (by rw [cellsOf_length, hb.1]; omega) (by
      intro j u hj
      have hjl : j < l.length := by have := (List.getElem?_eq_some_iff.1 hj).1; rw [cellsOf_length] at this; exact this
      have hl := hb.1
      obtain ⟨b, off, hx', hc⟩ := hb.2 (by omega)
      obtain rfl := Option.some.inj hx'
      rw [cellsOf_get l j hjl] at hj
      rw [Addr.add_lit, hc j (by omega)]
      exact hj) (cellsOf_one l) (by unfold maxLen; omega) (by omega) hB
    exact ⟨v', w', h1, h2, h3, h5⟩

theorem wp_app (w : World) (B : Nat) (hB : B ≤ w.heap.size) {o : Oper} {a : Act} {K : Act → World → Prop} {Q : Exit → Act → World → Prop} (s x : Operand)
    (ho : o.op = .call { callee := .builtin .append, args := #[s, x], argTypes := #[66, 66] })
    (v : Value) (n : Nat) (xs : List Value) (hs : a.eval s = v) (hown : w.ownsRow B 5 1 v n xs) (ad : Option Addr) (m c : Nat) (l : List UInt8) (hx : a.eval x = .slice ad m c) (hb : Bytes w ad m l) (hnil : ad = none → m = 0 ∧ c = 0) (hm : n + m ≤ 140737488355328)
    (h : ∀ v' w', w'.ownsRow B 5 1 v' (n + m) (xs ++ cellsOf l) → w.grownBy w' v.ownBlock → (v'.ownBlock = v.ownBlock ∨ v'.ownBlock = some w.heap.size) → K (a.put o.dst v') w') : o.wp Tryz.prog a w K Q := by
  obtain ⟨v', w', hr, h2, h3, h4⟩ := run_app w B hB o.type v n xs hown ad m c l hb hnil hm
  unfold Oper.wp execOp
  simp only [ho, resolve, invoke, builtin, Sem.run_bind, Sem.run_pure, Result.andThen_ok, List.map_toArray, List.map_cons, List.map_nil, hs, hx, hr]
  exact h v' w' h2 h3 h4

theorem wpList_app (w : World) (B : Nat) (hB : B ≤ w.heap.size) {ops : Array Oper} {rest : List Oper} {o : Oper} {a : Act} {Q : Exit → Act → World → Prop} (hgd : o.guard = none) (s x : Operand)
    (ho : o.op = .call { callee := .builtin .append, args := #[s, x], argTypes := #[66, 66] })
    (v : Value) (n : Nat) (xs : List Value) (hs : a.eval s = v) (hown : w.ownsRow B 5 1 v n xs) (ad : Option Addr) (m c : Nat) (l : List UInt8) (hx : a.eval x = .slice ad m c) (hb : Bytes w ad m l) (hnil : ad = none → m = 0 ∧ c = 0) (hm : n + m ≤ 140737488355328)
    (h : ∀ v' w', w'.ownsRow B 5 1 v' (n + m) (xs ++ cellsOf l) → w.grownBy w' v.ownBlock → (v'.ownBlock = v.ownBlock ∨ v'.ownBlock = some w.heap.size) → wpList Tryz.prog ops Q rest (a.put o.dst v') w') : wpList Tryz.prog ops Q (o :: rest) a w :=
  wpList_plain hgd fun _ hK => wp_app w B hB s x ho v n xs hs hown ad m c l hx hb hnil hm fun v' w' h2 h3 h4 => hK _ _ (h v' w' h2 h3 h4)

theorem step_app (w : World) (B : Nat) (hB : B ≤ w.heap.size) {ops : Array Oper} {o : Oper} {a : Act} {K : Act → World → Prop} {Q : Exit → Act → World → Prop} {E : Prop} (hgd : o.guard = none) (s x : Operand)
    (ho : o.op = .call { callee := .builtin .append, args := #[s, x], argTypes := #[66, 66] })
    (v : Value) (n : Nat) (xs : List Value) (hs : a.eval s = v) (hown : w.ownsRow B 5 1 v n xs) (ad : Option Addr) (m c : Nat) (l : List UInt8) (hx : a.eval x = .slice ad m c) (hb : Bytes w ad m l) (hnil : ad = none → m = 0 ∧ c = 0) (hm : n + m ≤ 140737488355328)
    (h : ∀ v' w', w'.ownsRow B 5 1 v' (n + m) (xs ++ cellsOf l) → w.grownBy w' v.ownBlock → (v'.ownBlock = v.ownBlock ∨ v'.ownBlock = some w.heap.size) → K (a.put o.dst v') w') :
    if Region.wanted o (yielded ops a.tmps) = true then Oper.wp Tryz.prog o a w K Q else E := by
  have hw : Region.wanted o (yielded ops a.tmps) = true := by simp [Region.wanted, hgd]
  rw [if_pos hw]
  exact wp_app w B hB s x ho v n xs hs hown ad m c l hx hb hnil hm h

/-- bytes just laid -/
theorem bytes_new (w : World) (l : List UInt8) (cs : Array Value) (h : cs = (cellsOf l).toArray) : Bytes (w.alloc (.cells cs 5)) (some ⟨w.heap.size, 0, none⟩) l.length l := by
  subst h
  refine ⟨rfl, fun _ => ⟨_, _, rfl, fun j hj => ?_⟩⟩
  simp only [World.cell?, World.alloc_heap_new]
  show (cellsOf l).toArray[0 + j]? = _
  rw [Nat.zero_add, List.getElem?_toArray]
  exact cellsOf_get l j hj

/-- a row that a call puts together, and the walk through the runes of a text beside it -/
structure Row (w0 : World) (it : Nat) (o : Obj) (v : Value) (l : List UInt8) (W : World) : Prop where
  row : W.ownsRow w0.heap.size 5 1 v l.length (cellsOf l)
  iter : W.heap[it]? = some o
  obj : ∀ cs t f, o ≠ .cells cs t f
  bel : Below w0.heap.size w0 W
  le : w0.heap.size ≤ it

theorem Row.lt {w0 W : World} {it : Nat} {o : Obj} {v : Value} {l : List UInt8} (h : Row w0 it o v l W) : it < W.heap.size := (Array.getElem?_eq_some_iff.1 h.iter).1
theorem Row.ne {w0 W : World} {it : Nat} {o : Obj} {v : Value} {l : List UInt8} (h : Row w0 it o v l W) : v.ownBlock ≠ some it := fun e => by
  obtain ⟨_, _, cur, hc⟩ := row_block h.row it e
  rw [h.iter] at hc; cases hc
  exact h.obj _ _ _ rfl
theorem Row.size {w0 W : World} {it : Nat} {o : Obj} {v : Value} {l : List UInt8} (h : Row w0 it o v l W) : w0.heap.size ≤ W.heap.size := h.bel.size
theorem Row.below {w0 W W' : World} {it : Nat} {o : Obj} {v : Value} {l : List UInt8} (h : Row w0 it o v l W) (hb : Below W.heap.size W W') : Row w0 it o v l W' := by
  refine ⟨h.row.kept (row := none) ⟨hb.os, hb.tape, hb.output, hb.size, fun k hk _ => hb.block k hk⟩ (by cases v.ownBlock <;> simp), (hb.block it h.lt).trans h.iter, h.obj, h.bel.trans (hb.mono h.bel.size), h.le⟩
theorem Row.drew {w0 W : World} {it : Nat} {o : Obj} {v : Value} {l : List UInt8} (h : Row w0 it o v l W) : Row w0 it o v l W.drew :=
  ⟨h.row, h.iter, h.obj, ⟨h.bel.os, h.bel.tape, h.bel.output, h.bel.size, h.bel.block⟩, h.le⟩
theorem Row.alloc {w0 W : World} {it : Nat} {o : Obj} {v : Value} {l : List UInt8} (h : Row w0 it o v l W) (b : Obj) : Row w0 it o v l (W.alloc b) := h.below ((Below.refl _ _).alloc (Nat.le_refl _) _)
theorem Row.grown {w0 W W' : World} {it : Nat} {o : Obj} {v v' : Value} {l m : List UInt8} {n : Nat} (h : Row w0 it o v l W) (hg : W.grownBy W' v.ownBlock) (hn : n = m.length) (hr : W'.ownsRow w0.heap.size 5 1 v' (l.length + n) (cellsOf l ++ cellsOf m)) : Row w0 it o v' (l ++ m) W' := by
  refine ⟨?_, (hg.block it h.lt (fun e => h.ne e.symm)).trans h.iter, h.obj, ?_, h.le⟩
  · rw [List.length_append, cellsOf_append, ← hn]; exact hr
  · exact h.bel.grown hg h.bel.size (fun k hk => (row_block h.row k hk).1)
theorem Row.put {w0 W : World} {it : Nat} {o : Obj} {v : Value} {l : List UInt8} (h : Row w0 it o v l W) (o' : Obj) (ho : ∀ cs t f, o' ≠ .cells cs t f) : Row w0 it o' v l (W.putObj it o') := by
  refine ⟨h.row.kept (grownBy_putObj' W it o') (.inr h.ne), ?_, ho, ?_, h.le⟩
  · simp [World.putObj, h.lt]
  · exact h.bel.grown (grownBy_putObj' W it o') h.bel.size (fun k hk => by cases hk; exact h.le)

/-- the rune at a place of a text -/
theorem rune_at (s : ByteArray) (p : Nat) (hp : p < s.size) : ∃ r d : Nat, Utf8.decode s p = (r, d) ∧ dec ((bs s).drop p) = (r, d) ∧ 1 ≤ d ∧ p + d ≤ s.size ∧ r ≤ 2147483647 ∧ (bs s).drop p ≠ [] ∧ bs (s.extract p s.size) = (bs s).drop p ∧ bs (s.extract p (p + d)) = ((bs s).drop p).take d := by
  have hne : (bs s).drop p ≠ [] := fun e => by
    have := congrArg List.length e
    rw [List.length_drop, bs_len] at this; simp at this; omega
  refine ⟨(dec ((bs s).drop p)).1, (dec ((bs s).drop p)).2, by rw [decode_dec]; rfl, rfl, dec_pos _, ?_, ?_, hne, ?_, ?_⟩
  · have := dec_le _ hne
    rw [List.length_drop, bs_len] at this; omega
  · have := decode_le s p
    rw [decode_dec] at this; exact this
  · rw [bs_extract, show (bs s).take s.size = bs s by rw [← bs_len]; exact List.take_length]
  · rw [bs_extract, List.drop_take]; congr 1; omega
end Go.Proofs.YtggnglgehobglaaGreatDoor

/- The walks of what tells runes: control, broken, width, Plain. -/
namespace Go.Proofs.YtggnglgehobglaaGreatDoor
open Go.RowKit

/-- the two tables of unicode/utf8 -/
def Tabs (w : World) : Prop := Lib.Utf8Tabs 0 1 w
theorem Tabs.below {w w' : World} (h : Tabs w) (hb : Below w.heap.size w w') : Tabs w' := Utf8Tabs_below h hb

theorem qcontrol_any (r : Nat) (w : World) :
    Calls Tryz.prog 107 #[.int .i32 (r : Int)] w fun e w' => e = .returned (.bool (ctl r)) ∧ w' = w := by
  by_cases h1 : r < 32
  · have i1 : (r : Int) < 32 := by omega
    go_enter Tryz.func107, Tryz.ntmps107
    go_wp2
    go_ret
    exact ⟨by simp [ctl, h1], rfl⟩
  · have i1 : ¬ (r : Int) < 32 := by omega
    by_cases h2 : 127 ≤ r
    · have i2 : (127 : Int) ≤ r := by omega
      by_cases h3 : r ≤ 159
      · have i3 : (r : Int) ≤ 159 := by omega
        go_enter Tryz.func107, Tryz.ntmps107
        go_wp2
        go_ret
        exact ⟨by simp [ctl, h2, h3], rfl⟩
      · have i3 : ¬ (r : Int) ≤ 159 := by omega
        go_enter Tryz.func107, Tryz.ntmps107
        go_wp2
        go_ret
        exact ⟨by simp [ctl, h1, h3], rfl⟩
    · have i2 : ¬ (127 : Int) ≤ r := by omega
      go_enter Tryz.func107, Tryz.ntmps107
      go_wp2
      go_ret
      exact ⟨by simp [ctl, h1, h2], rfl⟩

theorem qbroken_any (r k : Nat) (w : World) :
    Calls Tryz.prog 108 #[.int .i32 (r : Int), .int .i64 (k : Int)] w fun e w' => e = .returned (.bool (decide (r = 65533) && decide (k = 1))) ∧ w' = w := by
  by_cases h1 : r = 65533
  · subst h1
    by_cases h2 : k = 1
    · subst h2
      go_enter Tryz.func108, Tryz.ntmps108
      go_wp2
      go_ret
      exact ⟨rfl, rfl⟩
    · have i2 : ¬ (k : Int) = 1 := by omega
      go_enter Tryz.func108, Tryz.ntmps108
      go_wp2
      go_ret
      exact ⟨by simp [h2]; omega, rfl⟩
  · have i1 : ¬ (r : Int) = 65533 := by omega
    go_enter Tryz.func108, Tryz.ntmps108
    go_wp2
    go_ret
    exact ⟨by simp [h1], rfl⟩

theorem width_any (s : ByteArray) (w : World) (hT : Tabs w) (h0 : bs s ≠ []) :
    Calls Tryz.prog 109 #[.string s] w fun e w' => e = .returned (.int .i64 ((dec (bs s)).2 : Int)) ∧ Below w.heap.size w w' := by
  have hd : Lib.decodeGo s = dec (bs s) := by
    unfold Lib.decodeGo
    rw [if_neg (fun h => h0 ((bs_nil s).2 h)), decode_dec]; rfl
  have hc := Tryz.utf8_DecodeRuneInString s w hT
  rw [hd] at hc
  obtain ⟨r, hr⟩ : ∃ r, r = (dec (bs s)).1 := ⟨_, rfl⟩
  obtain ⟨d, hd'⟩ : ∃ d, d = (dec (bs s)).2 := ⟨_, rfl⟩
  rw [← hr, ← hd'] at hc
  rw [← hd']
  clear hr hd' hd
  go_enter Tryz.func109, Tryz.ntmps109
  go_wp2_with (go_at_call 125; refine hc.mono ?_; rintro e w' ⟨rfl, hB⟩)
  go_ret
  exact ⟨rfl, hB⟩

theorem row_start (w : World) (s : ByteArray) : Row w w.heap.size (.stringIter s 0) (.slice none 0 0) [] (w.alloc (.stringIter s 0)) :=
  ⟨World.ownsRow_nil _ _ _ _, World.alloc_heap_new _ _, (fun _ _ _ h => by cases h), (Below.refl _ w).alloc (Nat.le_refl _) _, Nat.le_refl _⟩
theorem iter_obj (s : ByteArray) (p : Nat) : ∀ cs t f, Obj.stringIter s p ≠ .cells cs t f := fun _ _ _ h => by cases h

set_option maxHeartbeats 2000000 in
theorem qplain_any (s : ByteArray) (w : World) (hT : Tabs w) (hs : s.size ≤ maxLen) :
    Calls Tryz.prog 90 #[.string s] w fun e w' => e = .returned (.bool (plainL (bs s))) ∧ Below w.heap.size w w' := by
  have hs' : s.size ≤ 9223372036854775807 := by unfold maxLen at hs; omega
  by_cases h0 : s.toList = []
  · have hz : plainL (bs s) = false := by rw [← toList_bs, h0]; rfl
    have b0 : s.toList.isEmpty = true := by rw [h0]; rfl
    go_enter Tryz.func90, Tryz.ntmps90
    go_wp2
    go_ret
    exact ⟨by rw [hz]; rfl, Below.refl _ _⟩
  · have b0 : s.toList.isEmpty = false := by simpa using h0
    have hz : 0 < s.size := by
      rw [toList_bs] at h0
      have := mt (bs_nil s).2 h0
      omega
    have i0 : (0 : Int) < s.size := by omega
    have hx0 : ∃ c, s[0]'hz = c := ⟨_, rfl⟩
    obtain ⟨c, hc⟩ := hx0
    have hg : (bs s).getD 0 0 = c := by
      rw [← hc, List.getD_eq_getElem?_getD, List.getElem?_eq_getElem (by rw [bs_len]; exact hz)]; rfl
    by_cases h1 : c = 35
    · have hp : plainL (bs s) = false := by unfold plainL; rw [hg, h1]; simp
      have hc' : ((s[0]'hz).toNat : Int) = 35 := by rw [hc, h1]; rfl
      clear hg hc
      go_enter Tryz.func90, Tryz.ntmps90
      go_wp2
      go_ret
      exact ⟨by rw [hp]; rfl, Below.refl _ _⟩
    · have hp : plainL (bs s) = plainF (bs s) := by
        unfold plainL
        rw [hg, ← toList_bs]
        simp [h0, h1]
      have HP : Hid (plainL (bs s) = plainF (bs s)) := hp
      have hc' : ¬ ((s[0]'hz).toNat : Int) = 35 := by
        rw [hc]; intro e
        exact h1 (UInt8.toNat_inj.1 (by show _ = 35; omega))
      have hcb : ((((s[0]'hz).toNat : Nat) : Int) == 35) = false := beq_eq_false_iff_ne.2 hc'
      clear hg hc hp hc'
      go_enter Tryz.func90, Tryz.ntmps90
      go_wp2
      go_loopw [] (fun wr => ∃ p : Nat, p ≤ s.size ∧ Row w w.heap.size (.stringIter s p) (.slice none 0 0) [] wr ∧ Hid (plainF (bs s) = plainF ((bs s).drop p))) (fun wr => s.size - wr.iterPos w.heap.size)
      case atStart => exact ⟨0, Nat.zero_le _, row_start w s, by simp [Hid]⟩
      case round =>
        obtain ⟨p, hp, hR, H⟩ := hrel
        by_cases hlt : p < s.size
        · obtain ⟨r, d, hdec, hd, hd1, hd2, hr, hne, he, _⟩ := rune_at s p hlt
          have hnx := run_next_at (P := Tryz.prog) wr w.heap.size s p hR.iter hlt
          rw [hdec] at hnx
          have hR2 := hR.put (.stringIter s (p + d)) (iter_obj s _)
          obtain ⟨W2, hW2⟩ : ∃ W2, W2 = wr.putObj w.heap.size (.stringIter s (p + d)) := ⟨_, rfl⟩
          simp only at hnx
          rw [← hW2] at hnx hR2
          have hm : Hid (∀ W3 : World, W3.heap[w.heap.size]? = some (.stringIter s (p + d)) → s.size - W3.iterPos w.heap.size < s.size - wr.iterPos w.heap.size) := by
            intro W3 h3
            rw [iterPos_of hR.iter, iterPos_of h3]; omega
          have hT2 : Tabs W2 := hT.below hR2.bel
          have HB : Hid (badw ((bs s).drop p) = (decide (r = 32) || decide (r = 34) || decide (r = 92) || ctl r || (decide (r = 65533) && decide (d = 1)))) := by
            show _ = _
            unfold badw
            rw [brk_iff _ hne, hd]
          have HG : Hid (plainF (bs s) = (!badw ((bs s).drop p) && plainF ((bs s).drop (p + d)))) := by
            show _ = _
            rw [H.out, plainF_go _ hne, hd, List.drop_drop]
          have HR : Hid (Row w w.heap.size (.stringIter s (p + d)) (.slice none 0 0) [] W2) := hR2
          have hwd := fun W hT => width_any (s.extract p s.size) W hT (by rw [he]; exact hne)
          rw [he, hd] at hwd
          have i3 : (p : Int) ≤ s.size := by omega
          have HBel : Hid (Below w.heap.size w W2) := hR2.bel
          clear hd he hne hdec hW2 hR2 H hR
          by_cases h32 : r = 32
          · subst h32
            simp only [show ((32 : Nat) : Int) = 32 from rfl] at hnx
            have HX : Hid (plainL (bs s) = false) := by show _ = _; rw [HP.out, HG.out, HB.out]; rfl
            clear HB HG HP hm
            go_wp2
            go_ret
            exact ⟨by rw [HX.out]; rfl, HBel.out⟩
          · have c32 : ((r : Int) == 32) = false := beq_eq_false_iff_ne.2 (by omega)
            by_cases h34 : r = 34
            · subst h34
              simp only [show ((34 : Nat) : Int) = 34 from rfl] at hnx
              have HX : Hid (plainL (bs s) = false) := by show _ = _; rw [HP.out, HG.out, HB.out]; rfl
              clear HB HG HP hm
              go_wp2
              go_ret
              exact ⟨by rw [HX.out]; rfl, HBel.out⟩
            · have c34 : ((r : Int) == 34) = false := beq_eq_false_iff_ne.2 (by omega)
              by_cases h92 : r = 92
              · subst h92
                simp only [show ((92 : Nat) : Int) = 92 from rfl] at hnx
                have HX : Hid (plainL (bs s) = false) := by show _ = _; rw [HP.out, HG.out, HB.out]; rfl
                clear HB HG HP hm
                go_wp2
                go_ret
                exact ⟨by rw [HX.out]; rfl, HBel.out⟩
              · have c92 : ((r : Int) == 92) = false := beq_eq_false_iff_ne.2 (by omega)
                have hct := fun W => qcontrol_any r W
                have HB' : Hid (badw ((bs s).drop p) = (ctl r || (decide (r = 65533) && decide (d = 1)))) := by
                  show _ = _; rw [HB.out]; simp [h32, h34, h92]
                clear HB
                cases hcr : ctl r with
                | true =>
                  rw [hcr] at hct
                  have HX : Hid (plainL (bs s) = false) := by show _ = _; rw [HP.out, HG.out, HB'.out, hcr]; rfl
                  clear HB' HG HP hm
                  go_wp2_with (go_at_call 107; refine (hct _).mono ?_; rintro e w' ⟨rfl, rfl⟩)
                  go_ret
                  exact ⟨by rw [HX.out]; rfl, HBel.out⟩
                | false =>
                  rw [hcr] at hct
                  have hbk := fun W => qbroken_any r d W
                  have HB2 : Hid (badw ((bs s).drop p) = (decide (r = 65533) && decide (d = 1))) := by show _ = _; rw [HB'.out, hcr]; rfl
                  clear HB'
                  cases hbb : (decide (r = 65533) && decide (d = 1)) with
                  | true =>
                    rw [hbb] at hbk
                    have HX : Hid (plainL (bs s) = false) := by show _ = _; rw [HP.out, HG.out, HB2.out, hbb]; rfl
                    clear HB2 HG HP hm
                    go_wp2_with first
                      | (go_at_call 107; refine (hct _).mono ?_; rintro e w' ⟨rfl, rfl⟩)
                      | (go_at_call 109; refine (hwd _ hT2).mono ?_; rintro e w3 ⟨rfl, hB3⟩)
                      | (go_at_call 108; refine (hbk _).mono ?_; rintro e w' ⟨rfl, rfl⟩)
                    go_ret
                    exact ⟨by rw [HX.out]; rfl, (HR.out.below hB3).bel⟩
                  | false =>
                    rw [hbb] at hbk
                    have HX : Hid (plainF (bs s) = plainF ((bs s).drop (p + d))) := by show _ = _; rw [HG.out, HB2.out, hbb]; rfl
                    clear HB2 HG HP
                    go_wp2_with first
                      | (go_at_call 107; refine (hct _).mono ?_; rintro e w' ⟨rfl, rfl⟩)
                      | (go_at_call 109; refine (hwd _ hT2).mono ?_; rintro e w3 ⟨rfl, hB3⟩)
                      | (go_at_call 108; refine (hbk _).mono ?_; rintro e w' ⟨rfl, rfl⟩)
                    go_roundw
                    case rel => exact ⟨p + d, hd2, HR.out.below hB3, HX⟩
                    case measure => exact hm.out _ (HR.out.below hB3).iter
        · obtain rfl : p = s.size := by omega
          have hnx := run_next_over (P := Tryz.prog) wr w.heap.size s s.size hR.iter hlt
          have HX : Hid (plainL (bs s) = true) := by
            show _ = _
            rw [HP.out, H.out, List.drop_eq_nil_of_le (by rw [bs_len]; exact Nat.le_refl _), plainF_nil]
          have HBel : Hid (Below w.heap.size w wr) := hR.bel
          clear HP H hR
          go_wp2
          go_ret
          exact ⟨by rw [HX.out]; rfl, HBel.out⟩
end Go.Proofs.YtggnglgehobglaaGreatDoor
