import Derived.Test.YtojpbemfbjkjjaaGreatP02
import Derived.Test.YtojpbemfbjkjjaaGreatProg
import Derived.Outline
import Derived.WalkKit
import Derived.Test.YtojpbemfbjkjjaaGreatP01
import Derived.Tactics
import Derived.Tactics2
import Derived.Defers
import Derived.Recover
import Derived.Laws.Pointers
import Derived.RangeFuncBox
import Derived.Laws.AppendOwnNone
import Derived.Maps.AppendAt
import Derived.Lib.AppendStr
import Derived.Lib.SlBytesConst
/- What a reader answers, whatever its state: one contract a call. -/
namespace Go.Proofs.YtojpbemfbjkjjaaGreat
open Go.RowKit

attribute [local go_sem] Oper.semAt_some

def byteR (l : List UInt8) (p : Nat) (e : Int) : Int × Nat × Int := if e ≠ 0 then (0, p, e) else if p < l.length then (bt l p, p + 1, 0) else (0, p, 110)
theorem byte_st (w : World) (r g p : Nat) (e : Int) (l : List UInt8) (h : Rd w r g p e l) :
    Calls Tryz.prog 88 #[.pointer (some ⟨r, 0, none⟩)] w fun x w' => x = .returned (.int .u8 (byteR l p e).1) ∧ Rd w' r g (byteR l p e).2.1 (byteR l p e).2.2 l ∧ w.grownBy w' (some r) := by
  unfold byteR
  by_cases he : e = 0
  · subst he
    rw [if_neg (by simp)]
    by_cases hp : p < l.length
    · rw [if_pos hp]
      exact byte_yes w r g p l h hp
    · rw [if_neg hp]
      exact byte_short w r g p l h (by have := h.hp; omega)
  · rw [if_pos he]
    refine (byte_stuck w r g p e l h (by simp [he])).mono fun x w' hx => ⟨hx.1, ?_, ?_⟩
    · rw [hx.2]; exact h
    · rw [hx.2]; exact ⟨rfl, rfl, rfl, Nat.le_refl _, fun _ _ _ => rfl⟩
def uintR (l : List UInt8) (p : Nat) (e : Int) : Int × Nat × Int := if e ≠ 0 then (0, p, e) else if (num (l.drop p)).2.2 = 0 then ((num (l.drop p)).1, p + (num (l.drop p)).2.1, 0) else (0, p, (num (l.drop p)).2.2)
theorem uint_st (w : World) (r g p : Nat) (e : Int) (l : List UInt8) (h : Rd w r g p e l) :
    Calls Tryz.prog 105 #[.pointer (some ⟨r, 0, none⟩)] w fun x w' => x = .returned (.int .u64 (uintR l p e).1) ∧ Rd w' r g (uintR l p e).2.1 (uintR l p e).2.2 l ∧ w.grownBy w' (some r) := by
  unfold uintR
  by_cases he : e = 0
  · subst he
    rw [if_neg (by simp)]
    by_cases hp : (num (l.drop p)).2.2 = 0
    · rw [if_pos hp]
      exact uint_yes w r g p l h hp
    · rw [if_neg hp]
      exact uint_no w r g p l h (by simp [hp])
  · rw [if_pos he]
    refine (uint_stuck w r g p e l h (by simp [he])).mono fun x w' hx => ⟨hx.1, ?_, ?_⟩
    · rw [hx.2]; exact h
    · rw [hx.2]; exact ⟨rfl, rfl, rfl, Nat.le_refl _, fun _ _ _ => rfl⟩
def wordR (l : List UInt8) (p : Nat) (e : Int) : Int × Nat × Int := if e ≠ 0 then (0, p, e) else if l.length < p + 8 then (0, p, 110) else (wideVal ((l.drop p).take 8) 8, p + 8, 0)
theorem word_st (w : World) (r g p : Nat) (e : Int) (l : List UInt8) (h : Rd w r g p e l) :
    Calls Tryz.prog 64 #[.pointer (some ⟨r, 0, none⟩)] w fun x w' => x = .returned (.int .u64 (wordR l p e).1) ∧ Rd w' r g (wordR l p e).2.1 (wordR l p e).2.2 l ∧ w.grownBy w' (some r) := by
  have hp := h.hp
  unfold wordR
  by_cases he : e = 0
  · subst he
    rw [if_neg (by simp)]
    by_cases h8 : l.length < p + 8
    · rw [if_pos h8]
      exact word_short w r g p (l.length - p) l h (by omega) (by omega)
    · rw [if_neg h8]
      exact word_yes w r g p (l.length - p) l h (by omega) (by omega)
  · rw [if_pos he]
    refine (word_stuck w r g p e l h (by simp [he])).mono fun x w' hx => ⟨hx.1, ?_, ?_⟩
    · rw [hx.2]; exact h
    · rw [hx.2]; exact ⟨rfl, rfl, rfl, Nat.le_refl _, fun _ _ _ => rfl⟩
def cutT (s : List UInt8) (most : Int) : ByteArray := ⟨((s.take (txt s most).2.1).drop (txt s most).1).toArray⟩
def textR (l : List UInt8) (p : Nat) (e most : Int) : ByteArray × Nat × Int := if e ≠ 0 then (⟨#[]⟩, p, e) else if (txt (l.drop p) most).2.2 = 0 then (cutT (l.drop p) most, p + (txt (l.drop p) most).2.1, 0) else (⟨#[]⟩, p, (txt (l.drop p) most).2.2)
theorem text_st (w : World) (r g p : Nat) (e most : Int) (l : List UInt8) (h : Rd w r g p e l) (hmost : most ≤ 9223372036854775807) :
    Calls Tryz.prog 63 #[.pointer (some ⟨r, 0, none⟩), .int .i64 most] w fun x w' => x = .returned (.string (textR l p e most).1) ∧ Rd w' r g (textR l p e most).2.1 (textR l p e most).2.2 l ∧ w.grownBy w' (some r) := by
  have hp := h.hp
  unfold textR
  by_cases he : e = 0
  · subst he
    rw [if_neg (by simp)]
    by_cases h8 : (txt (l.drop p) most).2.2 = 0
    · rw [if_pos h8]
      exact text_yes w r g p (l.length - p) most l h (by omega) hmost h8
    · rw [if_neg h8]
      exact text_no w r g p (l.length - p) most l h (by omega) hmost (by simp [h8])
  · rw [if_pos he]
    refine (text_stuck w r g p e most l h (by simp [he])).mono fun x w' hx => ⟨hx.1, ?_, ?_⟩
    · rw [hx.2]; exact h
    · rw [hx.2]; exact ⟨rfl, rfl, rfl, Nat.le_refl _, fun _ _ _ => rfl⟩
/-- the bounds of what is read -/
theorem byteR_fits (l : List UInt8) (p : Nat) (e : Int) : 0 ≤ (byteR l p e).1 ∧ (byteR l p e).1 ≤ 255 := by
  unfold byteR
  split
  · simp
  · split
    · have := (l.getD p 0).toNat_lt
      unfold bt
      simp only
      omega
    · simp
theorem uintR_fits (l : List UInt8) (p : Nat) (e : Int) : 0 ≤ (uintR l p e).1 ∧ (uintR l p e).1 ≤ 18446744073709551615 := by
  unfold uintR
  split
  · simp
  · split
    · exact num_fits _
    · simp

end Go.Proofs.YtojpbemfbjkjjaaGreat

/- Assertions of an object's type, as equations. -/
namespace Go.Proofs.YtojpbemfbjkjjaaGreat
open Go.RowKit

def zBlob : Value := .agg #[.slice none 0 0]
def zTree : Value := .agg #[.slice none 0 0]
def zCommit : Value := .agg #[.int .u64 0, .slice none 0 0, .string ⟨#[]⟩, .int .i64 0, .string ⟨#[]⟩]
theorem as_blob (v : Value) (xT : TypeId) (w : World) : (Instr.typeAssert (.iface 72 v) xT 72 true).run Tryz.prog w = .ok (.tuple #[v, .bool true]) w := by
  simp [Instr.typeAssert, run_underlying Tryz.underlying72, go_sem, Result.andThen]
theorem as_tree (v : Value) (xT : TypeId) (w : World) : (Instr.typeAssert (.iface 107 v) xT 107 true).run Tryz.prog w = .ok (.tuple #[v, .bool true]) w := by
  simp [Instr.typeAssert, run_underlying Tryz.underlying107, go_sem, Result.andThen]
theorem as_commit (v : Value) (xT : TypeId) (w : World) : (Instr.typeAssert (.iface 55 v) xT 55 true).run Tryz.prog w = .ok (.tuple #[v, .bool true]) w := by
  simp [Instr.typeAssert, run_underlying Tryz.underlying55, go_sem, Result.andThen]
theorem no_blob (t : TypeId) (ht : t ≠ 72) (v : Value) (xT : TypeId) (w : World) : (Instr.typeAssert (.iface t v) xT 72 true).run Tryz.prog w = .ok (.tuple #[zBlob, .bool false]) w := by
  simp [Instr.typeAssert, run_underlying Tryz.underlying72, go_sem, Result.andThen, ht]
  rfl
theorem no_tree (t : TypeId) (ht : t ≠ 107) (v : Value) (xT : TypeId) (w : World) : (Instr.typeAssert (.iface t v) xT 107 true).run Tryz.prog w = .ok (.tuple #[zTree, .bool false]) w := by
  simp [Instr.typeAssert, run_underlying Tryz.underlying107, go_sem, Result.andThen, ht]
  rfl
theorem no_commit (t : TypeId) (ht : t ≠ 55) (v : Value) (xT : TypeId) (w : World) : (Instr.typeAssert (.iface t v) xT 55 true).run Tryz.prog w = .ok (.tuple #[zCommit, .bool false]) w := by
  simp [Instr.typeAssert, run_underlying Tryz.underlying55, go_sem, Result.andThen, ht]
  rfl
theorem nil_blob (xT : TypeId) (w : World) : (Instr.typeAssert .nilIface xT 72 true).run Tryz.prog w = .ok (.tuple #[zBlob, .bool false]) w := by
  simp [Instr.typeAssert, run_underlying Tryz.underlying72, go_sem, Result.andThen]
  rfl
theorem nil_tree (xT : TypeId) (w : World) : (Instr.typeAssert .nilIface xT 107 true).run Tryz.prog w = .ok (.tuple #[zTree, .bool false]) w := by
  simp [Instr.typeAssert, run_underlying Tryz.underlying107, go_sem, Result.andThen]
  rfl
theorem nil_commit (xT : TypeId) (w : World) : (Instr.typeAssert .nilIface xT 55 true).run Tryz.prog w = .ok (.tuple #[zCommit, .bool false]) w := by
  simp [Instr.typeAssert, run_underlying Tryz.underlying55, go_sem, Result.andThen]
  rfl
theorem must_tree (v : Value) (xT : TypeId) (w : World) : (Instr.typeAssert (.iface 107 v) xT 107 false).run Tryz.prog w = .ok v w := by
  simp [Instr.typeAssert, run_underlying Tryz.underlying107, go_sem, Result.andThen]
theorem must_commit (v : Value) (xT : TypeId) (w : World) : (Instr.typeAssert (.iface 55 v) xT 55 false).run Tryz.prog w = .ok v w := by
  simp [Instr.typeAssert, run_underlying Tryz.underlying55, go_sem, Result.andThen]
theorem must_not_tree (t : TypeId) (ht : t ≠ 107) (v : Value) (xT : TypeId) (w : World) : ∃ o, (Instr.typeAssert (.iface t v) xT 107 false).run Tryz.prog w = .halt (.panic (.iface 15 (.pointer (some ⟨w.heap.size, 0, none⟩)))) (w.alloc o) := by
  simp [Instr.typeAssert, run_underlying Tryz.underlying107, go_sem, Result.andThen, ht, elemOf, run_underlying Tryz.underlying15]
  exact ⟨_, rfl⟩
theorem must_nil_tree (xT : TypeId) (w : World) : ∃ o, (Instr.typeAssert .nilIface xT 107 false).run Tryz.prog w = .halt (.panic (.iface 15 (.pointer (some ⟨w.heap.size, 0, none⟩)))) (w.alloc o) := by
  simp [Instr.typeAssert, run_underlying Tryz.underlying107, go_sem, Result.andThen, elemOf, run_underlying Tryz.underlying15]
  exact ⟨_, rfl⟩
theorem must_not_commit (t : TypeId) (ht : t ≠ 55) (v : Value) (xT : TypeId) (w : World) : ∃ o, (Instr.typeAssert (.iface t v) xT 55 false).run Tryz.prog w = .halt (.panic (.iface 15 (.pointer (some ⟨w.heap.size, 0, none⟩)))) (w.alloc o) := by
  simp [Instr.typeAssert, run_underlying Tryz.underlying55, go_sem, Result.andThen, ht, elemOf, run_underlying Tryz.underlying15]
  exact ⟨_, rfl⟩
theorem must_nil_commit (xT : TypeId) (w : World) : ∃ o, (Instr.typeAssert .nilIface xT 55 false).run Tryz.prog w = .halt (.panic (.iface 15 (.pointer (some ⟨w.heap.size, 0, none⟩)))) (w.alloc o) := by
  simp [Instr.typeAssert, run_underlying Tryz.underlying55, go_sem, Result.andThen, elemOf, run_underlying Tryz.underlying15]
  exact ⟨_, rfl⟩
end Go.Proofs.YtojpbemfbjkjjaaGreat

/- The walks of what tells an object's kind by its type. -/
namespace Go.Proofs.YtojpbemfbjkjjaaGreat
open Go.RowKit

end Go.Proofs.YtojpbemfbjkjjaaGreat

/- The walks of what puts an object's bytes together: the closure, and a blob's bytes. -/
namespace Go.Proofs.YtojpbemfbjkjjaaGreat
open Go.RowKit

theorem row_shape {w : World} {B n : Nat} {e : TypeId} {v : Value} {xs : List Value} (h : w.ownsRow B e 1 v n xs) : ∃ ad c, v = .slice ad n c ∧ n ≤ c ∧ (ad = none → n = 0 ∧ c = 0) := by
  rcases h.2 with ⟨rfl, rfl⟩ | ⟨g, cap, cur, rfl, _, _, hc, _⟩
  · exact ⟨none, 0, rfl, Nat.le_refl _, fun _ => ⟨rfl, rfl⟩⟩
  · exact ⟨_, _, rfl, hc, fun h => by cases h⟩
theorem row_bytes {w : World} {B n c : Nat} {ad : Option Addr} {l : List UInt8} (h : w.ownsRow B 5 1 (.slice ad n c) n (cellsOf l)) : Bytes w ad n l := by
  have hl : l.length = n := by have := h.1; rw [cellsOf_length] at this; omega
  rcases h.2 with ⟨hv, hn⟩ | ⟨g, cap, cur, hv, _, hg, hc, _, _, ht⟩
  · exact ⟨hl, fun h0 => by omega⟩
  · cases hv
    refine ⟨hl, fun _ => ⟨g, 0, rfl, fun j hj => ?_⟩⟩
    have e : (cur.toList.take (n * 1))[j]? = some (.int .u8 (bt l j)) := by rw [ht]; exact cellsOf_get l j (by omega)
    rw [List.getElem?_take_of_lt (by omega)] at e
    simp only [World.cell?, hg]
    show cur[0 + j]? = _
    rw [Nat.zero_add, ← Array.getElem?_toList]; exact e
theorem row_block {W : World} {base n : Nat} {e : TypeId} {v : Value} {xs : List Value} (h : W.ownsRow base e 1 v n xs) : ∀ r, v.ownBlock = some r → base ≤ r ∧ r < W.heap.size ∧ ∃ cur, W.heap[r]? = some (.cells cur e (0, 0)) := by
  intro r hr
  rcases h.2 with ⟨rfl, _⟩ | ⟨g, cap, cur, rfl, hb, hg, _⟩
  · cases hr
  · cases hr
    exact ⟨hb, (Array.getElem?_eq_some_iff.1 hg).1, cur, hg⟩
theorem run_app (w : World) (B : Nat) (hB : B ≤ w.heap.size) (ty : TypeId) (v : Value) (n : Nat) (xs : List Value) (hown : w.ownsRow B 5 1 v n xs) (ad : Option Addr) (m c : Nat) (l : List UInt8) (hb : Bytes w ad m l) (hnil : ad = none → m = 0 ∧ c = 0) (hm : n + m ≤ 140737488355328) :
    ∃ v' w', (Builtin.append_ #[70, 70] ty #[v, .slice ad m c]).run Tryz.prog w = .ok v' w' ∧ w'.ownsRow B 5 1 v' (n + m) (xs ++ cellsOf l) ∧ w.grownBy w' v.ownBlock ∧ (v'.ownBlock = v.ownBlock ∨ v'.ownBlock = some w.heap.size) := by
  obtain ⟨i0, hi, hz0, hz1, hz2⟩ := info_parts Tryz.info5
  cases ad with
  | none =>
    obtain ⟨rfl, rfl⟩ := hnil rfl
    have hl : l = [] := List.eq_nil_of_length_eq_zero hb.1
    subst hl
    exact ⟨v, w, run_append_owned_none (P := Tryz.prog) (w := w) B 70 ty 5 i0 1 Tryz.underlying70 hi v n xs hown, by simpa [cellsOf] using hown, ⟨rfl, rfl, rfl, Nat.le_refl _, fun _ _ _ => rfl⟩, .inl rfl⟩
  | some ad =>
    obtain ⟨v', w', h1, h2, h3, _, h5⟩ := run_append_own_at (P := Tryz.prog) w B 70 ty 5 i0 (.int .u8 0) 1 1 Tryz.underlying70 hi hz0 hz1 hz2 rfl (by omega) v n xs hown ad m c (cellsOf l) (by rw [cellsOf_length, hb.1]; omega) (by
      intro j u hj
      have hjl : j < l.length := by have := (List.getElem?_eq_some_iff.1 hj).1; rw [cellsOf_length] at this; exact this
      have hl := hb.1
      obtain ⟨b, off, hx', hc⟩ := hb.2 (by omega)
      obtain rfl := Option.some.inj hx'
      rw [cellsOf_get l j hjl] at hj
      rw [Addr.add_lit, hc j (by omega)]
      exact hj) (cellsOf_one l) (by unfold maxLen; omega) (by omega) hB
    exact ⟨v', w', h1, h2, h3, h5⟩
theorem wpList_app (w : World) (B : Nat) (hB : B ≤ w.heap.size) {ops : Array Oper} {rest : List Oper} {o : Oper} {a : Act} {Q : Exit → Act → World → Prop} (hgd : o.guard = none) (s x : Operand)
    (ho : o.op = .call { callee := .builtin .append, args := #[s, x], argTypes := #[70, 70] })
    (v : Value) (n : Nat) (xs : List Value) (hs : a.eval s = v) (hown : w.ownsRow B 5 1 v n xs) (ad : Option Addr) (m c : Nat) (l : List UInt8) (hx : a.eval x = .slice ad m c) (hb : Bytes w ad m l) (hnil : ad = none → m = 0 ∧ c = 0) (hm : n + m ≤ 140737488355328)
    (h : ∀ v' w', w'.ownsRow B 5 1 v' (n + m) (xs ++ cellsOf l) → w.grownBy w' v.ownBlock → (v'.ownBlock = v.ownBlock ∨ v'.ownBlock = some w.heap.size) → wpList Tryz.prog ops Q rest (a.put o.dst v') w') : wpList Tryz.prog ops Q (o :: rest) a w := by
  refine wpList_plain hgd fun K hK => ?_
  obtain ⟨v', w', hr, h2, h3, h4⟩ := run_app w B hB o.type v n xs hown ad m c l hb hnil hm
  unfold Oper.wp execOp
  simp only [ho, resolve, invoke, builtin, Sem.run_bind, Sem.run_pure, Result.andThen_ok, List.map_toArray, List.map_cons, List.map_nil, hs, hx, hr]
  exact hK _ _ (h v' w' h2 h3 h4)
theorem bytes_new (w : World) (l : List UInt8) (cs : Array Value) (h : cs = (cellsOf l).toArray) : Bytes (w.alloc (.cells cs 5)) (some ⟨w.heap.size, 0, none⟩) l.length l := by
  subst h
  refine ⟨rfl, fun _ => ⟨_, _, rfl, fun j hj => ?_⟩⟩
  simp only [World.cell?, World.alloc_heap_new]
  show (cellsOf l).toArray[0 + j]? = _
  rw [Nat.zero_add, List.getElem?_toArray]
  exact cellsOf_get l j hj

/-- the bytes put together so far lie in a row that the variable in block B holds -/
structure OOut (w0 : World) (B : Nat) (l : List UInt8) (W : World) : Prop where
  box : ∃ v, Boxed W B 70 v ∧ W.ownsRow w0.heap.size 5 1 v l.length (cellsOf l)
  bel : Below w0.heap.size w0 W
  le : w0.heap.size ≤ B
theorem OOut.below {w0 W W' : World} {B : Nat} {l : List UInt8} (h : OOut w0 B l W) (hb : Below W.heap.size W W') : OOut w0 B l W' := by
  obtain ⟨v, hv, ho⟩ := h.box
  exact ⟨⟨v, (hb.block B hv.lt).trans hv, ho.kept (row := none) ⟨hb.os, hb.tape, hb.output, hb.size, fun k hk _ => hb.block k hk⟩ (by cases v.ownBlock <;> simp)⟩, h.bel.trans (hb.mono h.bel.size), h.le⟩
theorem OOut.alloc {w0 W : World} {B : Nat} {l : List UInt8} (h : OOut w0 B l W) (o : Obj) : OOut w0 B l (W.alloc o) := h.below ((Below.refl _ _).alloc (Nat.le_refl _) _)

set_option maxRecDepth 20000 in
theorem put_any (w0 : World) (B : Nat) (l : List UInt8) (a : Option Addr) (n c : Nat) (m : List UInt8) (W : World) (h : OOut w0 B l W) (hb : Bytes W a n m) (hnil : a = none → n = 0 ∧ c = 0) (hm : l.length + n ≤ 140737488355328) :
    Calls Tryz.prog 73 #[.slice a n c, .pointer (some ⟨B, 0, none⟩)] W fun e W' => e = .returned (.tuple #[]) ∧ OOut w0 B (l ++ m) W' ∧ (∀ K t u, Boxed W K t u → t ≠ 5 → K ≠ B → Boxed W' K t u) := by
  obtain ⟨v, hv, ho⟩ := h.box
  have cv := hv.cell
  have hsz := h.bel.size
  have d1 : 70 ≠ 5 := by decide
  go_enter Tryz.func73, Tryz.ntmps73
  go_wp2_with (at_builtin; refine wpList_app _ w0.heap.size hsz rfl _ _ rfl v l.length _ rfl ho a n c m rfl hb hnil hm ?_; intro v' W2 ho2 hg2 _; have hv2 : Boxed W2 B 70 v := hv.kept hg2 (hv.not_row d1 ho); have c2 := hv2.cell; have f2 := hv2.frozen; obtain ⟨ad, cp, rfl, _⟩ := row_shape ho2)
  go_end0
  refine ⟨rfl, ⟨⟨_, hv2.set _, ?_⟩, ?_, h.le⟩, fun K t u hK ht hKB => ?_⟩
  · rw [List.length_append, hb.1, cellsOf_append]
    exact ho2.kept (grownBy_setCell' W2 B _) (.inr (hv2.not_row d1 ho2).symm)
  · exact (h.bel.grown hg2 hsz (fun k hk => (row_block ho k hk).1)).setCell (p := ⟨B, 0, none⟩) h.le _
  · exact (hK.kept hg2 (hK.not_row ht ho)).kept (grownBy_setCell' W2 B _) (fun e => hKB (Option.some.inj e))
end Go.Proofs.YtojpbemfbjkjjaaGreat

/- A blob's bytes. -/
namespace Go.Proofs.YtojpbemfbjkjjaaGreat
open Go.RowKit

def blobErr (n : Nat) : Int := if 4096 < n then 3 else 0
theorem checkBlob_any (a : Option Addr) (n c : Nat) (w : World) : Calls Tryz.prog 70 #[.agg #[.slice a n c]] w fun e w' => e = .returned (.int .i64 (blobErr n)) ∧ Below w.heap.size w w' := by
  have hB0 : Below w.heap.size w (w.alloc (.cells #[.slice a n c] 72)) := (Below.refl _ w).alloc (Nat.le_refl _) _
  by_cases h : 4096 < n
  · have i1 : (4096 : Int) < n := by omega
    go_enter Tryz.func70, Tryz.ntmps70
    go_wp2
    go_ret
    exact ⟨by unfold blobErr; rw [if_pos h]; rfl, hB0⟩
  · have i1 : ¬ (4096 : Int) < n := by omega
    go_enter Tryz.func70, Tryz.ntmps70
    go_wp2
    go_ret
    exact ⟨by unfold blobErr; rw [if_neg h]; rfl, hB0⟩
theorem check_blob (a : Option Addr) (n c : Nat) (w : World) : Calls Tryz.prog 54 #[.iface 72 (.agg #[.slice a n c])] w fun e w' => e = .returned (.int .i64 (blobErr n)) ∧ Below w.heap.size w w' := by
  have h1 := as_blob (.agg #[.slice a n c])
  have hB0 : Below w.heap.size w (w.alloc (.cells #[.slice a n c] 72)) := (Below.refl _ w).alloc (Nat.le_refl _) _
  go_enter Tryz.func54, Tryz.ntmps54
  go_wp2_with (go_at_call 70; refine (checkBlob_any a n c _).mono ?_; rintro e w1 ⟨rfl, hB⟩)
  go_ret
  exact ⟨rfl, hB0.trans (hB.mono (by simp))⟩

theorem out_new (w : World) : OOut w w.heap.size [] (w.alloc (.cells #[.slice none 0 0] 70)) :=
  ⟨⟨_, Boxed.new _ _ _, World.ownsRow_nil _ _ _ _⟩, (Below.refl _ w).alloc (Nat.le_refl _) _, Nat.le_refl _⟩
theorem bytes_below {w W : World} {a : Option Addr} {n : Nat} {l : List UInt8} (h : Bytes w a n l) (hB : Below w.heap.size w W) : Bytes W a n l := by
  refine ⟨h.1, fun h0 => ?_⟩
  obtain ⟨b, off, e, hc⟩ := h.2 h0
  refine ⟨b, off, e, fun j hj => ?_⟩
  exact (hB.cell (p := ⟨b, off + j, none⟩) (World.block_lt_of_cell? w _ (hc j hj))).trans (hc j hj)

set_option maxRecDepth 20000 in
set_option maxHeartbeats 1000000 in
theorem encode_blob (a : Option Addr) (n c : Nat) (l : List UInt8) (w : World) (hb : Bytes w a n l) (hnil : a = none → n = 0 ∧ c = 0) (hm : n ≤ 70368744177664) :
    Calls Tryz.prog 55 #[.iface 72 (.agg #[.slice a n c])] w fun e w' => ∃ v, e = .returned v ∧ w'.ownsRow w.heap.size 5 1 v (98 :: l).length (cellsOf (98 :: l)) ∧ Below w.heap.size w w' := by
  have hmf : ∀ (fn : Fn) (first cap : Array Value) (w : World), (Instr.makeFunc fn first cap).run Tryz.prog w = .ok (.func fn first cap) w := fun _ _ _ _ => rfl
  have h1 := as_blob (.agg #[.slice a n c])
  have HO := ((out_new w).alloc (.cells #[.slice a n c] 72)).alloc (.cells #[.int .u8 98] 5)
  have hO2 : Boxed ((w.alloc (.cells #[.slice none 0 0] 70)).alloc (.cells #[.slice a n c] 72)) (w.heap.size + 1) 72 (.slice a n c) := by
    have := Boxed.new (w.alloc (.cells #[.slice none 0 0] 70)) 72 (.slice a n c)
    rw [World.size_alloc] at this
    exact this
  have hby := bytes_new ((w.alloc (.cells #[.slice none 0 0] 70)).alloc (.cells #[.slice a n c] 72)) [98] _ rfl
  have hp := put_any w w.heap.size [] (some ⟨w.heap.size + 1 + 1, 0, none⟩) 1 1 [98] _ HO (by rw [World.size_alloc, World.size_alloc] at hby; exact hby) (fun h => by cases h) (by simp)
  clear HO
  have hK := hO2.alloc (.cells #[.int .u8 98] 5)
  clear hO2 hby
  go_enter Tryz.func55, Tryz.ntmps55
  go_wp2_with first
    | (go_at_call 73; refine hp.mono ?_; rintro e w1 ⟨rfl, hO1, hk1⟩; have cb := (hk1 _ _ _ hK (by decide) (by omega)).cell; have HO1 : Hid (OOut w w.heap.size ([] ++ [98]) w1) := hO1; clear hp hO1 hk1)
    | (go_at_call 73; refine (put_any w w.heap.size ([] ++ [98]) a n c l _ HO1.out (bytes_below hb HO1.out.bel) hnil (by simp; omega)).mono ?_; rintro e w2 ⟨rfl, hO2, _⟩; obtain ⟨v, hv, ho⟩ := hO2.box; have cv := hv.cell; obtain ⟨ad, cp, rfl, _⟩ := row_shape ho; have HO2 : Hid (OOut w w.heap.size (([] ++ [98]) ++ l) w2) := hO2; clear hO2 HO1)
  go_ret
  exact ⟨_, rfl, ho, HO2.out.bel⟩
theorem row_lower {w : World} {B B' n : Nat} {e : TypeId} {v : Value} {xs : List Value} (h : w.ownsRow B e 1 v n xs) (hB : B' ≤ B) : w.ownsRow B' e 1 v n xs := by
  refine ⟨h.1, ?_⟩
  rcases h.2 with h0 | ⟨g, cap, cur, h1, h2, h3⟩
  · exact .inl h0
  · exact .inr ⟨g, cap, cur, h1, by omega, h3⟩
theorem Encode_blob (a : Option Addr) (n c : Nat) (l : List UInt8) (w : World) (hb : Bytes w a n l) (hnil : a = none → n = 0 ∧ c = 0) (hm : n ≤ 4096) :
    Calls Tryz.prog 38 #[.iface 72 (.agg #[.slice a n c])] w fun e w' => ∃ v, e = .returned (.tuple #[v, .int .i64 0]) ∧ w'.ownsRow w.heap.size 5 1 v (98 :: l).length (cellsOf (98 :: l)) ∧ Below w.heap.size w w' := by
  have c1 := check_blob a n c w
  rw [show blobErr n = 0 by unfold blobErr; rw [if_neg (by omega)]] at c1
  go_enter Tryz.func38, Tryz.ntmps38
  go_wp2_with first
    | (go_at_call 54; refine c1.mono ?_; rintro e w1 ⟨rfl, hB1⟩)
    | (go_at_call 55; refine (encode_blob a n c l _ (bytes_below hb hB1) hnil (by omega)).mono ?_; rintro e w2 ⟨v, rfl, ho, hB2⟩; have HO : Hid (w2.ownsRow w1.heap.size 5 1 v (98 :: l).length (cellsOf (98 :: l))) := ho; clear ho)
  go_ret2
  refine ⟨_, rfl, ?_, hB1.trans (hB2.mono hB1.size)⟩
  exact row_lower HO.out hB1.size
end Go.Proofs.YtojpbemfbjkjjaaGreat

/- The walk of wakes: a blob's bytes, and the empty tree read. -/
namespace Go.Proofs.YtojpbemfbjkjjaaGreat
open Go.RowKit

theorem num_zero : num (([116, 0] : List UInt8).drop 1) = (0, 1, 0) := by decide +kernel

set_option maxRecDepth 20000 in
theorem readTree_zero (w : World) (r g : Nat) (h : Rd w r g 1 0 [116, 0]) (hr : r < w.heap.size) :
    Calls Tryz.prog 90 #[.pointer (some ⟨r, 0, none⟩)] w fun e w' => e = .returned (.iface 107 (.agg #[.slice none 0 0])) ∧ Rd w' r g 2 0 [116, 0] ∧ w.grownBy w' (some r) := by
  have hrd : Rd (w.alloc (.cells #[.slice none 0 0] 107)) r g 1 0 [116, 0] := h.kept (World.grownBy_alloc w _ none) (by simp) (by simp)
  have hbx : Boxed (w.alloc (.cells #[.slice none 0 0] 107)) w.heap.size 107 (.slice none 0 0) := Boxed.new _ _ _
  have cu := uint_yes _ r g 1 _ hrd (by rw [num_zero])
  rw [num_zero] at cu
  go_enter Tryz.func90, Tryz.ntmps90
  go_wp2_with (go_at_call 105; refine cu.mono ?_; rintro e w1 ⟨rfl, hrd1, hg1⟩; have hb1 := hbx.kept hg1 (by intro e; have := Option.some.inj e; omega); have cb := hb1.cell; clear cu hrd)
  go_loopw [4] (fun v wr => v = .int .u64 0 ∧ wr = w1) (fun _ _ => 0)
  case atStart => exact ⟨rfl, rfl⟩
  case round =>
    obtain ⟨rfl, rfl⟩ := hrel
    go_wp2
    go_ret
    refine ⟨rfl, hrd1, ?_⟩
    exact (World.grownBy_alloc w _ (some r)).trans hg1
set_option maxRecDepth 20000 in
theorem checkTree_none (w : World) : Calls Tryz.prog 71 #[.agg #[.slice none 0 0]] w fun e w' => e = .returned (.int .i64 0) ∧ Below w.heap.size w w' := by
  have hB0 : Below w.heap.size w (w.alloc (.cells #[.slice none 0 0] 107)) := (Below.refl _ w).alloc (Nat.le_refl _) _
  go_enter Tryz.func71, Tryz.ntmps71
  go_wp2
  go_loopw [14] (fun v wr => v = .int .i64 0 ∧ wr = w.alloc (.cells #[.slice none 0 0] 107)) (fun _ _ => 0)
  case atStart => exact ⟨rfl, rfl⟩
  case round =>
    obtain ⟨rfl, rfl⟩ := hrel
    go_wp2
    go_ret
    exact ⟨rfl, hB0⟩
theorem check_tree_none (w : World) : Calls Tryz.prog 54 #[.iface 107 (.agg #[.slice none 0 0])] w fun e w' => e = .returned (.int .i64 0) ∧ Below w.heap.size w w' := by
  have h0 := no_blob 107 (by decide) (.agg #[.slice none 0 0])
  have h1 := as_tree (.agg #[.slice none 0 0])
  have hB0 : Below w.heap.size w (w.alloc (.cells #[.slice none 0 0] 107)) := (Below.refl _ w).alloc (Nat.le_refl _) _
  go_enter Tryz.func54, Tryz.ntmps54
  go_wp2_with (go_at_call 71; refine (checkTree_none _).mono ?_; rintro e w1 ⟨rfl, hB⟩)
  go_ret
  exact ⟨rfl, hB0.trans (hB.mono (by simp))⟩

set_option maxRecDepth 20000 in
set_option maxHeartbeats 1000000 in
theorem decode_wake (a : Option Addr) (c : Nat) (w : World) (hb : Bytes w a 2 [116, 0]) : Calls Tryz.prog 69 #[.slice a 2 c] w fun e w' => e = .returned (.iface 107 (.agg #[.slice none 0 0])) ∧ Below w.heap.size w w' := by
  have hbt : bt [116, 0] 0 = 116 := rfl
  go_enter Tryz.func69, Tryz.ntmps69
  go_wp2_with first
    | (go_at_call 61; refine (oread_any a 2 c [116, 0] _ hb (by omega)).mono ?_; rintro e w1 ⟨r, g, rfl, hr, hg, hrd, hgr⟩; have B1 : Below w.heap.size w w1 := (Below.refl _ w).grown hgr (Nat.le_refl _) (by simp); clear hgr)
    | (go_at_call 88; refine (byte_yes _ r g 0 _ hrd (by simp)).mono ?_; rw [hbt]; rintro e w2 ⟨rfl, hrd2, hgr2⟩; have B2 : Below w.heap.size w w2 := B1.grown hgr2 B1.size (fun k hk => by cases hk; exact hr); have hrl : r < w2.heap.size := World.block_lt_of_cell? w2 _ hrd2.c0; clear hgr2 B1 hrd)
    | (go_at_call 90; refine (readTree_zero _ r g hrd2 hrl).mono ?_; rintro e w3 ⟨rfl, hrd3, hgr3⟩; have B3 : Below w.heap.size w w3 := B2.grown hgr3 B2.size (fun k hk => by cases hk; exact hr); clear hgr3 B2 hrd2 hrl)
    | (go_at_call 92; refine (end_ok _ r g 2 0 _ hrd3 rfl).mono ?_; rintro e w4 ⟨rfl, k, hw4⟩; have B4 : Below w.heap.size w w4 := (by rw [hw4]; exact B3.grown (grownBy_drewN _ _ none) B3.size (by simp)); clear hw4 B3 hrd3)
  go_ret
  exact ⟨rfl, B4⟩
theorem Decode_wake (a : Option Addr) (c : Nat) (w : World) (hb : Bytes w a 2 [116, 0]) : Calls Tryz.prog 52 #[.slice a 2 c] w fun e w' => e = .returned (.tuple #[.iface 107 (.agg #[.slice none 0 0]), .int .i64 0]) ∧ Below w.heap.size w w' := by
  go_enter Tryz.func52, Tryz.ntmps52
  go_wp2_with first
    | (go_at_call 69; refine (decode_wake a c _ hb).mono ?_; rintro e w1 ⟨rfl, hB1⟩)
    | (go_at_call 54; refine (check_tree_none _).mono ?_; rintro e w2 ⟨rfl, hB2⟩)
  go_ret2
  exact ⟨rfl, hB1.trans (hB2.mono hB1.size)⟩

end Go.Proofs.YtojpbemfbjkjjaaGreat

/- The walk of the program's Hash. -/
namespace Go.Proofs.YtojpbemfbjkjjaaGreat
open Go.RowKit

/-- the hash of the first k bytes of l -/
def hashTo (l : List UInt8) : Nat → Int
  | 0 => 14695981039346656037
  | k + 1 => IntKind.u64.wrap (bits BinOp.xor IntKind.u64 (hashTo l k) (bt l k) * 1099511628211)
theorem hashTo_zero (l : List UInt8) : hashTo l 0 = 14695981039346656037 := rfl
theorem hashTo_succ (l : List UInt8) (k : Nat) : hashTo l (k + 1) = IntKind.u64.wrap (bits BinOp.xor IntKind.u64 (hashTo l k) (bt l k) * 1099511628211) := rfl
theorem hashTo_lo (l : List UInt8) (k : Nat) : 0 ≤ hashTo l k := by
  cases k with
  | zero => rw [hashTo_zero]; omega
  | succ k => rw [hashTo_succ]; rw [IntKind.wrap_u64]; omega
theorem hashTo_hi (l : List UInt8) (k : Nat) : hashTo l k ≤ 18446744073709551615 := by
  cases k with
  | zero => rw [hashTo_zero]; omega
  | succ k => rw [hashTo_succ]; rw [IntKind.wrap_u64]; omega

set_option maxHeartbeats 400000 in
theorem hash_any (a : Option Addr) (n cap : Nat) (l : List UInt8) (w : World) (hb : Bytes w a n l) (hm : n ≤ maxLen) :
    Calls Tryz.prog 56 #[.slice a n cap] w fun e w' => e = .returned (.int .u64 (hashTo l n)) ∧ w' = w := by
  unfold maxLen at hm
  obtain ⟨hl, hc⟩ := hb
  go_enter Tryz.func56, Tryz.ntmps56
  go_wp2
  go_loop [3, 8] (fun h i => ∃ k : Nat, k ≤ n ∧ i = .int .i64 k ∧ h = .int .u64 (hashTo l k)) (fun _ i => n - (intOf i).toNat)
  case atStart => exact ⟨0, Nat.zero_le _, rfl, rfl⟩
  case round =>
    obtain ⟨k, hk, rfl, rfl⟩ := hrel
    by_cases hlt : k < n
    · obtain ⟨b, off, rfl, hcell⟩ := hc (by omega)
      have hck := hcell k hlt
      have b0 := bt_lo l k
      have b1 := bt_hi l k
      have h0 := hashTo_lo l k
      have h1 := hashTo_hi l k
      clear hcell hc
      go_wp2
      go_round
      case rel => exact ⟨k + 1, by omega, by go_num, by rw [hashTo_succ]⟩
      case measure => simp [intOf]; omega
    · go_wp2
      go_ret
      obtain rfl : k = n := by omega
      exact ⟨rfl, rfl⟩

end Go.Proofs.YtojpbemfbjkjjaaGreat

/- The walk of the document's Hash: it answers the same function of the bytes as the program's. -/
namespace Go.Proofs.YtojpbemfbjkjjaaGreat
open Go.RowKit

end Go.Proofs.YtojpbemfbjkjjaaGreat
