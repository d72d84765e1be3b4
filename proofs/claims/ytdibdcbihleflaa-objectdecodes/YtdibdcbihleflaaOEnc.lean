/- The walks of what puts an object's bytes together: the closure, and a blob's bytes. -/
import Derived.Test.YtdibdcbihleflaaOKind
import Derived.Test.YtdibdcbihleflaaStr
import Derived.Laws.AppendOwnNone
import Derived.Maps.AppendAt
import Derived.Lib.AppendStr
namespace Go.Proofs.Ytdibdcbihleflaa
open Go.RowKit

theorem row_shape {w : World} {B n : Nat} {e : TypeId} {v : Value} {xs : List Value} (h : w.ownsRow B e 1 v n xs) : ∃ ad c, v = .slice ad n c ∧ n ≤ c ∧ (ad = none → n = 0 ∧ c = 0) := by
  rcases h.2 with ⟨rfl, rfl⟩ | ⟨g, cap, cur, rfl, _, _, hc, _⟩
  · exact ⟨none, 0, rfl, Nat.le_refl _, fun _ => ⟨rfl, rfl⟩⟩
  · exact ⟨_, _, rfl, hc, fun h => by cases h⟩
theorem row_bytes {w : World} {B n c : Nat} {ad : Option Addr} {l : List UInt8} (h : w.ownsRow B 5 1 (.slice ad n c) n (cellsOf l)) : Bytes w ad n l := by
  have hl : l.length = n := by have := h.1; rw [cellsOf_length] at this; omega
  rcases h.2 with ⟨hv, hn⟩ | ⟨g, cap, cur, hv, _, hg, hc, _, _, ht⟩
  · exact ⟨hl, fun h0 => by omega⟩
  · cases hv
    refine ⟨hl, fun _ => ⟨g, 0, rfl, fun j hj => ?_⟩⟩
    have e : (cur.toList.take (n * 1))[j]? = some (.int .u8 (bt l j)) := by rw [ht]; exact cellsOf_get l j (by omega)
    rw [List.getElem?_take_of_lt (by omega)] at e
    simp only [World.cell?, hg]
    show cur[0 + j]? = _
    rw [Nat.zero_add, ← Array.getElem?_toList]; exact e
theorem row_block {W : World} {base n : Nat} {e : TypeId} {v : Value} {xs : List Value} (h : W.ownsRow base e 1 v n xs) : ∀ r, v.ownBlock = some r → base ≤ r ∧ r < W.heap.size ∧ ∃ cur, W.heap[r]? = some (.cells cur e (0, 0)) := by
  intro r hr
  rcases h.2 with ⟨rfl, _⟩ | ⟨g, cap, cur, rfl, hb, hg, _⟩
  · cases hr
  · cases hr
    exact ⟨hb, (Array.getElem?_eq_some_iff.1 hg).1, cur, hg⟩
theorem run_app (w : World) (B : Nat) (hB : B ≤ w.heap.size) (ty : TypeId) (v : Value) (n : Nat) (xs : List Value) (hown : w.ownsRow B 5 1 v n xs) (ad : Option Addr) (m c : Nat) (l : List UInt8) (hb : Bytes w ad m l) (hnil : ad = none → m = 0 ∧ c = 0) (hm : n + m ≤ 140737488355328) :
    ∃ v' w', (Builtin.append_ #[22, 22] ty #[v, .slice ad m c]).run Try.prog w = .ok v' w' ∧ w'.ownsRow B 5 1 v' (n + m) (xs ++ cellsOf l) ∧ w.grownBy w' v.ownBlock ∧ (v'.ownBlock = v.ownBlock ∨ v'.ownBlock = some w.heap.size) := by
  obtain ⟨i0, hi, hz0, hz1, hz2⟩ := info_parts Try.info5
  cases ad with
  | none =>
    obtain ⟨rfl, rfl⟩ := hnil rfl
    have hl : l = [] := List.eq_nil_of_length_eq_zero hb.1
    subst hl
    exact ⟨v, w, run_append_owned_none (P := Try.prog) (w := w) B 22 ty 5 i0 1 Try.underlying22 hi v n xs hown, by simpa [cellsOf] using hown, ⟨rfl, rfl, rfl, Nat.le_refl _, fun _ _ _ => rfl⟩, .inl rfl⟩
  | some ad =>
    obtain ⟨v', w', h1, h2, h3, _, h5⟩ := run_append_own_at (P := Try.prog) w B 22 ty 5 i0 (.int .u8 0) 1 1 Try.underlying22 hi hz0 hz1 hz2 rfl (by omega) v n xs hown ad m c (cellsOf l) (by rw [cellsOf_length, hb.1]; omega) (by
      intro j u hj
      have hjl : j < l.length := by have := (List.getElem?_eq_some_iff.1 hj).1; rw [cellsOf_length] at this; exact this
      have hl := hb.1
      obtain ⟨b, off, hx', hc⟩ := hb.2 (by omega)
      obtain rfl := Option.some.inj hx'
      rw [cellsOf_get l j hjl] at hj
      rw [Addr.add_lit, hc j (by omega)]
      exact hj) (cellsOf_one l) (by unfold maxLen; omega) (by omega) hB
    exact ⟨v', w', h1, h2, h3, h5⟩
theorem wpList_app (w : World) (B : Nat) (hB : B ≤ w.heap.size) {ops : Array Oper} {rest : List Oper} {o : Oper} {a : Act} {Q : Exit → Act → World → Prop} (hgd : o.guard = none) (s x : Operand)
    (ho : o.op = .call { callee := .builtin .append, args := #[s, x], argTypes := #[22, 22] })
    (v : Value) (n : Nat) (xs : List Value) (hs : a.eval s = v) (hown : w.ownsRow B 5 1 v n xs) (ad : Option Addr) (m c : Nat) (l : List UInt8) (hx : a.eval x = .slice ad m c) (hb : Bytes w ad m l) (hnil : ad = none → m = 0 ∧ c = 0) (hm : n + m ≤ 140737488355328)
    (h : ∀ v' w', w'.ownsRow B 5 1 v' (n + m) (xs ++ cellsOf l) → w.grownBy w' v.ownBlock → (v'.ownBlock = v.ownBlock ∨ v'.ownBlock = some w.heap.size) → wpList Try.prog ops Q rest (a.put o.dst v') w') : wpList Try.prog ops Q (o :: rest) a w := by
  refine wpList_plain hgd fun K hK => ?_
  obtain ⟨v', w', hr, h2, h3, h4⟩ := run_app w B hB o.type v n xs hown ad m c l hb hnil hm
  unfold Oper.wp execOp
  simp only [ho, resolve, invoke, builtin, Sem.run_bind, Sem.run_pure, Result.andThen_ok, List.map_toArray, List.map_cons, List.map_nil, hs, hx, hr]
  exact hK _ _ (h v' w' h2 h3 h4)
theorem bytes_new (w : World) (l : List UInt8) (cs : Array Value) (h : cs = (cellsOf l).toArray) : Bytes (w.alloc (.cells cs 5)) (some ⟨w.heap.size, 0, none⟩) l.length l := by
  subst h
  refine ⟨rfl, fun _ => ⟨_, _, rfl, fun j hj => ?_⟩⟩
  simp only [World.cell?, World.alloc_heap_new]
  show (cellsOf l).toArray[0 + j]? = _
  rw [Nat.zero_add, List.getElem?_toArray]
  exact cellsOf_get l j hj

/-- the bytes put together so far lie in a row that the variable in block B holds -/
structure Out (w0 : World) (B : Nat) (l : List UInt8) (W : World) : Prop where
  box : ∃ v, Boxed W B 22 v ∧ W.ownsRow w0.heap.size 5 1 v l.length (cellsOf l)
  bel : Below w0.heap.size w0 W
  le : w0.heap.size ≤ B
theorem Out.below {w0 W W' : World} {B : Nat} {l : List UInt8} (h : Out w0 B l W) (hb : Below W.heap.size W W') : Out w0 B l W' := by
  obtain ⟨v, hv, ho⟩ := h.box
  exact ⟨⟨v, (hb.block B hv.lt).trans hv, ho.kept (row := none) ⟨hb.os, hb.tape, hb.output, hb.size, fun k hk _ => hb.block k hk⟩ (by cases v.ownBlock <;> simp)⟩, h.bel.trans (hb.mono h.bel.size), h.le⟩
theorem Out.alloc {w0 W : World} {B : Nat} {l : List UInt8} (h : Out w0 B l W) (o : Obj) : Out w0 B l (W.alloc o) := h.below ((Below.refl _ _).alloc (Nat.le_refl _) _)

set_option maxRecDepth 20000 in
theorem put_any (w0 : World) (B : Nat) (l : List UInt8) (a : Option Addr) (n c : Nat) (m : List UInt8) (W : World) (h : Out w0 B l W) (hb : Bytes W a n m) (hnil : a = none → n = 0 ∧ c = 0) (hm : l.length + n ≤ 140737488355328) :
    Calls Try.prog 76 #[.slice a n c, .pointer (some ⟨B, 0, none⟩)] W fun e W' => e = .returned (.tuple #[]) ∧ Out w0 B (l ++ m) W' ∧ (∀ K t u, Boxed W K t u → t ≠ 5 → K ≠ B → Boxed W' K t u) := by
  obtain ⟨v, hv, ho⟩ := h.box
  have cv := hv.cell
  have hsz := h.bel.size
  have d1 : 22 ≠ 5 := by decide
  go_enter Try.func76, Try.ntmps76
  go_wp2_with (at_builtin; refine wpList_app _ w0.heap.size hsz rfl _ _ rfl v l.length _ rfl ho a n c m rfl hb hnil hm ?_; intro v' W2 ho2 hg2 _; have hv2 : Boxed W2 B 22 v := hv.kept hg2 (hv.not_row d1 ho); have c2 := hv2.cell; have f2 := hv2.frozen; obtain ⟨ad, cp, rfl, _⟩ := row_shape ho2)
  go_end0
  refine ⟨rfl, ⟨⟨_, hv2.set _, ?_⟩, ?_, h.le⟩, fun K t u hK ht hKB => ?_⟩
  · rw [List.length_append, hb.1, cellsOf_append]
    exact ho2.kept (grownBy_setCell' W2 B _) (.inr (hv2.not_row d1 ho2).symm)
  · exact (h.bel.grown hg2 hsz (fun k hk => (row_block ho k hk).1)).setCell (p := ⟨B, 0, none⟩) h.le _
  · exact (hK.kept hg2 (hK.not_row ht ho)).kept (grownBy_setCell' W2 B _) (fun e => hKB (Option.some.inj e))
end Go.Proofs.Ytdibdcbihleflaa
