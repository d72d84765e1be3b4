/- A commit's links, its copy, and what it answers in all. -/
import Derived.Test.YtdibdcbihleflabOCommit3
import Derived.Test.YtdibdcbihleflabOTree5
namespace Go.Proofs.Ytdibdcbihleflab
open Go.RowKit

attribute [local go_sem] Oper.semAt_some

/-- ids appended to a row of one's own -/
theorem wpList_appI (w : World) (B : Nat) (hB : B ≤ w.heap.size) {ops : Array Oper} {rest : List Oper} {o : Oper} {a : Act} {Q : Exit → Act → World → Prop} (hgd : o.guard = none) (s x : Operand)
    (ho : o.op = .call { callee := .builtin .append, args := #[s, x], argTypes := #[26, 26] })
    (v : Value) (n : Nat) (k : List Int) (hs : a.eval s = v) (hown : w.ownsRow B 25 1 v n (k.map (Value.int .u64))) (ad : Option Addr) (m c : Nat) (l : List Int) (hx : a.eval x = .slice ad m c) (hb : Ids w ad m l) (hnil : ad = none → m = 0 ∧ c = 0) (hm : n + m ≤ 1099511627776)
    (h : ∀ v' w', w'.ownsRow B 25 1 v' (n + m) ((k ++ l).map (Value.int .u64)) → w.grownBy w' v.ownBlock → wpList Try.prog ops Q rest (a.put o.dst v') w') : wpList Try.prog ops Q (o :: rest) a w := by
  obtain ⟨i0, hi, hz0, hz1, hz2⟩ := info_parts infoId
  cases ad with
  | none =>
    obtain ⟨rfl, rfl⟩ := hnil rfl
    have hl : l = [] := List.eq_nil_of_length_eq_zero hb.1
    subst hl
    refine wpList_plain hgd fun K hK => ?_
    have hr := run_append_owned_none (P := Try.prog) (w := w) B 26 o.type 25 i0 1 Try.underlying26 hi v n _ hown
    unfold Oper.wp execOp
    simp only [ho, resolve, invoke, builtin, Sem.run_bind, Sem.run_pure, Result.andThen_ok, List.map_toArray, List.map_cons, List.map_nil, hs, hx, hr]
    exact hK _ _ (h v w (by rw [List.append_nil]; exact hown) ⟨rfl, rfl, rfl, Nat.le_refl _, fun _ _ _ => rfl⟩)
  | some q =>
    refine wpList_append_own w hgd s x 26 ho B 25 i0 _ 1 8 Try.underlying26 hi hz0 hz1 hz2 rfl (by decide) v n _ hs hown q m c (l.map (Value.int .u64)) hx (by rw [List.length_map, hb.1]; omega) ?_ (by intro u hu; obtain ⟨y, _, rfl⟩ := List.mem_map.1 hu; rfl) (by unfold maxLen; omega) (by omega) hB fun v' w' h1 h2 _ => h v' w' (by rw [List.map_append]; exact h1) h2
    intro j u hj
    rw [List.getElem?_map] at hj
    have hl := hb.1
    cases hlj : l[j]? with
    | none => rw [hlj] at hj; cases hj
    | some y =>
      rw [hlj] at hj
      have hjl := (List.getElem?_eq_some_iff.1 hlj).1
      obtain ⟨b, off, e, hc⟩ := hb.2 (by omega)
      cases e
      rw [Addr.add_lit, hc j y hlj]
      exact hj
theorem ids_lit (w : World) (x : Int) : Ids (w.alloc (.cells #[.int .u64 x] 25)) (some ⟨w.heap.size, 0, none⟩) 1 [x] := by
  refine ⟨rfl, fun _ => ⟨_, _, rfl, fun j y hy => ?_⟩⟩
  match j, hy with
  | 0, hy =>
    simp at hy; subst hy
    exact (Boxed.new w 25 (.int .u64 x)).cell

def comI (t : Int) (ps : List Int) (au tx : ByteArray) : List Int := if comErr t ps au tx = 0 then t :: ps else []
def comT (t : Int) (ps : List Int) (au : ByteArray) (d : Int) (tx : ByteArray) : List UInt8 := if comErr t ps au tx = 0 then comB t ps au d tx else []
end Go.Proofs.Ytdibdcbihleflab
