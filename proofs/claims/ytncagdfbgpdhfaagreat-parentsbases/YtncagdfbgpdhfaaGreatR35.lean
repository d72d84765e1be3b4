import Derived.Test.YtncagdfbgpdhfaaGreatR34
import Derived.Laws.AppendOwnNone
import Derived.Test.YtncagdfbgpdhfaaGreatR33
import Derived.Deep.RegionHeld3
import Derived.Test.YtncagdfbgpdhfaaGreatR30
import Derived.Test.YtncagdfbgpdhfaaGreatR26
import Derived.Lib.SlBytesConst
import Derived.Deep.RegionHeld
/- Ids appended to a row of one's own; the document's Parents. -/
namespace Go.Proofs.YtncagdfbgpdhfaaGreat
open Go.RowKit Go.Maps

attribute [local go_sem] Oper.semAt_some

theorem wpList_app_ids {wr : World} {ops : Array Oper} {rest : List Oper} {o : Oper} {a : Act} {Q : Exit → Act → World → Prop}
    (hgd : o.guard = none) (s x : Operand) (hop : o.op = Op.call { callee := Callee.builtin Builtin.append, args := #[s, x], argTypes := #[28, 28] })
    (base n m c : Nat) (v : Value) (k l : List Int) (ad : Option Addr) (hs : a.eval s = v) (hx : a.eval x = .slice ad m c)
    (hown : wr.ownsRow base 31 1 v n (k.map (Value.int .u64))) (hb : Ids wr ad m l) (hnil : ad = none → m = 0 ∧ c = 0) (hm : n + m ≤ 1000000) (hbase : base ≤ wr.heap.size)
    (hK : ∀ ad' c' w', n + m ≤ c' → w'.ownsRow base 31 1 (.slice ad' (n + m) c') (n + m) ((k ++ l).map (Value.int .u64)) → Below base wr w' → wpList Tryz.prog ops Q rest (a.put o.dst (.slice ad' (n + m) c')) w') :
    wpList Tryz.prog ops Q (o :: rest) a wr := by
  obtain ⟨i0, hi, hz0, hz1, hz2⟩ := info_parts infoIdG
  cases ad with
  | none =>
    obtain ⟨rfl, rfl⟩ := hnil rfl
    have hl : l = [] := List.eq_nil_of_length_eq_zero hb.1
    subst hl
    obtain ⟨ad', c', rfl, hc', _⟩ := row_shapeN hown
    refine wpList_append_own_none hgd s x 28 hop base 31 i0 1 Tryz.underlying28 hi _ n _ hs hown hx ?_
    have := hK ad' c' wr (by omega) (by simpa using hown) (Below.refl _ _)
    simpa using this
  | some ad =>
    refine wpList_append_own_at _ hgd s x 28 hop base 31 i0 _ 1 8 Tryz.underlying28 hi hz0 hz1 hz2 rfl (by omega) v n _ hs hown ad m c (l.map (Value.int .u64)) hx (by rw [List.length_map, hb.1]; omega) ?_ (fun u hu => by obtain ⟨y, _, rfl⟩ := List.mem_map.1 hu; rfl) (by unfold maxLen; omega) (by omega) hbase ?_
    · intro j u hj
      rw [List.getElem?_map] at hj
      cases hy : l[j]? with
      | none => rw [hy] at hj; cases hj
      | some y =>
        rw [hy] at hj
        cases hj
        have hjl : j < l.length := (List.getElem?_eq_some_iff.1 hy).1
        have hl := hb.1
        obtain ⟨b, off, hx', hc⟩ := hb.2 (by omega)
        obtain rfl := Option.some.inj hx'
        rw [Addr.add_lit]
        exact hc j y hy
    · intro v' w' h1 h2 _ _
      obtain ⟨ad', c', rfl, hc', _⟩ := row_shapeN h1
      exact hK ad' c' w' hc' (by rw [List.map_append]; exact h1) ((Below.refl base wr).grown h2 hbase (fun k hk => (hown.lt k hk).1))
/-- one id appended, out of a block that is new -/
theorem wpList_app_id {wr : World} {ops : Array Oper} {rest : List Oper} {o : Oper} {a : Act} {Q : Exit → Act → World → Prop} (z : Int) (fz : Nat × Nat)
    (hgd : o.guard = none) (s x : Operand) (hop : o.op = Op.call { callee := Callee.builtin Builtin.append, args := #[s, x], argTypes := #[28, 28] })
    (base n : Nat) (v : Value) (k : List Int) (hs : a.eval s = v) (hx : a.eval x = .slice (some ⟨wr.heap.size, 0, none⟩) 1 1)
    (hown : wr.ownsRow base 31 1 v n (k.map (Value.int .u64))) (hm : n + 1 ≤ 1000000) (hbase : base ≤ wr.heap.size)
    (hK : ∀ ad' c' w', n + 1 ≤ c' → w'.ownsRow base 31 1 (.slice ad' (n + 1) c') (n + 1) ((k ++ [z]).map (Value.int .u64)) → Below base wr w' → wpList Tryz.prog ops Q rest (a.put o.dst (.slice ad' (n + 1) c')) w') :
    wpList Tryz.prog ops Q (o :: rest) a (wr.alloc (.cells #[.int .u64 z] 31 fz)) := by
  refine wpList_app_ids hgd s x hop base n 1 1 v k [z] _ hs hx (hown.alloc _) ?_ (by intro h; cases h) hm (by simp; omega) ?_
  · have hb := World.alloc_heap_new wr (.cells #[.int .u64 z] 31 fz)
    generalize wr.alloc (.cells #[.int .u64 z] 31 fz) = W' at hb
    refine ⟨rfl, fun _ => ⟨_, _, rfl, fun j y hj => ?_⟩⟩
    match j, hj with
    | 0, hj => simp at hj; subst hj; simp [World.cell?, hb]
  · intro ad' c' w' h1 h2 h3
    exact hK ad' c' w' h1 h2 (((Below.refl base wr).alloc hbase _).trans h3)
end Go.Proofs.YtncagdfbgpdhfaaGreat

/- A row of ints of the call's own, read and set in place. -/
namespace Go.Proofs.YtncagdfbgpdhfaaGreat
open Go.RowKit Go.Maps

attribute [local go_sem] Oper.semAt_some

end Go.Proofs.YtncagdfbgpdhfaaGreat

/- The walk of the document's Depth. -/
namespace Go.Proofs.YtncagdfbgpdhfaaGreat
open Go.RowKit Go.Maps

attribute [local go_sem] Oper.semAt_some

end Go.Proofs.YtncagdfbgpdhfaaGreat

/- The walk of the document's Lines. -/
namespace Go.Proofs.YtncagdfbgpdhfaaGreat
open Go.RowKit Go.Maps

attribute [local go_sem] Oper.semAt_some

end Go.Proofs.YtncagdfbgpdhfaaGreat

/- The walk of Between. -/
namespace Go.Proofs.YtncagdfbgpdhfaaGreat
open Go.RowKit Go.Maps

attribute [local go_sem] Oper.semAt_some

end Go.Proofs.YtncagdfbgpdhfaaGreat

/- The walk of the document's Order. -/
namespace Go.Proofs.YtncagdfbgpdhfaaGreat
open Go.RowKit Go.Maps

attribute [local go_sem] Oper.semAt_some

end Go.Proofs.YtncagdfbgpdhfaaGreat

/- The walk of the law's wakes. -/
namespace Go.Proofs.YtncagdfbgpdhfaaGreat
open Go.RowKit Go.Shelf Go.Maps

attribute [local go_sem] Oper.semAt_some

/-- a blob of bytes that lie in memory -/
theorem blob_at {W : World} {a : Option Addr} {b : List UInt8} {c : Nat} (hb : Bytes W a b.length b) (hnil : a = none → b.length = 0 ∧ c = 0) (hl : b.length ≤ 4096) : ObS (.blob b) (.iface 82 (.agg #[.slice a b.length c])) W :=
  ⟨⟨a, c, rfl, hb, hnil, by omega⟩, trivial⟩
theorem snew_any (w : World) : Calls Tryz.prog 34 #[] w fun e w' => e = .returned (.pointer (some ⟨w.heap.size + 1, 0, none⟩)) ∧ ∃ G, IsDisk w' (w.heap.size + 1) ⟨fun _ => none, 0, 0, false, 0⟩ G ∧ (∀ k, G k → w.heap.size ≤ k) ∧ Below w.heap.size w w' := by
  refine (new_any w).mono ?_
  rintro e w' ⟨he, hd, hB⟩
  exact ⟨he, _, hd, fun k hk => by rcases hk with h | h <;> omega, hB⟩
end Go.Proofs.YtncagdfbgpdhfaaGreat

/- What becomes of a store into which an object is put that may be there; the empty tree. -/
namespace Go.Proofs.YtncagdfbgpdhfaaGreat
open Go.RowKit Go.Shelf Go.Maps

attribute [local go_sem] Oper.semAt_some

theorem file_bound (os : List Ob) (h : ∀ o ∈ os, (obB o).length ≤ 16384) : (fileB (os.map obB)).length ≤ os.length * 16402 := by
  induction os with
  | nil => simp [fileB]
  | cons o os ih =>
    have h1 := ih (fun p hp => h p (by simp [hp]))
    have h2 := h o (by simp)
    have h3 := (recB_pos (obB o)).2
    have e : (fileB ((o :: os).map obB)).length = (recB (obB o)).length + (fileB (os.map obB)).length := by simp [fileB]
    rw [e, List.length_cons, Nat.add_mul]
    omega
/-- how Put ends -/
def POut (w : World) (s d : Nat) (F G : Nat → Prop) (o : Ob) (R : Option (List Ob)) (e : Ending) (w' : World) : Prop := match R with
  | none => e = .returned (.tuple #[.int .u64 0, .int .i64 7])
  | some os' => e = .returned (.tuple #[.int .u64 (oid o), .int .i64 0]) ∧ ∃ S' F' G', StG w' s d os' S' F' G' ∧ (∀ k, F' k → F k ∨ w.heap.size ≤ k) ∧ (∀ k, G' k → G k ∨ w.heap.size ≤ k)
theorem gput_any (w : World) (s d : Nat) (os : List Ob) (S : DG) (F G : Nat → Prop) (h : StG w s d os S F G) (v : Value) (o : Ob) (hv : ∀ W, Turn (fun k => F k ∨ G k) w W → ObS o v W) (h0 : obErr o = 0) (hn : os.length ≤ 200) (hlen : ∀ p ∈ os, (obB p).length ≤ 16384) :
    Calls Tryz.prog 36 #[.pointer (some ⟨s, 0, none⟩), v] w fun e w' => Turn (fun k => F k ∨ G k) w w' ∧ POut w s d F G o (putG os o) e w' := by
  have hv0 := hv w (Turn.refl _ _)
  have hl0 := obB_len hv0.1 h0
  unfold putG
  cases hf : findO os (oid o) with
  | none =>
    have hfb := file_bound os hlen
    have hrp := (recB_pos (obB o)).2
    refine (sput_good w s d os S F G h v o hv h0 hf (by omega) (by omega)).mono ?_
    rintro e w' ⟨he, hT, S', F', G', h1, h2, h3⟩
    exact ⟨hT, he, S', F', G', h1, h2, h3⟩
  | some p =>
    have h9 := h
    obtain ⟨j, b, M, u, FJ, O, hst⟩ := h.st
    refine (sput_there w s d j b M u _ os _ false FJ O F hst v o p hv0.1 h0 hf).mono ?_
    rintro e w' ⟨he, hB⟩
    refine ⟨Turn.of_below _ hB, ?_⟩
    by_cases hp : obB p = obB o
    · simp only [hp, if_true] at he ⊢
      exact ⟨he, S, F, G, h9.below hB, fun k hk => .inl hk, fun k hk => .inl hk⟩
    · simp only [hp, if_false] at he ⊢
      exact he
theorem empty_ob (W : World) : ObS (.tree []) (.iface 125 (.agg #[.slice none 0 0])) W := ⟨⟨none, 0, rfl, ⟨rfl, fun h => absurd h (by simp)⟩, ⟨fun j x hx => by simp at hx, fun j x hx => by simp at hx⟩, by simp⟩, fun ad cp e _ => by cases e; exact ⟨rfl, rfl⟩⟩
theorem empty_err : obErr (.tree []) = 0 := by decide
theorem empty_any (w : World) (s d : Nat) (S : DG) (F G : Nat → Prop) (h : StG w s d [] S F G) :
    Calls Tryz.prog 35 #[.pointer (some ⟨s, 0, none⟩)] w fun e w' => e = .returned (.tuple #[.int .u64 emptyI, .int .i64 0]) ∧ Turn (fun k => F k ∨ G k) w w' ∧ ∃ S' F' G', StG w' s d [.tree []] S' F' G' ∧ (∀ k, F' k → F k ∨ w.heap.size ≤ k) ∧ (∀ k, G' k → G k ∨ w.heap.size ≤ k) := by
  have hx : Calls Tryz.prog 36 #[.pointer (some ⟨s, 0, none⟩), .iface 125 (.agg #[.slice none 0 0])] w fun e w' => e = .returned (.tuple #[.int .u64 emptyI, .int .i64 0]) ∧ Turn (fun k => F k ∨ G k) w w' ∧ ∃ S' F' G', StG w' s d [.tree []] S' F' G' ∧ (∀ k, F' k → F k ∨ w.heap.size ≤ k) ∧ (∀ k, G' k → G k ∨ w.heap.size ≤ k) :=
    (gput_any w s d [] S F G h _ (.tree []) (fun W _ => empty_ob W) empty_err (by simp) (by simp)).mono fun e w' hx => ⟨hx.2.1, hx.1, hx.2.2⟩
  generalize emptyI = E at *
  go_enter Tryz.func35, Tryz.ntmps35
  go_wp2_with (go_at_call 36; refine hx.mono ?_; clear hx; rintro e w1 ⟨rfl, hR⟩; have HR : Hid (Turn (fun k => F k ∨ G k) w w1 ∧ ∃ S' F' G', StG w1 s d [.tree []] S' F' G' ∧ (∀ k, F' k → F k ∨ w.heap.size ≤ k) ∧ (∀ k, G' k → G k ∨ w.heap.size ≤ k)) := hR; clear hR)
  go_ret2
  exact ⟨rfl, HR.out⟩
end Go.Proofs.YtncagdfbgpdhfaaGreat

/- What stands within a round of born: the commit as it was handed in, and the commit that is made of it. -/
namespace Go.Proofs.YtncagdfbgpdhfaaGreat
open Go.RowKit Go.Maps

theorem five_cells {W : World} {n : Nat} {a b c d e : Value} {t : TypeId} (h : W.heap[n]? = some (.cells #[a, b, c, d, e] t)) : W.cell? ⟨n, 0, none⟩ = some a ∧ W.cell? ⟨n, 1, none⟩ = some b ∧ W.cell? ⟨n, 2, none⟩ = some c ∧ W.cell? ⟨n, 3, none⟩ = some d ∧ W.cell? ⟨n, 4, none⟩ = some e := by
  simp [World.cell?, h]
theorem five_frozen {W : World} {n : Nat} {a b c d e : Value} {t : TypeId} (h : W.heap[n]? = some (.cells #[a, b, c, d, e] t)) (j : Nat) : W.frozen? ⟨n, j, none⟩ = false := by
  simp [World.frozen?, h]
theorem lt_of_block {W : World} {n : Nat} {o : Obj} (h : W.heap[n]? = some o) : n < W.heap.size := (Array.getElem?_eq_some_iff.1 h).1
end Go.Proofs.YtncagdfbgpdhfaaGreat

/- The later half of a round of born: an object is put, a node, an id and a mark are appended. -/
namespace Go.Proofs.YtncagdfbgpdhfaaGreat
open Go.RowKit Go.Maps

end Go.Proofs.YtncagdfbgpdhfaaGreat

/- The objects that born puts in. -/
namespace Go.Proofs.YtncagdfbgpdhfaaGreat
open Go.RowKit Go.Maps

theorem backId_mem {ids : List Int} (h : 0 < ids.length) (x : Int) : backId ids x ∈ ids := by
  unfold backId
  have hl : backI ids.length ids.length x < ids.length := by unfold backI; omega
  rw [List.getElem?_eq_getElem hl, Option.getD_some]
  exact List.getElem_mem hl
theorem parsG_ok {ids : List Int} (hr : ∀ i ∈ ids, i ≠ 0 ∧ 0 ≤ i ∧ i ≤ 18446744073709551615) (b : BornD) : (∀ x ∈ parsG ids b, x ≠ 0 ∧ 0 ≤ x ∧ x ≤ 18446744073709551615) ∧ (parsG ids b).length ≤ 8 := by
  have hb : (∀ x ∈ backs ids b.back, x ≠ 0 ∧ 0 ≤ x ∧ x ≤ 18446744073709551615) ∧ (backs ids b.back).length ≤ 7 := by
    unfold backs
    split
    · exact ⟨by simp, by simp⟩
    · rename_i h
      refine ⟨fun x hx => ?_, by rw [List.length_map, List.length_take]; omega⟩
      obtain ⟨y, _, rfl⟩ := List.mem_map.1 hx
      exact hr _ (backId_mem (by omega) y)
  unfold parsG
  refine ⟨fun x hx => ?_, ?_⟩
  · rcases List.mem_append.1 hx with h | h
    · exact hb.1 x h
    · split at h
      · simp at h; subst h; omega
      · cases h
  · rw [List.length_append]
    have := hb.2
    split <;> simp <;> omega
theorem parL_zero : ∀ (l : List Int), (∀ x ∈ l, x ≠ 0) → parL l = 0
  | [], _ => rfl
  | x :: r, h => by
    simp only [parL]
    rw [if_neg (h x (by simp))]
    exact parL_zero r fun y hy => h y (by simp [hy])
theorem comG_err {t : Int} {ps : List Int} (ht : t ≠ 0) (hp : ∀ x ∈ ps, x ≠ 0) (hl : ps.length ≤ 8) (d : Int) : obErr (.com (t, ps, ⟨#[]⟩, d, ⟨#[]⟩)) = 0 := by
  show comErr t ps ⟨#[]⟩ ⟨#[]⟩ = 0
  have h1 : parErr ps = 0 := by unfold parErr; rw [if_neg (by omega)]; exact parL_zero ps hp
  have h2 : txtErr ⟨#[]⟩ 64 = 0 := by decide
  have h3 : txtErr ⟨#[]⟩ 1024 = 0 := by decide
  unfold comErr
  rw [if_neg ht, h1, h2, h3]
  simp
theorem obG_err {ids : List Int} (hr : ∀ i ∈ ids, i ≠ 0 ∧ 0 ≤ i ∧ i ≤ 18446744073709551615) (e0 : Int) (he : e0 ≠ 0) (b : BornD) : obErr (obG e0 ids b) = 0 := by
  have h := parsG_ok hr b
  unfold obG
  split
  · exact (blob_pure [byteG b.date] (by simp)).1
  · unfold comG
    refine comG_err ?_ (fun x hx => (h.1 x hx).1) h.2 _
    split
    · omega
    · exact he
theorem com_obs {W : World} {B : Nat} {pa : Option Addr} {pc : Nat} {ps : List Int} (hrow : W.ownsRow B 31 1 (.slice pa ps.length pc) ps.length (ps.map (Value.int .u64))) (t : Int) (ht : 0 ≤ t ∧ t ≤ 18446744073709551615) (hp : ∀ x ∈ ps, 0 ≤ x ∧ x ≤ 18446744073709551615) (d : Int) (hd : -9223372036854775808 ≤ d ∧ d ≤ 9223372036854775807) (hl : ps.length ≤ 8) :
    ObS (.com (t, ps, ⟨#[]⟩, d, ⟨#[]⟩)) (.iface 78 (.agg #[.int .u64 t, .slice pa ps.length pc, .string ⟨#[]⟩, .int .i64 d, .string ⟨#[]⟩])) W := by
  obtain ⟨a2, c2, e2, hI⟩ := own_ids hrow
  cases e2
  obtain ⟨a3, c3, e3, h3, h4⟩ := row_shapeN hrow
  cases e3
  have hC : Com W t pa ps.length pc ps ⟨#[]⟩ d ⟨#[]⟩ := ⟨⟨by omega, by omega⟩, hI, fun x hx => by have := hp x hx; omega, ⟨h3, by omega, h4⟩, by decide, ⟨by omega, by omega⟩, by decide⟩
  exact ⟨⟨pa, pc, rfl, hC⟩, trivial⟩
theorem putG_ok {os os' : List Ob} {o : Ob} (h : putG os o = some os') (hp : Pure os) (hg : ∀ p ∈ os, obErr p = 0) (hl : ∀ p ∈ os, (obB p).length ≤ 16384) (h0 : obErr o = 0) (hd : decG (obB o) = some o) (ho : (obB o).length ≤ 16384) : Pure os' ∧ (∀ p ∈ os', obErr p = 0) ∧ (∀ p ∈ os', (obB p).length ≤ 16384) ∧ os'.length ≤ os.length + 1 := by
  unfold putG at h
  cases hf : findO os (oid o) with
  | none =>
    rw [hf] at h
    simp only [Option.some.injEq] at h
    subst h
    refine ⟨hp.snoc hd hf, fun p hp' => ?_, fun p hp' => ?_, by simp⟩
    · rcases List.mem_append.1 hp' with h | h
      · exact hg p h
      · simp at h; subst h; exact h0
    · rcases List.mem_append.1 hp' with h | h
      · exact hl p h
      · simp at h; subst h; exact ho
  | some p =>
    rw [hf] at h
    simp only at h
    split at h
    · cases h
      exact ⟨hp, hg, hl, by omega⟩
    · cases h
theorem oid_rng (o : Ob) : oid o ≠ 0 ∧ 0 ≤ oid o ∧ oid o ≤ 18446744073709551615 := by
  have h := idOf_bounds (obB o)
  refine ⟨?_, h⟩
  show idOf (obB o) ≠ 0
  unfold idOf
  split <;> omega
theorem backsP_end (ids back : List Int) (n : Nat) (h : back.length = n) (P : List Int) (hP : P = if ids.length = 0 then [] else (back.take (min n 7)).map (backId ids)) : P = backs ids back := by
  rw [hP]
  unfold backs
  by_cases hi : ids.length = 0
  · rw [if_pos hi, if_pos hi]
  · rw [if_neg hi, if_neg hi]
    congr 1
    by_cases h7 : n ≤ 7
    · rw [show min n 7 = n by omega, List.take_of_length_le (by omega), List.take_of_length_le (by omega)]
    · rw [show min n 7 = 7 by omega]
end Go.Proofs.YtncagdfbgpdhfaaGreat

/- Regions that draw their order: what must hold of the memory may hang on which operations have come up. -/
namespace Go.Proofs.YtncagdfbgpdhfaaGreat

section
variable {P : Program} {ops : Array Oper} {Q : Exit → Act → World → Prop} {md : Region.Mode} {S : Array Bool → World → Prop}

def wpAnyG (P : Program) (md : Region.Mode) (ops : Array Oper) (Q : Exit → Act → World → Prop) (S : Array Bool → World → Prop) : Nat → Array Bool → Act → World → Prop
  | 0, listed, a, w => Region.ready md ops listed = [] ∧ Q .normal a w
  | fuel + 1, listed, a, w =>
    (Region.ready md ops listed = [] → Q .normal a w) ∧
    ∀ i ∈ Region.ready md ops listed, wpOp P ops Q i (fun a' w' => S (listed.setIfInBounds i true) w' ∧ wpAnyG P md ops Q S fuel (listed.setIfInBounds i true) a' w') a w
theorem wpAny_of_G : ∀ (fuel : Nat) (listed : Array Bool) (a : Act) (w : World), wpAnyG P md ops Q S fuel listed a w → wpAny P md ops Q fuel listed a w
  | 0, _, _, _, h => h
  | fuel + 1, _, _, _, h => ⟨h.1, fun i hi => wpOp_mono (fun a' w' h' => wpAny_of_G fuel _ a' w' h'.2) (h.2 i hi)⟩

/-- An operation may be taken first, if it yields its value in every world that meets T; T holds as long as the operation b, which waits for it, has not come up. -/
theorem wpAnyG_first {i b : Nat} {oi ob : Oper} {v : Value} {T : World → Prop} (hi : ops[i]? = some oi) (hsel : ∀ (j : Nat) (o : Oper) cs b, ops[j]? = some o → o.op ≠ .select cs b)
    (hQ : ∀ c a w, Q (.panic c) (a.put oi.dst v) w → Q (.panic c) a w) (hT : ∀ L w, L.getD b true = false → S L w → T w)
    (hSi : ∀ L w, L.getD b true = false → S L w → S (L.setIfInBounds i true) w) (hSu : ∀ L w, L.getD b true = false → S (L.setIfInBounds i true) w → S L w) (hb : ops[b]? = some ob) (hbw : ∃ e ∈ ob.after, Region.binds md e = true ∧ e.on = i) (hbi : b ≠ i) :
    ∀ (fuel : Nat) (listed : Array Bool) (a : Act) (w : World), listed.getD b true = false →
      (∀ j oj, ops[j]? = some oj → j ≠ i → listed.getD j true = false → (∀ e ∈ oj.after, Region.binds md e = true → e.on ≠ i) → oi.apart ops oj = true) →
      i ∈ Region.ready md ops listed → YieldsIf P ops T oi v a → S listed w →
      wpAnyG P md ops Q S fuel (listed.setIfInBounds i true) (a.put oi.dst v) w → wpAnyG P md ops Q S (fuel + 1) listed a w := by
  intro fuel
  induction fuel with
  | zero =>
    intro listed a w hlb _ hr hy hS H
    refine ⟨fun h => (by rw [h] at hr; cases hr), fun j hj => ?_⟩
    by_cases hji : j = i
    · subst hji; exact hy.wpOp hi (hT _ _ hlb hS) ⟨hSi _ _ hlb hS, H⟩
    · have := ready_mono hj hji
      rw [H.1] at this
      cases this
  | succ fuel ih =>
    intro listed a w hlb hfree hr hy hS H
    refine ⟨fun h => (by rw [h] at hr; cases hr), fun j hj => ?_⟩
    by_cases hji : j = i
    · subst hji; exact hy.wpOp hi (hT _ _ hlb hS) ⟨hSi _ _ hlb hS, H⟩
    · have h1 := H.2 j (ready_mono hj hji)
      obtain ⟨hjun, oj, hoj, hall⟩ := mem_ready.1 hj
      have hnot : ∀ e ∈ oj.after, Region.binds md e = true → e.on ≠ i := fun e he hbd heq => by
        have h1 := hall e he hbd
        have h0 := (mem_ready.1 hr).1
        rw [heq] at h1
        rcases Nat.lt_or_ge i listed.size with h' | h'
        · simp [h'] at h0 h1; rw [h0] at h1; cases h1
        · simp [Array.getElem?_eq_none h'] at h1
      have hjb : j ≠ b := fun e => by
        subst e
        obtain ⟨e, he, hbd, heq⟩ := hbw
        rw [hb] at hoj
        cases hoj
        exact hnot e he hbd heq
      have hlb' : (listed.setIfInBounds j true).getD b true = false := by rw [getD_set_ne true hjb]; exact hlb
      have h2 := wpOp_putIf hoj (hfree j oj hoj hji hjun hnot) (fun cs b => hsel i oi cs b hi) (fun cs b => hsel j oj cs b hoj) hQ hy h1
      have hfree' : ∀ k ok, ops[k]? = some ok → k ≠ i → (listed.setIfInBounds j true).getD k true = false →
          (∀ e ∈ ok.after, Region.binds md e = true → e.on ≠ i) → oi.apart ops ok = true := fun k ok hk hki hun hno => by
        refine hfree k ok hk hki ?_ hno
        by_cases hjk : j = k
        · subst hjk; exact hjun
        · rw [getD_set_ne true hjk] at hun; exact hun
      refine wpOp_mono (fun a' w' h3 => ?_) h2
      have hSS : S (listed.setIfInBounds j true) w' := by
        have h4 := h3.2.1
        rw [Array.setIfInBounds_comm _ _ (Ne.symm hji)] at h4
        exact hSu _ _ hlb' h4
      refine ⟨hSS, ih (listed.setIfInBounds j true) a' w' hlb' hfree' (ready_mono hr (Ne.symm hji)) h3.1 hSS ?_⟩
      rw [Array.setIfInBounds_comm _ _ hji]
      exact h3.2.2
theorem wpAnyG_ready {rs : List Nat} {fuel : Nat} {listed : Array Bool} {a : Act} {w : World} (hr : Region.ready md ops listed = rs) (hne : rs ≠ [])
    (h : ∀ i ∈ rs, wpOp P ops Q i (fun a' w' => S (listed.setIfInBounds i true) w' ∧ wpAnyG P md ops Q S fuel (listed.setIfInBounds i true) a' w') a w) : wpAnyG P md ops Q S (fuel + 1) listed a w :=
  ⟨fun h0 => absurd (hr ▸ h0) hne, hr ▸ h⟩
theorem wpAnyG_one {i : Nat} {o : Oper} {fuel : Nat} {listed : Array Bool} {a : Act} {w : World} (hr : Region.ready md ops listed = [i]) (ho : ops[i]? = some o)
    (h : ∀ K' : Act → World → Prop, Shut (∀ a w, S (listed.setIfInBounds i true) w → (S (listed.setIfInBounds i true) w → wpAnyG P md ops Q S fuel (listed.setIfInBounds i true) a w) → K' a w) → if Region.wanted o (yielded ops a.tmps) = true then Oper.wp P o a w K' Q else K' (a.put o.dst undef) w) : wpAnyG P md ops Q S (fuel + 1) listed a w :=
  wpAnyG_ready hr (by simp) fun j hj => by
    simp at hj
    subst hj
    exact wpOp_step ho (fun K' hK => h K' (fun a w hS hW => hK a w ⟨hS, hW hS⟩))
theorem wpAnyG_done {listed : Array Bool} {a : Act} {w : World} (hr : Region.ready md ops listed = []) (h : Q .normal a w) :
    ∀ fuel, wpAnyG P md ops Q S fuel listed a w
  | 0 => ⟨hr, h⟩
  | _ + 1 => ⟨fun _ => h, by rw [hr]; simp⟩
theorem wp_region_G {id : Nat} {a : Act} {w : World} (hm : P.follows .mixedOrders = true)
    (h : wpAnyG P .any ops Q S ops.size (Array.replicate ops.size false) a w.drew) : (Code.region id ops true).wp P Q a w :=
  wp_region_any hm (wpAny_of_G _ _ _ _ h)
/-- memory that holds T0, and T as long as the operation b has not come up -/
def SB (b : Nat) (T T0 : World → Prop) : Array Bool → World → Prop := fun L w => (L.getD b true = false → T w) ∧ T0 w
theorem SB.set {b i : Nat} {T T0 : World → Prop} {L : Array Bool} {w : World} (h : i ≠ b) : SB b T T0 (L.setIfInBounds i true) w ↔ SB b T T0 L w := by
  unfold SB
  rw [getD_set_ne true h]
/-- number i is taken first: it yields its value in every world that meets T and T0, and b waits for it -/
theorem wpAnyG_takeB {i b : Nat} {oi ob : Oper} {v : Value} {T T0 : World → Prop} {fuel : Nat} {listed : Array Bool} {a : Act} {w : World} (hi : ops[i]? = some oi)
    (hs : Region.noSelect ops = true) (hf : Region.free md ops listed i = true) (hr : (Region.ready md ops listed).contains i = true)
    (hQ : ∀ c a w, Q (.panic c) (a.put oi.dst v) w → Q (.panic c) a w) (hb : ops[b]? = some ob) (hbw : (ob.after.any fun e => Region.binds md e && e.on == i) = true) (hne : (i != b) = true) (hl : (listed.getD b true) = false)
    (hy : YieldsIf P ops (fun W => T W ∧ T0 W) oi v a) (hS : SB b T T0 listed w)
    (h : SB b T T0 (listed.setIfInBounds i true) w → wpAnyG P md ops Q (SB b T T0) fuel (listed.setIfInBounds i true) (a.put oi.dst v) w) : wpAnyG P md ops Q (SB b T T0) (fuel + 1) listed a w := by
  have hib : i ≠ b := by simpa using hne
  refine wpAnyG_first (T := fun W => T W ∧ T0 W) (b := b) hi (Region.noSelect_spec hs) hQ (fun L w hL hS => ⟨hS.1 hL, hS.2⟩) (fun L w _ hS => (SB.set hib).2 hS) (fun L w _ hS => (SB.set hib).1 hS) hb ?_ (Ne.symm hib) fuel listed a w hl (Region.free_spec hi hf) (by simpa using hr) hy hS (h ((SB.set hib).2 hS))
  simp only [Array.any_eq_true'] at hbw
  obtain ⟨e, he, h2⟩ := hbw
  simp only [Bool.and_eq_true, beq_iff_eq] at h2
  exact ⟨e, he, h2.1, h2.2⟩
/-- number i is taken first: it yields its value in every world that meets T0 -/
theorem wpAnyG_firstP {i b : Nat} {oi : Oper} {v : Value} {T T0 : World → Prop} (hib : i ≠ b) (hi : ops[i]? = some oi) (hsel : ∀ (j : Nat) (o : Oper) cs b, ops[j]? = some o → o.op ≠ .select cs b)
    (hQ : ∀ c a w, Q (.panic c) (a.put oi.dst v) w → Q (.panic c) a w) :
    ∀ (fuel : Nat) (listed : Array Bool) (a : Act) (w : World),
      (∀ j oj, ops[j]? = some oj → j ≠ i → listed.getD j true = false → (∀ e ∈ oj.after, Region.binds md e = true → e.on ≠ i) → oi.apart ops oj = true) →
      i ∈ Region.ready md ops listed → YieldsIf P ops T0 oi v a → SB b T T0 listed w →
      wpAnyG P md ops Q (SB b T T0) fuel (listed.setIfInBounds i true) (a.put oi.dst v) w → wpAnyG P md ops Q (SB b T T0) (fuel + 1) listed a w := by
  intro fuel
  induction fuel with
  | zero =>
    intro listed a w _ hr hy hS H
    refine ⟨fun h => (by rw [h] at hr; cases hr), fun j hj => ?_⟩
    by_cases hji : j = i
    · subst hji; exact hy.wpOp hi hS.2 ⟨(SB.set hib).2 hS, H⟩
    · have := ready_mono hj hji
      rw [H.1] at this
      cases this
  | succ fuel ih =>
    intro listed a w hfree hr hy hS H
    refine ⟨fun h => (by rw [h] at hr; cases hr), fun j hj => ?_⟩
    by_cases hji : j = i
    · subst hji; exact hy.wpOp hi hS.2 ⟨(SB.set hib).2 hS, H⟩
    · have h1 := H.2 j (ready_mono hj hji)
      obtain ⟨hjun, oj, hoj, hall⟩ := mem_ready.1 hj
      have hnot : ∀ e ∈ oj.after, Region.binds md e = true → e.on ≠ i := fun e he hbd heq => by
        have h1 := hall e he hbd
        have h0 := (mem_ready.1 hr).1
        rw [heq] at h1
        rcases Nat.lt_or_ge i listed.size with h' | h'
        · simp [h'] at h0 h1; rw [h0] at h1; cases h1
        · simp [Array.getElem?_eq_none h'] at h1
      have h2 := wpOp_putIf hoj (hfree j oj hoj hji hjun hnot) (fun cs b => hsel i oi cs b hi) (fun cs b => hsel j oj cs b hoj) hQ hy h1
      have hfree' : ∀ k ok, ops[k]? = some ok → k ≠ i → (listed.setIfInBounds j true).getD k true = false →
          (∀ e ∈ ok.after, Region.binds md e = true → e.on ≠ i) → oi.apart ops ok = true := fun k ok hk hki hun hno => by
        refine hfree k ok hk hki ?_ hno
        by_cases hjk : j = k
        · subst hjk; exact hjun
        · rw [getD_set_ne true hjk] at hun; exact hun
      refine wpOp_mono (fun a' w' h3 => ?_) h2
      have hSS : SB b T T0 (listed.setIfInBounds j true) w' := by
        have h4 := h3.2.1
        rw [Array.setIfInBounds_comm _ _ (Ne.symm hji)] at h4
        exact (SB.set hib).1 h4
      refine ⟨hSS, ih (listed.setIfInBounds j true) a' w' hfree' (ready_mono hr (Ne.symm hji)) h3.1 hSS ?_⟩
      rw [Array.setIfInBounds_comm _ _ hji]
      exact h3.2.2
theorem wpAnyG_takeP {i b : Nat} {oi : Oper} {v : Value} {T T0 : World → Prop} {fuel : Nat} {listed : Array Bool} {a : Act} {w : World} (hi : ops[i]? = some oi)
    (hs : Region.noSelect ops = true) (hf : Region.free md ops listed i = true) (hr : (Region.ready md ops listed).contains i = true)
    (hQ : ∀ c a w, Q (.panic c) (a.put oi.dst v) w → Q (.panic c) a w) (hne : (i != b) = true)
    (hy : YieldsIf P ops T0 oi v a) (hS : SB b T T0 listed w)
    (h : SB b T T0 (listed.setIfInBounds i true) w → wpAnyG P md ops Q (SB b T T0) fuel (listed.setIfInBounds i true) (a.put oi.dst v) w) : wpAnyG P md ops Q (SB b T T0) (fuel + 1) listed a w :=
  wpAnyG_firstP (by simpa using hne) hi (Region.noSelect_spec hs) hQ fuel listed a w (Region.free_spec hi hf) (by simpa using hr) hy hS (h ((SB.set (by simpa using hne)).2 hS))
theorem SB.on {b : Nat} {T T0 : World → Prop} {L : Array Bool} {w : World} (h1 : T w) (h2 : T0 w) : SB b T T0 L w := ⟨fun _ => h1, h2⟩
theorem SB.off {b : Nat} {T T0 : World → Prop} {L : Array Bool} {w : World} (hL : L.getD b true = true) (h : T0 w) : SB b T T0 L w := ⟨(fun h' => by rw [hL] at h'; cases h'), h⟩
end
end Go.Proofs.YtncagdfbgpdhfaaGreat
