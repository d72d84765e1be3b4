import Derived.Test.YtncagdfbgpdhfaaGreatQ30
import Derived.Test.YtncagdfbgpdhfaaGreatQ28
import Derived.Test.YtncagdfbgpdhfaaGreatQ29
/- A history of the laws of layer 11 in memory, while it is made. -/
namespace Go.Proofs.YtncagdfbgpdhfaaGreat
open Go.RowKit Go.Maps

/-- a node in memory -/
structure Nd where
  id : Int
  pa : Option Addr
  pn : Nat
  pc : Nat
  other : Bool
  ps : List Int
def Nd.told (x : Nd) : Int × List Int × Bool := (x.id, x.ps, x.other)
def ndCells : List Nd → List Value
  | [] => []
  | x :: r => .int .u64 x.id :: .slice x.pa x.pn x.pc :: .bool x.other :: ndCells r
theorem ndCells_len : ∀ l : List Nd, (ndCells l).length = l.length * 3
  | [] => rfl
  | m :: r => by simp only [ndCells, List.length_cons, ndCells_len r]; omega
theorem ndCells_one : ∀ (l : List Nd), ∀ u ∈ ndCells l, u.oneCell' = true
  | [], u, h => by cases h
  | m :: r, u, h => by
    simp only [ndCells, List.mem_cons] at h
    rcases h with rfl | rfl | rfl | h
    · rfl
    · rfl
    · rfl
    · exact ndCells_one r u h
theorem ndCells_append : ∀ (l m : List Nd), ndCells (l ++ m) = ndCells l ++ ndCells m
  | [], m => rfl
  | x :: r, m => by simp [ndCells, ndCells_append r m]
theorem ndCells_get : ∀ (l : List Nd) (j : Nat) (x : Nd), l[j]? = some x → (ndCells l)[j * 3]? = some (.int .u64 x.id) ∧ (ndCells l)[j * 3 + 1]? = some (.slice x.pa x.pn x.pc) ∧ (ndCells l)[j * 3 + 2]? = some (.bool x.other)
  | [], j, m, h => by simp at h
  | y :: r, 0, m, h => by
    simp at h; subst h
    exact ⟨rfl, rfl, rfl⟩
  | y :: r, j + 1, m, h => by
    have ih := ndCells_get r j m (by simpa using h)
    rw [show (j + 1) * 3 = j * 3 + 3 by omega]
    exact ih
theorem cells_node_new (w : World) (x : Nd) : ∀ j u, (ndCells [x])[j]? = some u → (w.alloc (.cells #[.int .u64 x.id, .slice x.pa x.pn x.pc, .bool x.other] 85)).cell? ((⟨w.heap.size, 0, none⟩ : Addr).add j) = some u := by
  intro j u hj
  have hb := World.alloc_heap_new w (.cells #[.int .u64 x.id, .slice x.pa x.pn x.pc, .bool x.other] 85)
  generalize w.alloc (.cells #[.int .u64 x.id, .slice x.pa x.pn x.pc, .bool x.other] 85) = W at hb
  rw [Addr.add_lit]
  match j, hj with
  | 0, hj => simp [ndCells] at hj; subst hj; simp [World.cell?, hb]
  | 1, hj => simp [ndCells] at hj; subst hj; simp [World.cell?, hb]
  | 2, hj => simp [ndCells] at hj; subst hj; simp [World.cell?, hb]
  | j + 3, hj => simp [ndCells] at hj
theorem infoNode : (Tryz.prog.info? 85).map (fun i => (i.zero, i.size, i.bytes)) = some (some (.agg #[.int .u64 0, .slice none 0 0, .bool false]), 3, 40) := by kernel_rfl
theorem infoBool : (Tryz.prog.info? 4).map (fun i => (i.zero, i.size, i.bytes)) = some (some (.bool false), 1, 1) := by kernel_rfl

/-- the blocks of a history of the laws -/
def BOwn (hb : Nat) (nv iv bv : Value) (X F G : Nat → Prop) : Nat → Prop := fun k => k = hb ∨ nv.ownBlock = some k ∨ iv.ownBlock = some k ∨ bv.ownBlock = some k ∨ X k ∨ F k ∨ G k
structure BI (w wr : World) (hb s d : Nat) (e0 : Int) (st : BS) (S : DG) (F G X : Nat → Prop) (nv iv bv : Value) (ns : List Nd) : Prop where
  sg : StG wr s d st.os S F G
  c0 : wr.cell? ⟨hb, 0, none⟩ = some (.pointer (some ⟨s, 0, none⟩))
  c1 : wr.cell? ⟨hb, 1, none⟩ = some nv
  c2 : wr.cell? ⟨hb, 2, none⟩ = some iv
  c3 : wr.cell? ⟨hb, 3, none⟩ = some bv
  c4 : wr.cell? ⟨hb, 4, none⟩ = some (.int .u64 e0)
  fz : ∀ j, wr.frozen? ⟨hb, j, none⟩ = false
  nr : wr.ownsRow w.heap.size 85 3 nv ns.length (ndCells ns)
  nn : ns.map Nd.told = st.nodes
  np : ∀ x ∈ ns, HI X wr x.pa x.pn x.ps ∧ x.pn ≤ x.pc
  ir : wr.ownsRow w.heap.size 31 1 iv st.ids.length (st.ids.map (Value.int .u64))
  br : wr.ownsRow w.heap.size 4 1 bv st.bare.length (st.bare.map Value.bool)
  an : ∀ g, nv.ownBlock = some g → g ≠ hb ∧ iv.ownBlock ≠ some g ∧ bv.ownBlock ≠ some g
  ai : ∀ g, iv.ownBlock = some g → g ≠ hb ∧ bv.ownBlock ≠ some g
  ab : ∀ g, bv.ownBlock = some g → g ≠ hb
  xa : ∀ k, X k → k < wr.heap.size ∧ w.heap.size ≤ k ∧ k ≠ hb ∧ nv.ownBlock ≠ some k ∧ iv.ownBlock ≠ some k ∧ bv.ownBlock ≠ some k
  hg : w.heap.size ≤ hb
  fg : ∀ k, F k ∨ G k → w.heap.size ≤ k ∧ k ≠ hb ∧ nv.ownBlock ≠ some k ∧ iv.ownBlock ≠ some k ∧ bv.ownBlock ≠ some k ∧ ¬ X k
  B : Below w.heap.size w wr
  ok : BOk st
theorem BI.olt {w wr : World} {hb s d : Nat} {e0 : Int} {st : BS} {S : DG} {F G X : Nat → Prop} {nv iv bv : Value} {ns : List Nd} (I : BI w wr hb s d e0 st S F G X nv iv bv ns) (k : Nat) (hk : BOwn hb nv iv bv X F G k) : k < wr.heap.size ∧ w.heap.size ≤ k := by
  rcases hk with rfl | hk | hk | hk | hk | hk | hk
  · exact ⟨World.block_lt_of_cell? wr _ I.c0, I.hg⟩
  · exact ⟨(I.nr.lt k hk).2, (I.nr.lt k hk).1⟩
  · exact ⟨(I.ir.lt k hk).2, (I.ir.lt k hk).1⟩
  · exact ⟨(I.br.lt k hk).2, (I.br.lt k hk).1⟩
  · exact ⟨(I.xa k hk).1, (I.xa k hk).2.1⟩
  · exact ⟨I.sg.st.lt k hk, (I.fg k (.inl hk)).1⟩
  · exact ⟨I.sg.dk.lt k hk, (I.fg k (.inr hk)).1⟩
theorem BI.turn {w wr wr' : World} {hb s d : Nat} {e0 : Int} {st : BS} {S : DG} {F G X Q : Nat → Prop} {nv iv bv : Value} {ns : List Nd} (I : BI w wr hb s d e0 st S F G X nv iv bv ns) (hT : Turn Q wr wr') (hQ : ∀ k, BOwn hb nv iv bv X F G k → ¬ Q k) (hB : Below w.heap.size w wr') : BI w wr' hb s d e0 st S F G X nv iv bv ns := by
  have hk : ∀ k, BOwn hb nv iv bv X F G k → wr'.heap[k]? = wr.heap[k]? := fun k hk => hT.block k (I.olt k hk).1 (hQ k hk)
  have kh := hk hb (.inl rfl)
  exact
  { I with
    sg := I.sg.turn hT (fun k h => hQ k (h.elim (fun h => .inr (.inr (.inr (.inr (.inr (.inl h)))))) (fun h => .inr (.inr (.inr (.inr (.inr (.inr h))))))))
    c0 := by rw [World.cell?_of_block (by exact kh)]; exact I.c0
    c1 := by rw [World.cell?_of_block (by exact kh)]; exact I.c1
    c2 := by rw [World.cell?_of_block (by exact kh)]; exact I.c2
    c3 := by rw [World.cell?_of_block (by exact kh)]; exact I.c3
    c4 := by rw [World.cell?_of_block (by exact kh)]; exact I.c4
    fz := fun j => by rw [World.frozen?_of_block (by exact kh)]; exact I.fz j
    nr := row_moved I.nr fun g hg => hk g (.inr (.inl hg))
    np := fun x hx => ⟨(I.np x hx).1.kept fun k hX => hk k (.inr (.inr (.inr (.inr (.inl hX))))), (I.np x hx).2⟩
    ir := row_moved I.ir fun g hg => hk g (.inr (.inr (.inl hg)))
    br := row_moved I.br fun g hg => hk g (.inr (.inr (.inr (.inl hg))))
    xa := fun k hX => ⟨Nat.lt_of_lt_of_le (I.xa k hX).1 hT.size, (I.xa k hX).2⟩
    B := hB }
theorem BI.below {w wr wr' : World} {hb s d : Nat} {e0 : Int} {st : BS} {S : DG} {F G X : Nat → Prop} {nv iv bv : Value} {ns : List Nd} (I : BI w wr hb s d e0 st S F G X nv iv bv ns) (hB : Below wr.heap.size wr wr') : BI w wr' hb s d e0 st S F G X nv iv bv ns :=
  I.turn (Turn.of_below (fun _ => False) hB) (fun _ _ => id) (I.B.trans (hB.mono I.B.size))
end Go.Proofs.YtncagdfbgpdhfaaGreat

/- The document's Find among nodes. -/
namespace Go.Proofs.YtncagdfbgpdhfaaGreat
open Go.RowKit Go.Maps

attribute [local go_sem] Oper.semAt_some

/-- a slice of nodes -/
def Nds (w : World) (a : Option Addr) (n : Nat) (ns : List Nd) : Prop := ns.length = n ∧ (0 < n → ∃ b off, a = some ⟨b, off, none⟩ ∧ ∀ (j : Nat) (x : Nd), ns[j]? = some x → w.cell? ⟨b, off + j * 3, none⟩ = some (.int .u64 x.id) ∧ w.cell? ⟨b, off + j * 3 + 1, none⟩ = some (.slice x.pa x.pn x.pc) ∧ w.cell? ⟨b, off + j * 3 + 2, none⟩ = some (.bool x.other))
theorem row_nds {w : World} {B n c : Nat} {ad : Option Addr} {ns : List Nd} (h : w.ownsRow B 85 3 (.slice ad n c) n (ndCells ns)) (hl : ns.length = n) : Nds w ad n ns := by
  refine ⟨hl, fun h0 => ?_⟩
  rcases h.2 with ⟨e, h'⟩ | ⟨g, cap, cur, e, _⟩
  · omega
  · cases e
    refine ⟨g, 0, rfl, fun j m hm => ?_⟩
    have hj := (List.getElem?_eq_some_iff.1 hm).1
    obtain ⟨h1, h2, h3⟩ := ndCells_get ns j m hm
    simp only [Nat.zero_add]
    refine ⟨?_, ?_, ?_⟩ <;> rw [h.cellAt _ (by omega)] <;> assumption
/-- where an id stands among nodes -/
def fiN : List Nd → Int → Int → Int
  | [], _, _ => -1
  | x :: r, i, k => if x.id = i then k else fiN r i (k + 1)
theorem fiN_drop (l : List Nd) (k : Nat) (x : Nd) (i : Int) (h : l[k]? = some x) : fiN (l.drop k) i k = if x.id = i then (k : Int) else fiN (l.drop (k + 1)) i ((k + 1 : Nat) : Int) := by
  have hk := (List.getElem?_eq_some_iff.1 h).1
  rw [List.drop_eq_getElem_cons hk]
  have : l[k] = x := (List.getElem?_eq_some_iff.1 h).2
  rw [this]
  rfl
theorem fiN_neg : ∀ (l : List Nd) (i : Int) (k : Nat), fiN l i k < 0 ↔ hasN (l.map Nd.told) i = false
  | [], i, k => by simp [fiN, hasN]
  | x :: r, i, k => by
    have ih := fiN_neg r i (k + 1)
    have e1 : fiN (x :: r) i k = if x.id = i then (k : Int) else fiN r i ((k : Int) + 1) := rfl
    have e2 : hasN ((x :: r).map Nd.told) i = ((x.id == i) || hasN (r.map Nd.told) i) := rfl
    have e3 : (((k + 1 : Nat)) : Int) = (k : Int) + 1 := by simp
    rw [e3] at ih
    rw [e1, e2]
    by_cases h : x.id = i
    · rw [if_pos h]
      simp [h]
    · rw [if_neg h, ih]
      have : (x.id == i) = false := beq_eq_false_iff_ne.2 h
      rw [this, Bool.false_or]
set_option maxRecDepth 20000 in
theorem find11_any (w : World) (a : Option Addr) (n c : Nat) (ns : List Nd) (h : Nds w a n ns) (hn : n ≤ 1000000000000) (i : Int) :
    Calls Tryz.prog 37 #[.slice a n c, .int .u64 i] w fun e w' => e = .returned (.int .i64 (fiN ns i 0)) ∧ w' = w := by
  have hll := h.1
  obtain ⟨E, hE⟩ : ∃ E, E = fiN ns i 0 := ⟨_, rfl⟩
  rw [← hE]
  go_enter Tryz.func37, Tryz.ntmps37
  go_wp2
  go_loopw [5] (fun v wr => ∃ k : Nat, k ≤ n ∧ v = .int .i64 (k : Int) ∧ Hid (E = fiN (ns.drop k) i k ∧ wr = w)) (fun v _ => n - (intOf v).toNat)
  case atStart => exact ⟨0, Nat.zero_le _, rfl, hE, rfl⟩
  case round =>
    clear hE
    obtain ⟨k, hk, rfl, H⟩ := hrel
    have hwr := H.out.2
    subst hwr
    by_cases hlt : k < n
    · obtain ⟨x, hx⟩ : ∃ x, ns[k]? = some x := ⟨_, List.getElem?_eq_getElem (by omega)⟩
      obtain ⟨b1, o1, rfl, hc1⟩ := h.2 (by omega)
      obtain ⟨q0, q1, q2⟩ := hc1 k x hx
      have HD := H.out.1.trans (fiN_drop ns k x i hx)
      have i2 : (k : Int) < (n : Int) := by omega
      have i3 : ¬ n ≤ k := by omega
      clear hc1 hx H q1 q2
      by_cases h0 : x.id = i
      · rw [if_pos h0] at HD
        rw [h0] at q0
        clear h0
        subst HD
        go_wp2
        go_ret
        exact ⟨rfl, rfl⟩
      · rw [if_neg h0] at HD
        have HE : Hid (E = fiN (ns.drop (k + 1)) i ((k + 1 : Nat) : Int)) := HD
        clear HD
        generalize x.id = xi at *
        have h0' : (xi == i) = false := beq_eq_false_iff_ne.2 h0
        go_wp2
        go_roundw
        case rel => exact ⟨k + 1, by omega, by simp, HE.out, by trivial⟩
        case measure => simp [intOf]; omega
    · obtain rfl : k = n := by omega
      have i2 : ¬ (k : Int) < (k : Int) := by omega
      have e0 : E = -1 := by rw [H.out.1, List.drop_of_length_le (by omega)]; rfl
      clear H
      subst e0
      go_wp2
      go_ret
      exact ⟨rfl, rfl⟩
end Go.Proofs.YtncagdfbgpdhfaaGreat

/- The document's Has and From: a commit gone through behind others. -/
namespace Go.Proofs.YtncagdfbgpdhfaaGreat
open Go.RowKit Go.Maps

attribute [local go_sem] Oper.semAt_some

theorem cont_drop (l : List Int) (k : Nat) (x i : Int) (h : l[k]? = some x) : (l.drop k).contains i = (x == i || (l.drop (k + 1)).contains i) := by
  have hk := (List.getElem?_eq_some_iff.1 h).1
  rw [List.drop_eq_getElem_cons hk]
  have : l[k] = x := (List.getElem?_eq_some_iff.1 h).2
  rw [this, List.contains_cons]
  congr 1
  exact Bool.beq_comm
set_option maxRecDepth 20000 in
theorem has11_any (w : World) (a : Option Addr) (n c : Nat) (l : List Int) (h : Ids w a n l) (hn : n ≤ 1000000000000) (i : Int) :
    Calls Tryz.prog 32 #[.slice a n c, .int .u64 i] w fun e w' => e = .returned (.bool (l.contains i)) ∧ w' = w := by
  have hll := h.1
  obtain ⟨E, hE⟩ : ∃ E, E = l.contains i := ⟨_, rfl⟩
  rw [← hE]
  go_enter Tryz.func32, Tryz.ntmps32
  go_wp2
  go_loopw [5] (fun v wr => ∃ k : Nat, k ≤ n ∧ v = .int .i64 (k : Int) ∧ Hid (E = (l.drop k).contains i ∧ wr = w)) (fun v _ => n - (intOf v).toNat)
  case atStart => exact ⟨0, Nat.zero_le _, rfl, hE, rfl⟩
  case round =>
    clear hE
    obtain ⟨k, hk, rfl, H⟩ := hrel
    have hwr := H.out.2
    subst hwr
    by_cases hlt : k < n
    · obtain ⟨x, hx⟩ : ∃ x, l[k]? = some x := ⟨_, List.getElem?_eq_getElem (by omega)⟩
      obtain ⟨b1, o1, rfl, hc1⟩ := h.2 (by omega)
      have q0 := hc1 k x hx
      have HD := H.out.1.trans (cont_drop l k x i hx)
      have i2 : (k : Int) < (n : Int) := by omega
      have i3 : ¬ n ≤ k := by omega
      clear hc1 hx H
      by_cases h0 : x = i
      · subst h0
        have e0 : E = true := by rw [HD, beq_self_eq_true]; rfl
        clear HD
        subst e0
        go_wp2
        go_ret
        exact ⟨rfl, rfl⟩
      · have h0' : (x == i) = false := beq_eq_false_iff_ne.2 h0
        have HE : Hid (E = (l.drop (k + 1)).contains i) := by rw [HD, h0', Bool.false_or]; exact rfl
        clear HD
        go_wp2
        go_roundw
        case rel => exact ⟨k + 1, by omega, by simp, HE.out, by trivial⟩
        case measure => simp [intOf]; omega
    · obtain rfl : k = n := by omega
      have i2 : ¬ (k : Int) < (k : Int) := by omega
      have e0 : E = false := by rw [H.out.1, List.drop_of_length_le (by omega)]; rfl
      clear H
      subst e0
      go_wp2
      go_ret
      exact ⟨rfl, rfl⟩

/-- what nodes say of an id -/
def parsN : List Nd → Int → Option (List Int)
  | [], _ => none
  | x :: r, i => if x.id = i then (if x.other then none else some x.ps) else parsN r i
def errN : List Nd → Int → Int
  | [], _ => 4
  | x :: r, i => if x.id = i then 170 else errN r i
theorem fiN_some : ∀ (l : List Nd) (i : Int) (k : Nat), ¬ fiN l i k < 0 → ∃ (j : Nat) (x : Nd), fiN l i k = ((k + j : Nat) : Int) ∧ l[j]? = some x ∧ parsN l i = (if x.other then none else some x.ps) ∧ errN l i = 170
  | [], i, k, h => by simp [fiN] at h
  | x :: r, i, k, h => by
    have e1 : fiN (x :: r) i k = if x.id = i then (k : Int) else fiN r i ((k : Int) + 1) := rfl
    by_cases hx : x.id = i
    · exact ⟨0, x, by rw [e1, if_pos hx]; rfl, rfl, by simp only [parsN, if_pos hx], by simp only [errN, if_pos hx]⟩
    · rw [e1, if_neg hx] at h
      have e3 : (((k + 1 : Nat)) : Int) = (k : Int) + 1 := by simp
      rw [← e3] at h
      obtain ⟨j, y, h1, h2, h3, h4⟩ := fiN_some r i (k + 1) h
      refine ⟨j + 1, y, ?_, by simpa using h2, by simp only [parsN, if_neg hx]; exact h3, by simp only [errN, if_neg hx]; exact h4⟩
      rw [e1, if_neg hx, ← e3, h1]
      congr 1
      omega
theorem fiN_none : ∀ (l : List Nd) (i : Int) (k : Nat), fiN l i k < 0 → parsN l i = none ∧ errN l i = 4
  | [], i, k, h => ⟨rfl, rfl⟩
  | x :: r, i, k, h => by
    have e1 : fiN (x :: r) i k = if x.id = i then (k : Int) else fiN r i ((k : Int) + 1) := rfl
    by_cases hx : x.id = i
    · rw [e1, if_pos hx] at h; omega
    · rw [e1, if_neg hx] at h
      have e3 : (((k + 1 : Nat)) : Int) = (k : Int) + 1 := by simp
      rw [← e3] at h
      have := fiN_none r i (k + 1) h
      exact ⟨by simp only [parsN, if_neg hx]; exact this.1, by simp only [errN, if_neg hx]; exact this.2⟩
theorem parsN_mem : ∀ (l : List Nd) (i : Int), (parsN l i).isSome = true → i ∈ l.map Nd.id
  | [], i, h => by simp [parsN] at h
  | x :: r, i, h => by
    by_cases hx : x.id = i
    · simp [hx]
    · simp only [parsN, if_neg hx] at h
      have := parsN_mem r i h
      simp only [List.map_cons, List.mem_cons]
      exact .inr this
/-- a state of going through: what stands in the order, what is being gone through -/
def stN (ord on : List Int) : GS := ⟨fun y => if y ∈ on then 1 else if y ∈ ord then 2 else 0, ord⟩
theorem stN_opn (ord on : List Int) (x : Int) : (stN ord on).opn x = stN ord (on ++ [x]) := by
  unfold stN GS.opn
  congr 1
  funext y
  simp only [setG, List.mem_append, List.mem_singleton]
  by_cases h1 : y = x
  · simp [h1]
  · simp [h1]
theorem stN_plc (ord on : List Int) (x : Int) (h : x ∉ on) : (stN ord (on ++ [x])).plc x = stN (ord ++ [x]) on := by
  unfold stN GS.plc
  congr 1
  funext y
  simp only [setG, List.mem_append, List.mem_singleton]
  by_cases h1 : y = x
  · subst h1; simp [h]
  · simp [h1]
end Go.Proofs.YtncagdfbgpdhfaaGreat
