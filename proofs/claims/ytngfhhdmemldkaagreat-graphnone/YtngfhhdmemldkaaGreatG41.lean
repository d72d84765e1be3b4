import Derived.Test.YtngfhhdmemldkaaGreatG36
import Derived.Test.YtngfhhdmemldkaaGreatG40
/- What becomes of a store into which an object is put that may be there; the empty tree. -/
namespace Go.Proofs.YtngfhhdmemldkaaGreat
open Go.RowKit Go.Shelf Go.Maps

attribute [local go_sem] Oper.semAt_some

theorem file_bound (os : List Ob) (h : ∀ o ∈ os, (obB o).length ≤ 16384) : (fileB (os.map obB)).length ≤ os.length * 16402 := by
  induction os with
  | nil => simp [fileB]
  | cons o os ih =>
    have h1 := ih (fun p hp => h p (by simp [hp]))
    have h2 := h o (by simp)
    have h3 := (recB_pos (obB o)).2
    have e : (fileB ((o :: os).map obB)).length = (recB (obB o)).length + (fileB (os.map obB)).length := by simp [fileB]
    rw [e, List.length_cons, Nat.add_mul]
    omega
/-- how Put ends -/
def POut (w : World) (s d : Nat) (F G : Nat → Prop) (o : Ob) (R : Option (List Ob)) (e : Ending) (w' : World) : Prop := match R with
  | none => e = .returned (.tuple #[.int .u64 0, .int .i64 7])
  | some os' => e = .returned (.tuple #[.int .u64 (oid o), .int .i64 0]) ∧ ∃ S' F' G', StG w' s d os' S' F' G' ∧ (∀ k, F' k → F k ∨ w.heap.size ≤ k) ∧ (∀ k, G' k → G k ∨ w.heap.size ≤ k)
theorem gput_any (w : World) (s d : Nat) (os : List Ob) (S : DG) (F G : Nat → Prop) (h : StG w s d os S F G) (v : Value) (o : Ob) (hv : ∀ W, Turn (fun k => F k ∨ G k) w W → ObS o v W) (h0 : obErr o = 0) (hn : os.length ≤ 200) (hlen : ∀ p ∈ os, (obB p).length ≤ 16384) :
    Calls Tryz.prog 31 #[.pointer (some ⟨s, 0, none⟩), v] w fun e w' => Turn (fun k => F k ∨ G k) w w' ∧ POut w s d F G o (putG os o) e w' := by
  have hv0 := hv w (Turn.refl _ _)
  have hl0 := obB_len hv0.1 h0
  unfold putG
  cases hf : findO os (oid o) with
  | none =>
    have hfb := file_bound os hlen
    have hrp := (recB_pos (obB o)).2
    refine (sput_good w s d os S F G h v o hv h0 hf (by omega) (by omega)).mono ?_
    rintro e w' ⟨he, hT, S', F', G', h1, h2, h3⟩
    exact ⟨hT, he, S', F', G', h1, h2, h3⟩
  | some p =>
    have h9 := h
    obtain ⟨j, b, M, u, FJ, O, hst⟩ := h.st
    refine (sput_there w s d j b M u _ os _ false FJ O F hst v o p hv0.1 h0 hf).mono ?_
    rintro e w' ⟨he, hB⟩
    refine ⟨Turn.of_below _ hB, ?_⟩
    by_cases hp : obB p = obB o
    · simp only [hp, if_true] at he ⊢
      exact ⟨he, S, F, G, h9.below hB, fun k hk => .inl hk, fun k hk => .inl hk⟩
    · simp only [hp, if_false] at he ⊢
      exact he
theorem empty_ob (W : World) : ObS (.tree []) (.iface 112 (.agg #[.slice none 0 0])) W := ⟨⟨none, 0, rfl, ⟨rfl, fun h => absurd h (by simp)⟩, ⟨fun j x hx => by simp at hx, fun j x hx => by simp at hx⟩, by simp⟩, fun ad cp e _ => by cases e; exact ⟨rfl, rfl⟩⟩
theorem empty_err : obErr (.tree []) = 0 := by decide
theorem empty_any (w : World) (s d : Nat) (S : DG) (F G : Nat → Prop) (h : StG w s d [] S F G) :
    Calls Tryz.prog 30 #[.pointer (some ⟨s, 0, none⟩)] w fun e w' => e = .returned (.tuple #[.int .u64 emptyI, .int .i64 0]) ∧ Turn (fun k => F k ∨ G k) w w' ∧ ∃ S' F' G', StG w' s d [.tree []] S' F' G' ∧ (∀ k, F' k → F k ∨ w.heap.size ≤ k) ∧ (∀ k, G' k → G k ∨ w.heap.size ≤ k) := by
  have hx : Calls Tryz.prog 31 #[.pointer (some ⟨s, 0, none⟩), .iface 112 (.agg #[.slice none 0 0])] w fun e w' => e = .returned (.tuple #[.int .u64 emptyI, .int .i64 0]) ∧ Turn (fun k => F k ∨ G k) w w' ∧ ∃ S' F' G', StG w' s d [.tree []] S' F' G' ∧ (∀ k, F' k → F k ∨ w.heap.size ≤ k) ∧ (∀ k, G' k → G k ∨ w.heap.size ≤ k) :=
    (gput_any w s d [] S F G h _ (.tree []) (fun W _ => empty_ob W) empty_err (by simp) (by simp)).mono fun e w' hx => ⟨hx.2.1, hx.1, hx.2.2⟩
  generalize emptyI = E at *
  go_enter Tryz.func30, Tryz.ntmps30
  go_wp2_with (go_at_call 31; refine hx.mono ?_; clear hx; rintro e w1 ⟨rfl, hR⟩; have HR : Hid (Turn (fun k => F k ∨ G k) w w1 ∧ ∃ S' F' G', StG w1 s d [.tree []] S' F' G' ∧ (∀ k, F' k → F k ∨ w.heap.size ≤ k) ∧ (∀ k, G' k → G k ∨ w.heap.size ≤ k)) := hR; clear hR)
  go_ret2
  exact ⟨rfl, HR.out⟩
end Go.Proofs.YtngfhhdmemldkaaGreat

/- What stands within a round of born: the commit as it was handed in, and the commit that is made of it. -/
namespace Go.Proofs.YtngfhhdmemldkaaGreat
open Go.RowKit Go.Maps

structure BR (w : World) (hb s d : Nat) (e0 : Int) (st : BS) (S : DG) (F G X : Nat → Prop) (nv iv bv : Value) (ns : List Nd) (B8 B9 : Nat) (ba : Option Addr) (bn bc : Nat) (b : BornD) (wx : World) (tv : Int) (pv : Value) (ps : List Int) : Prop where
  I : BI w wx hb s d e0 st S F G X nv iv bv ns
  b8 : wx.heap[B8]? = some (.cells #[.slice ba bn bc, .int .i64 b.date, .bool b.blob, .bool b.lost, .bool b.bare] 64)
  b9 : wx.heap[B9]? = some (.cells #[.int .u64 tv, pv, .string ⟨#[]⟩, .int .i64 b.date, .string ⟨#[]⟩] 58)
  row : wx.ownsRow w.heap.size 37 1 pv ps.length (ps.map (Value.int .u64))
  n8 : ¬ BOwn hb nv iv bv X F G B8
  n9 : ¬ BOwn hb nv iv bv X F G B9
  n89 : B8 ≠ B9
  pn : ∀ g, pv.ownBlock = some g → ¬ BOwn hb nv iv bv X F G g ∧ g ≠ B8 ∧ g ≠ B9
  g8 : w.heap.size ≤ B8
  g9 : w.heap.size ≤ B9
theorem five_cells {W : World} {n : Nat} {a b c d e : Value} {t : TypeId} (h : W.heap[n]? = some (.cells #[a, b, c, d, e] t)) : W.cell? ⟨n, 0, none⟩ = some a ∧ W.cell? ⟨n, 1, none⟩ = some b ∧ W.cell? ⟨n, 2, none⟩ = some c ∧ W.cell? ⟨n, 3, none⟩ = some d ∧ W.cell? ⟨n, 4, none⟩ = some e := by
  simp [World.cell?, h]
theorem five_frozen {W : World} {n : Nat} {a b c d e : Value} {t : TypeId} (h : W.heap[n]? = some (.cells #[a, b, c, d, e] t)) (j : Nat) : W.frozen? ⟨n, j, none⟩ = false := by
  simp [World.frozen?, h]
theorem lt_of_block {W : World} {n : Nat} {o : Obj} (h : W.heap[n]? = some o) : n < W.heap.size := (Array.getElem?_eq_some_iff.1 h).1
theorem BR.new {w wr : World} {hb s d : Nat} {e0 : Int} {st : BS} {S : DG} {F G X : Nat → Prop} {nv iv bv : Value} {ns : List Nd} (I : BI w wr hb s d e0 st S F G X nv iv bv ns) (ba : Option Addr) (bn bc : Nat) (b : BornD) (tv : Int) :
    BR w hb s d e0 st S F G X nv iv bv ns wr.heap.size (wr.heap.size + 1) ba bn bc b ((wr.alloc (.cells #[.slice ba bn bc, .int .i64 b.date, .bool b.blob, .bool b.lost, .bool b.bare] 64)).alloc (.cells #[.int .u64 tv, .slice none 0 0, .string ⟨#[]⟩, .int .i64 b.date, .string ⟨#[]⟩] 58)) tv (.slice none 0 0) [] := by
  have hB := I.B.size
  exact
  { I := I.below (((Below.refl _ wr).alloc (Nat.le_refl _) _).alloc (by simp) _)
    b8 := by rw [Below.heap_alloc _ _ _ (by simp)]; exact World.alloc_heap_new _ _
    b9 := by
      have := World.alloc_heap_new (wr.alloc (.cells #[.slice ba bn bc, .int .i64 b.date, .bool b.blob, .bool b.lost, .bool b.bare] 64)) (.cells #[.int .u64 tv, .slice none 0 0, .string ⟨#[]⟩, .int .i64 b.date, .string ⟨#[]⟩] 58)
      rw [World.size_alloc] at this
      exact this
    row := World.ownsRow_nil _ _ _ _
    n8 := fun h => by have := (I.olt _ h).1; omega
    n9 := fun h => by have := (I.olt _ h).1; omega
    n89 := by omega
    pn := fun g hg => by cases hg
    g8 := hB
    g9 := by omega }
/-- a parent more -/
theorem BR.app {w : World} {hb s d : Nat} {e0 : Int} {st : BS} {S : DG} {F G X : Nat → Prop} {nv iv bv : Value} {ns : List Nd} {B8 B9 : Nat} {ba : Option Addr} {bn bc : Nat} {b : BornD} {wx : World} {tv : Int} {pv : Value} {ps : List Int} (R : BR w hb s d e0 st S F G X nv iv bv ns B8 B9 ba bn bc b wx tv pv ps) (x : Int) {w3 : World} (v' : Value)
    (hrow : w3.ownsRow w.heap.size 37 1 v' (ps.length + 1) (ps.map (Value.int .u64) ++ [.int .u64 x])) (hT : Turn (fun k => pv.ownBlock = some k) wx w3) (hv : ∀ g, v'.ownBlock = some g → pv.ownBlock = some g ∨ wx.heap.size ≤ g) :
    BR w hb s d e0 st S F G X nv iv bv ns B8 B9 ba bn bc b (w3.setCell ⟨B9, 1, none⟩ v') tv v' (ps ++ [x]) := by
  have h8 := lt_of_block R.b8
  have h9 := lt_of_block R.b9
  have k9 : w3.heap[B9]? = wx.heap[B9]? := hT.block B9 h9 (fun e => (R.pn B9 e).2.2 rfl)
  have hset : ∀ k, k ≠ B9 → (w3.setCell ⟨B9, 1, none⟩ v').heap[k]? = w3.heap[k]? := fun k hk => Below.heap_setCell _ _ _ _ (by exact hk)
  have hTw : Turn (fun k => pv.ownBlock = some k ∨ k = B9) wx (w3.setCell ⟨B9, 1, none⟩ v') := ⟨hT.os, hT.tape, hT.output, by rw [World.size_setCell]; exact hT.size, fun k hk hn => (hset k (fun e => hn (.inr e))).trans (hT.block k hk (fun e => hn (.inl e)))⟩
  have hBw : Below w.heap.size w (w3.setCell ⟨B9, 1, none⟩ v') := R.I.B.trans (hTw.below R.I.B.size (fun k hk => by
    rcases hk with h | h
    · exact (R.row.lt k h).1
    · rw [h]; exact R.g9))
  exact
  { I := R.I.turn hTw (fun k hk h => by
      rcases h with h | h
      · exact (R.pn k h).1 hk
      · rw [h] at hk; exact R.n9 hk) hBw
    b8 := by rw [hset B8 R.n89, hT.block B8 h8 (fun e => (R.pn B8 e).2.1 rfl)]; exact R.b8
    b9 := by
      have h1 := k9.trans R.b9
      exact heap_setCell_same w3 B9 1 #[.int .u64 tv, pv, .string ⟨#[]⟩, .int .i64 b.date, .string ⟨#[]⟩] 58 v' h1
    row := by
      have e : (ps ++ [x]).length = ps.length + 1 := by simp
      rw [e, List.map_append]
      refine row_moved hrow fun g hg => hset g (fun e => ?_)
      rcases hv g hg with h | h
      · exact (R.pn g h).2.2 e
      · omega
    n8 := R.n8
    n9 := R.n9
    n89 := R.n89
    pn := fun g hg => by
      rcases hv g hg with h | h
      · exact R.pn g h
      · exact ⟨fun h' => by have := (R.I.olt g h').1; omega, by omega, by omega⟩
    g8 := R.g8
    g9 := R.g9 }
/-- another tree -/
theorem BR.tree {w : World} {hb s d : Nat} {e0 : Int} {st : BS} {S : DG} {F G X : Nat → Prop} {nv iv bv : Value} {ns : List Nd} {B8 B9 : Nat} {ba : Option Addr} {bn bc : Nat} {b : BornD} {wx : World} {tv : Int} {pv : Value} {ps : List Int} (R : BR w hb s d e0 st S F G X nv iv bv ns B8 B9 ba bn bc b wx tv pv ps) (t : Int) :
    BR w hb s d e0 st S F G X nv iv bv ns B8 B9 ba bn bc b (wx.setCell ⟨B9, 0, none⟩ (.int .u64 t)) t pv ps := by
  have h8 := lt_of_block R.b8
  have hset : ∀ k, k ≠ B9 → (wx.setCell ⟨B9, 0, none⟩ (.int .u64 t)).heap[k]? = wx.heap[k]? := fun k hk => Below.heap_setCell _ _ _ _ (by exact hk)
  have hTw : Turn (fun k => k = B9) wx (wx.setCell ⟨B9, 0, none⟩ (.int .u64 t)) := ⟨rfl, rfl, rfl, by rw [World.size_setCell]; exact Nat.le_refl _, fun k _ hn => hset k hn⟩
  exact
  { R with
    I := R.I.turn hTw (fun k hk h => R.n9 (h ▸ hk)) (R.I.B.trans (hTw.below R.I.B.size (fun k hk => by rw [hk]; exact R.g9)))
    b8 := by rw [hset B8 R.n89]; exact R.b8
    b9 := heap_setCell_same wx B9 0 #[.int .u64 tv, pv, .string ⟨#[]⟩, .int .i64 b.date, .string ⟨#[]⟩] 58 (.int .u64 t) R.b9
    row := row_moved R.row fun g hg => hset g (R.pn g hg).2.2 }
theorem BR.below {w : World} {hb s d : Nat} {e0 : Int} {st : BS} {S : DG} {F G X : Nat → Prop} {nv iv bv : Value} {ns : List Nd} {B8 B9 : Nat} {ba : Option Addr} {bn bc : Nat} {b : BornD} {wx w' : World} {tv : Int} {pv : Value} {ps : List Int} (R : BR w hb s d e0 st S F G X nv iv bv ns B8 B9 ba bn bc b wx tv pv ps) (hB : Below wx.heap.size wx w') :
    BR w hb s d e0 st S F G X nv iv bv ns B8 B9 ba bn bc b w' tv pv ps :=
  { R with
    I := R.I.below hB
    b8 := (hB.block _ (lt_of_block R.b8)).trans R.b8
    b9 := (hB.block _ (lt_of_block R.b9)).trans R.b9
    row := row_moved R.row fun g hg => hB.block g (R.row.lt g hg).2 }
end Go.Proofs.YtngfhhdmemldkaaGreat
