import Derived.Test.YtncagdfbgpdhfaaGreatP36
import Derived.Test.YtncagdfbgpdhfaaGreatP37
/- The histories of the laws of layer 12, plain; an object put, whether it may be or not. -/
namespace Go.Proofs.YtncagdfbgpdhfaaGreat
open Go.RowKit Go.Maps

def comC (e0 : Int) (ids : List Int) (b : BornD) : Ob := .com (e0, parsG ids b, ⟨#[]⟩, b.date, ⟨#[]⟩)
def blbP (b : BornD) (k : Nat) : Ob := .blob [byteG b.date, byteG (k : Int)]
/-- what lies in the store behind a commit, and the id that it has -/
noncomputable def finP (e0 : Int) (k : Nat) (st : St12) (b : BornD) : Option (List Ob × Int) :=
  if b.blob then (putG ((putG st.os (comC e0 st.ids b)).getD st.os) (blbP b k)).map (fun os => (os, oid (blbP b k)))
  else (putG st.os (comC e0 st.ids b)).map (fun os => (os, oid (comC e0 st.ids b)))
noncomputable def stepP (e0 : Int) (k : Nat) (st : St12) (b : BornD) : Option St12 := (finP e0 k st b).bind fun x =>
  if x.2 = 54321 then none else some ⟨x.1, st.ids ++ [x.2], if hasN st.nodes x.2 then st.nodes else st.nodes ++ [(x.2, parsG st.ids b, b.blob)]⟩
noncomputable def bornP (e0 : Int) : Nat → List BornD → St12 → Option St12
  | _, [], st => some st
  | k, b :: r, st => (stepP e0 k st b).bind (bornP e0 (k + 1) r)
theorem bornP_drop (e0 : Int) (l : List BornD) (k : Nat) (b : BornD) (st : St12) (h : l[k]? = some b) : bornP e0 k (l.drop k) st = (stepP e0 k st b).bind (bornP e0 (k + 1) (l.drop (k + 1))) := by
  have hk := (List.getElem?_eq_some_iff.1 h).1
  rw [List.drop_eq_getElem_cons hk]
  have : l[k] = b := (List.getElem?_eq_some_iff.1 h).2
  rw [this]
  rfl
noncomputable def bornQ (l : List BornD) : Option St12 := bornP emptyI 0 (l.take 20) ⟨[.tree []], [], []⟩

theorem gput_un (w : World) (s d : Nat) (os : List Ob) (S : DG) (F G : Nat → Prop) (h : StG w s d os S F G) (v : Value) (o : Ob) (hv : ∀ W, Turn (fun k => F k ∨ G k) w W → ObS o v W) (h0 : obErr o = 0) (hn : os.length ≤ 200) (hlen : ∀ p ∈ os, (obB p).length ≤ 16384) :
    Calls Tryz.prog 36 #[.pointer (some ⟨s, 0, none⟩), v] w fun e w' => Turn (fun k => F k ∨ G k) w w' ∧ ∃ S' F' G', e = .returned (.tuple #[.int .u64 (if (putG os o).isSome then oid o else 0), .int .i64 (if (putG os o).isSome then 0 else 7)]) ∧ StG w' s d ((putG os o).getD os) S' F' G' ∧ (∀ k, F' k → F k ∨ w.heap.size ≤ k) ∧ (∀ k, G' k → G k ∨ w.heap.size ≤ k) := by
  have hv0 := hv w (Turn.refl _ _)
  have hl0 := obB_len hv0.1 h0
  unfold putG
  cases hf : findO os (oid o) with
  | none =>
    have hfb := file_bound os hlen
    have hrp := (recB_pos (obB o)).2
    refine (sput_good w s d os S F G h v o hv h0 hf (by omega) (by omega)).mono ?_
    rintro e w' ⟨he, hT, S', F', G', h1, h2, h3⟩
    exact ⟨hT, S', F', G', he, h1, h2, h3⟩
  | some p =>
    have h9 := h
    obtain ⟨j, b, M, u, FJ, O, hst⟩ := h.st
    refine (sput_there w s d j b M u _ os _ false FJ O F hst v o p hv0.1 h0 hf).mono ?_
    rintro e w' ⟨he, hB⟩
    refine ⟨Turn.of_below _ hB, S, F, G, ?_, ?_, fun k hk => .inl hk, fun k hk => .inl hk⟩
    · by_cases hp : obB p = obB o
      · simp only [hp, if_true] at he ⊢
        exact he
      · simp only [hp, if_false] at he ⊢
        exact he
    · by_cases hp : obB p = obB o
      · simp only [hp, if_true]
        exact h9.below hB
      · simp only [hp, if_false]
        exact h9.below hB
/-- the objects behind a put, whether it may be or not -/
theorem putG_un {os : List Ob} {o : Ob} (hp : Pure os) (hg : ∀ p ∈ os, obErr p = 0) (hl : ∀ p ∈ os, (obB p).length ≤ 16384) (h0 : obErr o = 0) (hd : decG (obB o) = some o) (ho : (obB o).length ≤ 16384) : Pure ((putG os o).getD os) ∧ (∀ p ∈ (putG os o).getD os, obErr p = 0) ∧ (∀ p ∈ (putG os o).getD os, (obB p).length ≤ 16384) ∧ ((putG os o).getD os).length ≤ os.length + 1 := by
  cases h : putG os o with
  | none => exact ⟨hp, hg, hl, by simp⟩
  | some os' => exact putG_ok h hp hg hl h0 hd ho
theorem comC_err {ids : List Int} (hr : ∀ i ∈ ids, i ≠ 0 ∧ 0 ≤ i ∧ i ≤ 18446744073709551615) (e0 : Int) (he : e0 ≠ 0) (b : BornD) : obErr (comC e0 ids b) = 0 := by
  have h := parsG_ok hr b
  exact comG_err he (fun x hx => (h.1 x hx).1) h.2 _
theorem blbP_err (b : BornD) (k : Nat) : obErr (blbP b k) = 0 := (blob_pure [byteG b.date, byteG (k : Int)] (by simp)).1
theorem lit_bytes2 (W : World) (d e : Int) : Bytes (W.alloc (.cells #[.int .u8 (d % 256), .int .u8 (e % 256)] 5)) (some ⟨W.heap.size, 0, none⟩) 2 [byteG d, byteG e] := by
  have hb := World.alloc_heap_new W (.cells #[.int .u8 (d % 256), .int .u8 (e % 256)] 5)
  generalize W.alloc (.cells #[.int .u8 (d % 256), .int .u8 (e % 256)] 5) = W' at hb
  have e1 : ∀ d : Int, ((byteG d).toNat : Int) = d % 256 := fun d => by
    unfold byteG
    have h1 : (d % 256).toNat < 256 := by omega
    rw [UInt8.toNat_ofNat', Nat.mod_eq_of_lt (by exact h1)]
    omega
  refine ⟨rfl, fun _ => ⟨W.heap.size, 0, rfl, fun i hi => ?_⟩⟩
  match i, hi with
  | 0, _ => simp [World.cell?, hb, bt, e1]
  | 1, _ => simp [World.cell?, hb, bt, e1]

/-- a slice of commits as the laws of layer 12 are handed them -/
def Brs12 (w : World) (a : Option Addr) (n : Nat) (l : List BornD) : Prop := l.length = n ∧ (0 < n → ∃ blk off, a = some ⟨blk, off, none⟩ ∧ ∀ (j : Nat) (b : BornD), l[j]? = some b → ∃ ba bn bc, w.cell? ⟨blk, off + j * 4, none⟩ = some (.slice ba bn bc) ∧ w.cell? ⟨blk, off + j * 4 + 1, none⟩ = some (.int .i64 b.date) ∧ w.cell? ⟨blk, off + j * 4 + 2, none⟩ = some (.bool b.blob) ∧ w.cell? ⟨blk, off + j * 4 + 3, none⟩ = some (.bool b.lost) ∧ Ints w ba bn b.back ∧ bn ≤ 9223372036854775807 ∧ -9223372036854775808 ≤ b.date ∧ b.date ≤ 9223372036854775807)
/-- how born ends -/
def BOut12 (w : World) (R : Option St12) (e : Ending) (w' : World) : Prop := match R with
  | none => e = .returned (.tuple #[.pointer none, .bool false])
  | some st => ∃ hb s d S F G X nv iv ns, e = .returned (.tuple #[.pointer (some ⟨hb, 0, none⟩), .bool false]) ∧ In12 w w' hb s d st S F G X nv iv ns ∧ st.os.length ≤ 41 ∧ st.ids.length ≤ 20 ∧ st.nodes.length ≤ 20
/-- what holds ahead of each round -/
def BLp12 (w wr : World) (hb s d : Nat) (st : St12) (S : DG) (F G X : Nat → Prop) (nv iv : Value) (ns : List Nd) (k : Nat) : Prop := In12 w wr hb s d st S F G X nv iv ns ∧ st.ids.length = k ∧ st.os.length ≤ 2 * k + 1 ∧ st.nodes.length ≤ k ∧ ∀ p ∈ st.os, (obB p).length ≤ 16384
theorem in12_start {w w3 : World} {s d : Nat} {S : DG} {F G : Nat → Prop} (h : StG w3 s d [.tree []] S F G) (hk : ∀ k, F k ∨ G k → w.heap.size ≤ k) (hB : Below w.heap.size w w3) :
    In12 w (w3.alloc (.cells #[.pointer (some ⟨s, 0, none⟩), .slice none 0 0, .slice none 0 0] 38)) w3.heap.size s d ⟨[.tree []], [], []⟩ S F G (fun _ => False) (.slice none 0 0) (.slice none 0 0) [] := by
  have hbk := World.alloc_heap_new w3 (.cells #[.pointer (some ⟨s, 0, none⟩), .slice none 0 0, .slice none 0 0] 38)
  obtain ⟨h0, h1, h2⟩ := tri_cells hbk
  exact
  { sg := h.below ((Below.refl _ w3).alloc (Nat.le_refl _) _)
    c0 := h0
    c1 := h1
    c2 := h2
    fz := fun j => tri_frozen hbk j
    nr := World.ownsRow_nil _ _ _ _
    nn := rfl
    np := fun x hx => by cases hx
    ir := World.ownsRow_nil _ _ _ _
    an := fun g hg => by cases hg
    ai := fun g hg => by cases hg
    xa := fun k hk => hk.elim
    hg := hB.size
    fg := fun k hk' => ⟨hk k hk', fun e => by
      have : k < w3.heap.size := hk'.elim (h.st.lt k) (h.dk.lt k)
      omega, (fun e => by cases e), (fun e => by cases e), trivial, id⟩
    B := hB.alloc hB.size _
    ok := ⟨⟨fun o ho => by simp at ho; subst ho; exact empty_dec.1, by simp [oids]⟩, fun o ho => by simp at ho; subst ho; exact empty_err, (fun i hi => by cases hi), (fun n hn => by cases hn)⟩ }
end Go.Proofs.YtncagdfbgpdhfaaGreat
