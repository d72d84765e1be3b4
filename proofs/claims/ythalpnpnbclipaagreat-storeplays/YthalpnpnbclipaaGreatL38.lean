import Derived.Test.YthalpnpnbclipaaGreatL30
import Derived.Test.YthalpnpnbclipaaGreatL35
import Derived.Test.YthalpnpnbclipaaGreatL37
import Derived.Test.YthalpnpnbclipaaGreatL22
import Derived.Test.YthalpnpnbclipaaGreatL36
import Derived.Test.YthalpnpnbclipaaGreatL32
import Derived.Deep.RegionHeld3
/- Plain: a disk that may be cut, with a file that is a row of records and perhaps a beginning of one more: what Append and Open make of it. -/
namespace Go.Proofs.YthalpnpnbclipaaGreat
open Go.RowKit

/-- what raw writes of bytes leave: all of them, or a beginning -/
theorem pieces_any_cut : ∀ (k : Nat) (S : DG) (nm l : List UInt8), l.length + 1 ≤ k → l ≠ [] → S.n ≤ 1 → (S.f nm = none → S.n = 0) →
    (((pieces k S nm l).2 = 0 ∧ (pieces k S nm l).1.bs nm = S.bs nm ++ l) ∨ ((pieces k S nm l).2 = 6 ∧ ∃ t, t < l.length ∧ (pieces k S nm l).1.bs nm = S.bs nm ++ l.take t)) ∧
      (pieces k S nm l).1.n ≤ 1 ∧ ((pieces k S nm l).1.f nm = none → (pieces k S nm l).1.n = 0) ∧ (pieces k S nm l).1.wr ≤ S.wr + l.length ∧ (∀ x, x ≠ nm → (pieces k S nm l).1.f x = S.f x) := by
  intro k
  induction k with
  | zero => intro S nm l h; omega
  | succ k ih =>
    intro S nm l hk hl hn h0
    have hpos : 0 < l.length := List.length_pos_iff.2 hl
    have hadd : ∀ bs, (S.done.add nm bs).bs nm = S.bs nm ++ bs ∧ (S.done.add nm bs).n ≤ 1 ∧ (S.done.add nm bs).f nm ≠ none ∧ (S.done.add nm bs).wr = S.wr + 1 ∧ (∀ x, x ≠ nm → (S.done.add nm bs).f x = S.f x) := by
      intro bs
      refine ⟨?_, ?_, ?_, rfl, fun x hx => ?_⟩
      · show ((if nm = nm then some _ else _) : Option (List UInt8)).getD [] = _
        rw [if_pos rfl]; rfl
      · show (if (S.f nm).isSome then S.n else S.n + 1) ≤ 1
        cases hf : S.f nm with
        | none => rw [h0 hf]; simp
        | some _ => simpa using hn
      · show (if nm = nm then some _ else _) ≠ none
        rw [if_pos rfl]; simp
      · show (if x = nm then some _ else S.f x) = S.f x
        rw [if_neg hx]
    rw [pieces]
    by_cases hc : S.can = true
    · rw [if_pos hc]
      by_cases h32 : l.length ≤ 32
      · rw [if_pos h32]
        obtain ⟨h1, h2, h3, h4, h5⟩ := hadd l
        exact ⟨.inl ⟨rfl, h1⟩, h2, fun e => absurd e h3, by rw [h4]; omega, h5⟩
      · rw [if_neg h32]
        obtain ⟨h1, h2, h3, h4, h5⟩ := hadd (l.take 32)
        obtain ⟨hcase, g1, g2, g3, g4⟩ := ih (S.done.add nm (l.take 32)) nm (l.drop 32) (by rw [List.length_drop]; omega) (fun e => by have := congrArg List.length e; rw [List.length_drop] at this; simp at this; omega) h2 (fun e => absurd e h3)
        refine ⟨?_, g1, g2, ?_, fun x hx => (g4 x hx).trans (h5 x hx)⟩
        · rcases hcase with ⟨e, hb⟩ | ⟨e, t, ht, hb⟩
          · exact .inl ⟨e, by rw [hb, h1, List.append_assoc, List.take_append_drop]⟩
          · refine .inr ⟨e, 32 + t, by rw [List.length_drop] at ht; omega, ?_⟩
            rw [hb, h1, List.append_assoc, ← List.take_add]
        · rw [h4, List.length_drop] at g3; omega
    · rw [if_neg hc]
      exact ⟨.inr ⟨rfl, 0, hpos, by simp⟩, hn, h0, by show S.wr ≤ _; omega, fun _ _ => rfl⟩

/-- the file of that name has these records, and perhaps, where the Journal is dead, a beginning of one more -/
structure CG (S : DG) (nm : List UInt8) (ds : List (List UInt8)) (dead : Bool) : Prop where
  bs : ∃ t p, S.bs nm = fileB ds ++ (recB p).take t ∧ t < (recB p).length ∧ p.length ≤ 262144 ∧ (dead = false → t = 0)
  n : S.n ≤ 1
  n0 : S.f nm = none → S.n = 0
  all : ∀ r ∈ ds, r.length ≤ 262144
  only : ∀ x, x ≠ nm → S.f x = none

theorem CG.parse {S : DG} {nm : List UInt8} {ds : List (List UInt8)} {dead : Bool} (h : CG S nm ds dead) : parseL (S.bs nm) = (ds, (fileB ds).length, false) := by
  obtain ⟨t, p, e, h1, h2, _⟩ := h.bs
  rw [e]; exact parseL_torn ds p t h.all h2 h1

theorem CG.len {S : DG} {nm : List UInt8} {ds : List (List UInt8)} {dead : Bool} (h : CG S nm ds dead) : (fileB ds).length ≤ (S.bs nm).length ∧ (S.bs nm).length ≤ (fileB ds).length + 262162 := by
  obtain ⟨t, p, e, h1, h2, _⟩ := h.bs
  have := (recB_pos p).2
  rw [e, List.length_append, List.length_take]
  omega

theorem CG.whole {S : DG} {nm : List UInt8} {ds : List (List UInt8)} (h : CG S nm ds false) : S.bs nm = fileB ds := by
  obtain ⟨t, p, e, _, _, h3⟩ := h.bs
  rw [h3 rfl] at e
  simpa using e

theorem CG.same {S S' : DG} {nm : List UInt8} {ds : List (List UInt8)} {dead : Bool} (h : CG S nm ds dead) (hf : S'.f = S.f) (hn : S'.n = S.n) : CG S' nm ds dead := by
  have hb : S'.bs nm = S.bs nm := by unfold DG.bs; rw [hf]
  exact ⟨by rw [hb]; exact h.bs, by rw [hn]; exact h.n, by rw [hf, hn]; exact h.n0, h.all, by rw [hf]; exact h.only⟩

theorem CG.of_whole {S : DG} {nm : List UInt8} {ds : List (List UInt8)} (dead : Bool) (hb : S.bs nm = fileB ds) (hn : S.n ≤ 1) (h0 : S.f nm = none → S.n = 0) (ha : ∀ r ∈ ds, r.length ≤ 262144) (ho : ∀ x, x ≠ nm → S.f x = none) : CG S nm ds dead :=
  ⟨⟨0, [], by simp [hb], by have := (recB_pos []).1; omega, by simp, fun _ => rfl⟩, hn, h0, ha, ho⟩

theorem CG.opened {S : DG} {nm : List UInt8} {ds : List (List UInt8)} {dead : Bool} (h : CG S nm ds dead) (hc : S.cut = false) : (S.opened nm).2 = 0 ∧ CG (S.opened nm).1 nm ds false ∧ (S.opened nm).1.wr ≤ S.wr + 1 ∧ (S.opened nm).1.cut = false := by
  have hp := h.parse
  have hl := h.len
  unfold DG.opened
  rw [hp, if_neg (by simp)]
  by_cases e : (fileB ds).length < (S.bs nm).length
  · rw [if_pos e, trunc_err S nm _ (by omega) e, if_pos (by unfold DG.can; rw [hc]; rfl)]
    have hb : (S.done.set nm ((S.bs nm).take (fileB ds).length)).bs nm = fileB ds := by
      show ((if nm = nm then some _ else _) : Option (List UInt8)).getD [] = _
      rw [if_pos rfl]
      obtain ⟨t, p, e1, _⟩ := h.bs
      rw [e1]
      show (fileB ds ++ (recB p).take t).take (fileB ds).length = _
      exact List.take_left' rfl
    refine ⟨rfl, CG.of_whole false hb ?_ ?_ h.all (fun x hx => ?_), Nat.le_refl _, hc⟩
    · show (if (S.f nm).isSome then S.n else S.n + 1) ≤ 1
      cases hf : S.f nm with
      | none => rw [h.n0 hf]; simp
      | some _ => simpa using h.n
    · show (if nm = nm then some _ else _) = none → _
      rw [if_pos rfl]; simp
    · show (if x = nm then some _ else S.f x) = none
      rw [if_neg hx]; exact h.only x hx
  · rw [if_neg e]
    refine ⟨rfl, CG.of_whole false ?_ h.n h.n0 h.all h.only, by simp, hc⟩
    obtain ⟨t, p, e1, _⟩ := h.bs
    rw [e1, List.length_append] at e
    have : ((recB p).take t) = [] := List.eq_nil_of_length_eq_zero (by omega)
    rw [e1, this]; simp

theorem CG.app {S : DG} {nm : List UInt8} {ds : List (List UInt8)} (h : CG S nm ds false) (hnm : nameB nm = true) (l : List UInt8) (hl : l.length ≤ 262144) (hfit : (recB l).length + (fileB ds).length ≤ 4194304) :
    (((S.app nm (recB l)).2 = 0 ∧ CG (S.app nm (recB l)).1 nm (ds ++ [l]) false) ∨ ((S.app nm (recB l)).2 = 6 ∧ CG (S.app nm (recB l)).1 nm ds true)) ∧ (S.app nm (recB l)).1.wr ≤ S.wr + (recB l).length := by
  have hw := h.whole
  have hn := h.n
  have he : S.app nm (recB l) = pieces ((recB l).length + 1) S nm (recB l) := by
    unfold DG.app
    rw [if_neg (by rw [hnm]; decide), if_neg (by rw [hw]; intro e; rcases e with e | e <;> omega), if_neg (by simp [recB_ne])]
  rw [he]
  obtain ⟨hcase, g1, g2, g3, g4⟩ := pieces_any_cut ((recB l).length + 1) S nm (recB l) (Nat.le_refl _) (recB_ne l) hn h.n0
  refine ⟨?_, g3⟩
  rcases hcase with ⟨e, hb⟩ | ⟨e, t, ht, hb⟩
  · refine .inl ⟨e, CG.of_whole false (by rw [hb, hw, fileB_snoc]) g1 g2 (fun r hr => ?_) (fun x hx => (g4 x hx).trans (h.only x hx))⟩
    rcases List.mem_append.1 hr with hr | hr
    · exact h.all r hr
    · simp at hr; subst hr; exact hl
  · exact .inr ⟨e, ⟨t, l, by rw [hb, hw], ht, hl, by simp⟩, g1, g2, h.all, fun x hx => (g4 x hx).trans (h.only x hx)⟩

end Go.Proofs.YthalpnpnbclipaaGreat

/- A store on a disk that may be cut: Put and Open. -/
namespace Go.Proofs.YthalpnpnbclipaaGreat
open Go.RowKit Go.Shelf Go.Maps

attribute [local go_sem] Oper.semAt_some

/-- a store, and its disk, whose file has its records, and perhaps, where its journal is dead, a beginning of one more -/
structure StC (w : World) (s d : Nat) (os : List Ob) (S : DG) (F G : Nat → Prop) (dead : Bool) : Prop where
  st : IsSt w s d os (fileB (os.map obB)).length dead F
  dk : IsDisk w d S G
  dis : ∀ k, F k → ¬ G k
  cg : CG S objNm.data.toList (os.map obB) dead
  pu : Pure os
  sm : ∀ p ∈ os, (obB p).length ≤ 4097
theorem StC.turn {w w' : World} {s d : Nat} {os : List Ob} {S : DG} {F G X : Nat → Prop} {dead : Bool} (h : StC w s d os S F G dead) (hT : Turn X w w') (hX : ∀ k, F k ∨ G k → ¬ X k) : StC w' s d os S F G dead := ⟨h.st.turn hT (fun k hk => hX k (.inl hk)), h.dk.turn hT (fun k hk => hX k (.inr hk)), h.dis, h.cg, h.pu, h.sm⟩
theorem StC.below {w w' : World} {s d : Nat} {os : List Ob} {S : DG} {F G : Nat → Prop} {dead : Bool} (h : StC w s d os S F G dead) (hB : Below w.heap.size w w') : StC w' s d os S F G dead := h.turn (Turn.of_below (fun _ => False) hB) (fun _ _ => id)
theorem cfileB_le (rs : List (List UInt8)) (N : Nat) (h : ∀ r ∈ rs, r.length ≤ N) : (fileB rs).length ≤ rs.length * (N + 18) := by
  induction rs with
  | nil => simp [fileB]
  | cons r rs ih =>
    have h1 := ih (fun x hx => h x (by simp [hx]))
    have h2 := (recB_pos r).2
    have h3 := h r (by simp)
    simp only [fileB, List.map_cons, List.flatten_cons, List.length_append, List.length_cons] at h1 ⊢
    rw [Nat.add_mul]
    omega
theorem StC.fit {w : World} {s d : Nat} {os : List Ob} {S : DG} {F G : Nat → Prop} {dead : Bool} (h : StC w s d os S F G dead) (hn : os.length ≤ 100) : (fileB (os.map obB)).length ≤ 411500 := by
  have h1 := cfileB_le (os.map obB) 4097 (fun r hr => by
    obtain ⟨p, hp, rfl⟩ := List.mem_map.1 hr
    exact h.sm p hp)
  rw [List.length_map] at h1
  exact Nat.le_trans h1 (Nat.mul_le_mul hn (Nat.le_refl _))
theorem CG.free {S : DG} {nm : List UInt8} {ds : List (List UInt8)} (h : CG S nm ds false) (hnm : nameB nm = true) (hc : S.cut = false) (l : List UInt8) (hfit : (recB l).length + (fileB ds).length ≤ 4194304) : (S.app nm (recB l)).2 = 0 ∧ (S.app nm (recB l)).1.cut = false := by
  have hw := h.whole
  have hn := h.n
  have he : S.app nm (recB l) = pieces ((recB l).length + 1) S nm (recB l) := by
    unfold DG.app
    rw [if_neg (by rw [hnm]; decide), if_neg (by rw [hw]; intro e; rcases e with e | e <;> omega), if_neg (by simp [recB_ne])]
  rw [he, pieces_free _ S nm _ hc (Nat.le_refl _)]
  exact ⟨rfl, hc⟩

/-- what lies behind a Put of a blob -/
structure PutCut (w w' : World) (s d : Nat) (os os' : List Ob) (S S' : DG) (F G F' G' : Nat → Prop) (dead dead' : Bool) (b : List UInt8) (id er : Int) : Prop where
  tn : Turn (fun k => F k ∨ G k) w w'
  st : StC w' s d os' S' F' G' dead'
  hF : ∀ k, F' k → F k ∨ w.heap.size ≤ k
  hG : ∀ k, G' k → G k ∨ w.heap.size ≤ k
  wr : S'.wr ≤ S.wr + 4115
  res : (er = 0 ∧ os' = os ++ [.blob b] ∧ id = oid (.blob b)) ∨ (os' = os ∧ (er = 0 ∨ er = 6 ∨ er = 7))
  has : er = 0 → (findO os' id).isSome = true ∧ 0 ≤ id ∧ id ≤ 18446744073709551615
  free : S.cut = false → dead = false → er ≠ 6
theorem sput_cut (w : World) (s d : Nat) (os : List Ob) (S : DG) (F G : Nat → Prop) (dead : Bool) (h : StC w s d os S F G dead) (a : Option Addr) (n c : Nat) (b : List UInt8) (hb : Bytes w a n b) (hnil : a = none → n = 0 ∧ c = 0) (ha : 0 < n → ∀ x, a = some x → ¬ (F x.block ∨ G x.block)) (hl : n ≤ 4096) (hn : os.length ≤ 90) (hw : S.wr ≤ 1000000) :
    Calls Tryz.prog 11 #[.pointer (some ⟨s, 0, none⟩), .iface 65 (.agg #[.slice a n c])] w fun e w' => ∃ id er os' S' F' G' dead', e = .returned (.tuple #[.int .u64 id, .int .i64 er]) ∧ PutCut w w' s d os os' S S' F G F' G' dead dead' b id er := by
  have hlen := hb.1
  have hfit := h.fit (by omega)
  have hib := idOf_bounds (obB (.blob b))
  have hrp := (recB_pos (98 :: b)).2
  simp only [List.length_cons] at hrp
  cases hf : findO os (oid (.blob b)) with
  | some p =>
    by_cases hp : p = .blob b
    · subst hp
      refine (sput_same w s d os _ _ F h.st a n c b hb hnil hl hf).mono ?_
      rintro e w' ⟨he, hB⟩
      exact ⟨_, _, os, S, F, G, dead, he, Turn.of_below _ hB, h.below hB, fun k hk => .inl hk, fun k hk => .inl hk, by omega, .inr ⟨rfl, .inl rfl⟩, fun _ => ⟨by rw [hf]; rfl, hib.1, hib.2⟩, fun _ _ => by decide⟩
    · refine (sput_other w s d os _ _ F h.st a n c b hb hnil hl p hf hp).mono ?_
      rintro e w' ⟨he, hB⟩
      exact ⟨_, _, os, S, F, G, dead, he, Turn.of_below _ hB, h.below hB, fun k hk => .inl hk, fun k hk => .inl hk, by omega, .inr ⟨rfl, .inr (.inr rfl)⟩, fun e => absurd e (by decide), fun _ _ => by decide⟩
  | none =>
    subst hlen
    cases dead with
    | true =>
      obtain ⟨j, b', M, u, FJ, O, hst⟩ := h.st
      have hx := sput_none w s d j b' M u _ os _ true FJ O F hst _ (.blob b) (blob_at hb hnil hl).1 (blob_pure b hl).1 hf (.inr rfl)
      rw [if_neg (by omega)] at hx
      refine hx.mono ?_
      rintro e w' ⟨he, hB⟩
      exact ⟨_, _, os, S, F, G, true, he, Turn.of_below _ hB, h.below hB, fun k hk => .inl hk, fun k hk => .inl hk, by omega, .inr ⟨rfl, .inr (.inl rfl)⟩, fun e => absurd e (by decide), fun _ e => by cases e⟩
    | false =>
      have hw0 := h.cg.whole
      have hSn := h.cg.n
      obtain ⟨hcase, hwr⟩ := h.cg.app objNm_name (98 :: b) (by simp only [List.length_cons]; omega) (by omega)
      have hfree := fun hc => h.cg.free objNm_name hc (98 :: b) (by omega)
      refine (sput_new w s d os _ F h.st S G h.dk h.dis _ (.blob b) (fun W hT => blob_at (hT.bytes hb ha) hnil hl) (blob_pure b hl).1 hf (by omega) (by rw [hw0]; omega) (by rw [hw0]; exact Nat.le_refl _) (by omega) (by omega)).mono ?_
      rintro e w' ⟨he, hT, F', G', hd', hF', hG', hFG', hc⟩
      change (S.app objNm.data.toList (recB (obB (.blob b)))).2 = 0 ∧ _ ∨ _ at hcase
      rcases hcase with ⟨h0, hcg⟩ | ⟨h6, hcg⟩
      · rw [if_pos h0] at he
        rcases hc with ⟨_, hS⟩ | ⟨hne, _⟩
        · refine ⟨oid (.blob b), 0, os ++ [.blob b], _, F', G', false, by rw [he, h0], hT, ⟨?_, hd', hFG', by rw [List.map_append]; exact hcg, h.pu.snoc (blob_pure b hl).2 hf, fun p hp => ?_⟩, hF', hG', by show (S.app objNm.data.toList (recB (98 :: b))).1.wr ≤ _; omega, .inl ⟨rfl, rfl, rfl⟩, fun _ => ⟨by rw [findO_snoc os _ _ hf, if_pos rfl]; rfl, hib.1, hib.2⟩, fun _ _ => by decide⟩
          · rw [List.map_append, List.map_cons, List.map_nil, fileB_snoc, List.length_append]
            exact hS
          · rcases List.mem_append.1 hp with hp | hp
            · exact h.sm p hp
            · simp at hp; subst hp; simp only [obB, List.length_cons]; omega
        · exact absurd h0 hne
      · have h6' : (S.app objNm.data.toList (recB (obB (.blob b)))).2 = 6 := h6
        rw [if_neg (by rw [h6']; decide), h6'] at he
        rcases hc with ⟨h0, _⟩ | ⟨_, hS⟩
        · rw [h6'] at h0; cases h0
        · rw [h6'] at hS
          refine ⟨0, 6, os, _, F', G', true, he, hT, ⟨hS, hd', hFG', hcg, h.pu, h.sm⟩, hF', hG', by show (S.app objNm.data.toList (recB (98 :: b))).1.wr ≤ _; omega, .inr ⟨rfl, .inr (.inl rfl)⟩, fun e => absurd e (by decide), fun hcf _ => ?_⟩
          have := (hfree hcf).1
          rw [h6] at this
          cases this
theorem sopen_cut (w : World) (d : Nat) (os : List Ob) (S : DG) (G : Nat → Prop) (dead : Bool) (hd : IsDisk w d S G) (hg : CG S objNm.data.toList (os.map obB) dead) (hc : S.cut = false) (hp : Pure os) (hsm : ∀ p ∈ os, (obB p).length ≤ 4097) (hn : os.length ≤ 90) (hw : S.wr ≤ 1000000) :
    Calls Tryz.prog 9 #[.pointer (some ⟨d, 0, none⟩)] w fun e w' => ∃ s S' F G', e = .returned (.tuple #[.pointer (some ⟨s, 0, none⟩), .int .i64 0]) ∧ StC w' s d os S' F G' false ∧ S'.cut = false ∧ S'.wr ≤ S.wr + 1 ∧ Turn G w w' ∧ (∀ k, F k → w.heap.size ≤ k) ∧ (∀ k, G' k → G k ∨ w.heap.size ≤ k) := by
  have hSn := hg.n
  have hlen := hg.len
  have hfit : (fileB (os.map obB)).length ≤ 90 * 4115 := by
    have h1 := cfileB_le (os.map obB) 4097 (fun r hr => by
      obtain ⟨p, hp, rfl⟩ := List.mem_map.1 hr
      exact hsm p hp)
    rw [List.length_map] at h1
    exact Nat.le_trans h1 (Nat.mul_le_mul hn (Nat.le_refl _))
  refine (sopen_any w d S G hd (by omega) (by omega) (by unfold maxLen; omega)).mono ?_
  rintro e w' ⟨hT, G', hd', hG', hcs⟩
  obtain ⟨ho, hcg, hwr, hct⟩ := hg.opened hc
  rw [ho, hg.parse, hp.load] at hcs
  rcases hcs with ⟨h0, _⟩ | ⟨_, h0, _⟩ | ⟨_, os', h0, h1, _⟩ | ⟨_, os', s, F, h0, h1, he, hS, hF, hFG⟩
  · exact absurd rfl h0
  · cases h0
  · cases h0; omega
  · cases h0
    exact ⟨s, _, F, G', he, ⟨hS, hd', hFG, hcg, hp, hsm⟩, hct, hwr, hT, hF, hG'⟩
end Go.Proofs.YthalpnpnbclipaaGreat

/- A list of slices of bytes that a law itself makes, one behind the other; bytes handed in, copied. -/
namespace Go.Proofs.YthalpnpnbclipaaGreat
open Go.RowKit

/-- v is a row of slices that lead to these lists; their bytes lie below B -/
def Done (B : Nat) (w : World) (v : Value) (ds : List (List UInt8)) : Prop :=
  ∃ xs, w.ownsRow 0 36 1 v ds.length xs ∧ (∀ g, v.ownBlock = some g → B ≤ g) ∧ ∀ i, i < ds.length → ∃ x m c, xs[i]? = some (.slice x m c) ∧ Bytes w x m (rc ds i) ∧ (0 < m → ∀ y, x = some y → y.block < B)

theorem Done.nil (B : Nat) (w : World) : Done B w (.slice none 0 0) [] := ⟨[], World.ownsRow_nil _ _ _ _, by simp [Value.ownBlock], fun i hi => by simp at hi⟩

theorem Done.turn {B : Nat} {w w' : World} {v : Value} {ds : List (List UInt8)} {Q : Nat → Prop} (h : Done B w v ds) (hT : Turn Q w w') (hQ : ∀ k, Q k → B ≤ k) (hv : ∀ g, v.ownBlock = some g → ¬ Q g) : Done B w' v ds := by
  obtain ⟨xs, h1, h2, h3⟩ := h
  refine ⟨xs, ownsRow_move' h1 (fun g hg => hT.block g (h1.lt g hg).2 (hv g hg)), h2, fun i hi => ?_⟩
  obtain ⟨x, m, c, e, hb, hx⟩ := h3 i hi
  exact ⟨x, m, c, e, hT.bytes hb (fun h0 y hy hq => by have := hx h0 y hy; have := hQ _ hq; omega), hx⟩
theorem Done.below {B : Nat} {w w' : World} {v : Value} {ds : List (List UInt8)} (h : Done B w v ds) (hB : Below w.heap.size w w') : Done B w' v ds :=
  h.turn (Turn.of_below (fun _ => False) hB) (fun _ h => h.elim) (fun _ _ => id)

theorem Done.slices {B : Nat} {w : World} {a : Option Addr} {n c : Nat} {ds : List (List UInt8)} (h : Done B w (.slice a n c) ds) : Slices w a n ds ∧ n = ds.length := by
  obtain ⟨xs, h1, h2, h3⟩ := h
  rcases h1.2 with ⟨e, h0⟩ | ⟨g, cap, cur, e, _⟩
  · cases e
    exact ⟨⟨h0, fun k hk => by omega⟩, h0.symm⟩
  · cases e
    refine ⟨⟨rfl, fun k hk => ?_⟩, rfl⟩
    obtain ⟨x, m, c', e, hb, _⟩ := h3 k hk
    refine ⟨g, 0, x, m, c', rfl, ?_, hb⟩
    rw [Nat.zero_add, h1.cellAt k (by omega)]
    exact e

/-- one list more -/
theorem Done.push {B : Nat} {w w' : World} {v v' : Value} {ds : List (List UInt8)} {xs : List Value} {x : Option Addr} {m c : Nat} {l : List UInt8} (h1 : w.ownsRow 0 36 1 v ds.length xs) (h2 : ∀ g, v.ownBlock = some g → B ≤ g)
    (h3 : ∀ i, i < ds.length → ∃ x m c, xs[i]? = some (.slice x m c) ∧ Bytes w x m (rc ds i) ∧ (0 < m → ∀ y, x = some y → y.block < B))
    (hb : Bytes w x m l) (hx : 0 < m → ∀ y, x = some y → y.block < B) (hBw : B ≤ w.heap.size) (hown : w'.ownsRow 0 36 1 v' (ds.length + 1) (xs ++ [.slice x m c])) (hg : w.grownBy w' v.ownBlock) (hat : v'.ownBlock = v.ownBlock ∨ v'.ownBlock = some w.heap.size) : Done B w' v' (ds ++ [l]) := by
  have hxl : xs.length = ds.length := by have := h1.1; omega
  have keep : ∀ {y : Option Addr} {k : Nat} {q : List UInt8}, Bytes w y k q → (0 < k → ∀ z, y = some z → z.block < B) → Bytes w' y k q := fun hy hz => ⟨hy.1, fun h0 => by
    obtain ⟨b, off, e, hc⟩ := hy.2 h0
    refine ⟨b, off, e, fun i hi => hg.cell (hc i hi) (fun e' => ?_)⟩
    have h1 := hz h0 _ e
    have h4 := h2 _ e'.symm
    simp only at h1 h4
    omega⟩
  refine ⟨xs ++ [.slice x m c], by rw [List.length_append, List.length_singleton]; exact hown, fun g hg' => ?_, fun i hi => ?_⟩
  · rcases hat with e | e
    · exact h2 g (by rw [← e]; exact hg')
    · rw [e] at hg'
      have : w.heap.size = g := by simpa using hg'
      omega
  · rw [List.length_append, List.length_singleton] at hi
    by_cases e : i = ds.length
    · subst e
      exact ⟨x, m, c, by rw [← hxl, List.getElem?_append_right (Nat.le_refl _)]; simp, by rw [rc_last]; exact keep hb hx, hx⟩
    · obtain ⟨y, k, d, e1, hy, hz⟩ := h3 i (by omega)
      exact ⟨y, k, d, by rw [List.getElem?_append_left (by omega)]; exact e1, by rw [rc_snoc _ _ _ (by omega)]; exact keep hy hz, hz⟩

/-- an empty slice just made, as a row -/
theorem empty_row (w : World) : (w.alloc (.cells #[] 5)).ownsRow 0 5 1 (.slice (some ⟨w.heap.size, 0, none⟩) 0 0) 0 [] :=
  ⟨rfl, .inr ⟨w.heap.size, 0, #[], rfl, Nat.zero_le _, World.alloc_heap_new w _, Nat.le_refl _, Nat.zero_le _, rfl, rfl⟩⟩

theorem empty_row_at (w : World) (B : Nat) (hB : B = w.heap.size) : (w.alloc (.cells #[] 5)).ownsRow 0 5 1 (.slice (some ⟨B, 0, none⟩) 0 0) 0 [] := by
  subst hB; exact empty_row w

end Go.Proofs.YthalpnpnbclipaaGreat

/- What stands in the law StoreCuts while objects are put in. -/
namespace Go.Proofs.YthalpnpnbclipaaGreat
open Go.RowKit Go.Shelf Go.Maps

attribute [local go_sem] Oper.semAt_some

structure KInv (w wr : World) (s d B8 : Nat) (os : List Ob) (S : DG) (F G : Nat → Prop) (dead : Bool) (k : Nat) (ids : List Int) (v : Value) : Prop where
  st : StC wr s d os S F G dead
  q : ∀ x, F x ∨ G x → w.heap.size < x ∧ x ≠ B8
  b8 : w.heap.size < B8
  cst : Cst w wr
  len : os.length ≤ k
  wrs : S.wr ≤ k * 4115
  box : Boxed wr B8 32 v
  row : wr.ownsRow (w.heap.size + 1) 24 1 v ids.length (ids.map (Value.int .u64))
  vq : ∀ g, v.ownBlock = some g → ¬ (F g ∨ G g) ∧ g ≠ B8
theorem KInv.mono {w wr : World} {s d B8 : Nat} {os : List Ob} {S : DG} {F G : Nat → Prop} {dead : Bool} {k k' : Nat} {ids : List Int} {v : Value} (h : KInv w wr s d B8 os S F G dead k ids v) (hk : k ≤ k') : KInv w wr s d B8 os S F G dead k' ids v :=
  { h with len := Nat.le_trans h.len hk, wrs := Nat.le_trans h.wrs (Nat.mul_le_mul hk (Nat.le_refl _)) }
theorem KInv.moved {w wr w5 w6 : World} {s d B8 : Nat} {os os' : List Ob} {S S' : DG} {F G F' G' : Nat → Prop} {dead dead' : Bool} {k : Nat} {ids : List Int} {v : Value} {b : List UInt8} {id er : Int} (h : KInv w wr s d B8 os S F G dead k ids v) (hB5 : Below wr.heap.size wr w5) (P : PutCut w5 w6 s d os os' S S' F G F' G' dead dead' b id er) : KInv w w6 s d B8 os' S' F' G' dead' (k + 1) ids v := by
  have hs5 := hB5.size
  have hbx := h.box.lt
  have c5 := h.cst.below hB5
  have b5 : Boxed w5 B8 32 v := (hB5.block _ h.box.lt).trans h.box
  have r5 : w5.ownsRow (w.heap.size + 1) 24 1 v ids.length (ids.map (Value.int .u64)) := row_keep h.row hB5
  have hcl := h.cst.bel.size
  have hcl2 := h.cst.box.lt
  have hq' : ∀ x, F' x ∨ G' x → (F x ∨ G x) ∨ w5.heap.size ≤ x := fun x hx => hx.elim (fun e => (P.hF x e).imp .inl (fun e => e)) (fun e => (P.hG x e).imp .inr (fun e => e))
  refine ⟨P.st, fun x hx => ?_, h.b8, c5.turn P.tn (fun x hx => (h.q x hx).1), ?_, ?_, (P.tn.block _ b5.lt (fun e => (h.q _ e).2 rfl)).trans b5, row_moved r5 (fun g hg => P.tn.block g (row_block r5 g hg).2.1 (h.vq g hg).1), fun g hg => ⟨fun e => ?_, (h.vq g hg).2⟩⟩
  · rcases hq' x hx with e | e
    · exact h.q x e
    · omega
  · have := h.len
    rcases P.res with ⟨_, e, _⟩ | ⟨e, _⟩
    · rw [e]; simp; omega
    · rw [e]; omega
  · have := h.wrs
    have := P.wr
    rw [Nat.add_mul]; omega
  · rcases hq' g e with e | e
    · exact (h.vq g hg).1 e
    · have := (row_block h.row g hg).2.1; omega
theorem KInv.push {w wr w7 : World} {s d B8 : Nat} {os : List Ob} {S : DG} {F G : Nat → Prop} {dead : Bool} {k : Nat} {ids : List Int} {v v' : Value} {x : Int} (h : KInv w wr s d B8 os S F G dead k ids v)
    (ho : w7.ownsRow (w.heap.size + 1) 24 1 v' (ids.length + 1) (ids.map (Value.int .u64) ++ [.int .u64 x])) (hg : (wr.alloc (.cells #[.int .u64 x] 24)).grownBy w7 v.ownBlock) (hat : v'.ownBlock = v.ownBlock ∨ v'.ownBlock = some (wr.alloc (.cells #[.int .u64 x] 24)).heap.size) :
    KInv w (w7.setCell ⟨B8, 0, none⟩ v') s d B8 os S F G dead k (ids ++ [x]) v' := by
  have hbx := h.box.lt
  have hT : Turn (fun k => k = B8 ∨ v.ownBlock = some k) wr (w7.setCell ⟨B8, 0, none⟩ v') :=
    ((Turn.of_below _ ((Below.refl _ wr).alloc (Nat.le_refl _) (.cells #[.int .u64 x] 24))).trans (Turn.of_grownBy (Fp := fun k => v.ownBlock = some k) hg (fun k e => .inl e)) (fun _ _ e => .inr e)).trans (turn_setCell w7 B8 0 _) (fun _ _ e => .inl e)
  have hvB : ∀ g, v.ownBlock = some g → w.heap.size < g := fun g e => by have := (row_block h.row g e).1; omega
  have b7 : Boxed w7 B8 32 v := (h.box.alloc (.cells #[.int .u64 x] 24)).kept hg (fun e => (h.vq _ e.symm).2 rfl)
  have hv' : ∀ g, v'.ownBlock = some g → g ≠ B8 ∧ ¬ (F g ∨ G g) := fun g e => by
    rcases hat with e' | e'
    · rw [e'] at e; exact ⟨(h.vq g e).2, (h.vq g e).1⟩
    · rw [e'] at e
      simp at e
      refine ⟨by omega, fun hx => ?_⟩
      have : g < wr.heap.size := hx.elim (fun h' => h.st.st.lt g h') (fun h' => h.st.dk.lt g h')
      omega
  refine ⟨h.st.turn hT (fun k hk e => ?_), h.q, h.b8, h.cst.turn hT (fun k e => ?_), h.len, h.wrs, b7.set v', ?_, fun g hg => ⟨(hv' g hg).2, (hv' g hg).1⟩⟩
  · rcases e with e | e
    · exact (h.q k hk).2 e
    · exact (h.vq k e).1 hk
  · rcases e with e | e
    · have := h.b8; omega
    · exact hvB k e
  · rw [List.length_append, List.map_append]
    exact row_moved ho (fun g e => Below.heap_setCell _ _ _ _ (hv' g e).1)
/-- what stands while ids are held against a list: the count in box g -/
def CntI (g : Nat) (wy : World) (pre : List Int) (W : World) : Prop := Boxed W g 3 (.int .i64 (pre.length : Int)) ∧ Turn (fun k => k = g) wy W
theorem cntI_own (g : Nat) (wy : World) (hg : g < wy.heap.size) : OwnFrom wy.heap.size (CntI g wy) := by
  rintro pre X Y row ⟨h1, hT⟩ hgr hr
  exact ⟨h1.kept hgr (fun e => by have := (hr g e.symm).1; omega), ⟨hgr.os.trans hT.os, hgr.tape.trans hT.tape, hgr.output.trans hT.output, Nat.le_trans hT.size hgr.size, fun k hk hn => (hgr.block k (Nat.lt_of_lt_of_le hk hT.size) (fun e => by have := (hr k e.symm).1; omega)).trans (hT.block k hk hn)⟩⟩
theorem lit_seven (W : World) (a b c d e f g : UInt8) (fz : Nat × Nat) : Bytes (W.alloc (.cells #[.int .u8 (a.toNat : Int), .int .u8 (b.toNat : Int), .int .u8 (c.toNat : Int), .int .u8 (d.toNat : Int), .int .u8 (e.toNat : Int), .int .u8 (f.toNat : Int), .int .u8 (g.toNat : Int)] 5 fz)) (some ⟨W.heap.size, 0, none⟩) 7 [a, b, c, d, e, f, g] := by
  have hb := World.alloc_heap_new W (.cells #[.int .u8 (a.toNat : Int), .int .u8 (b.toNat : Int), .int .u8 (c.toNat : Int), .int .u8 (d.toNat : Int), .int .u8 (e.toNat : Int), .int .u8 (f.toNat : Int), .int .u8 (g.toNat : Int)] 5 fz)
  generalize W.alloc (.cells #[.int .u8 (a.toNat : Int), .int .u8 (b.toNat : Int), .int .u8 (c.toNat : Int), .int .u8 (d.toNat : Int), .int .u8 (e.toNat : Int), .int .u8 (f.toNat : Int), .int .u8 (g.toNat : Int)] 5 fz) = W' at hb
  refine ⟨rfl, fun _ => ⟨W.heap.size, 0, rfl, fun i hi => ?_⟩⟩
  match i, hi with
  | 0, _ => simp [World.cell?, hb, bt]
  | 1, _ => simp [World.cell?, hb, bt]
  | 2, _ => simp [World.cell?, hb, bt]
  | 3, _ => simp [World.cell?, hb, bt]
  | 4, _ => simp [World.cell?, hb, bt]
  | 5, _ => simp [World.cell?, hb, bt]
  | 6, _ => simp [World.cell?, hb, bt]
end Go.Proofs.YthalpnpnbclipaaGreat

/- A region that draws its order, with calls, in a round of a range over a function: it goes as it goes outside of one. Of no program; no law of the library says it. -/
namespace Go.Proofs.YthalpnpnbclipaaGreat
open Go.RowKit Go.Shelf

theorem rows_wide {n : Nat} {P : Program} {row : String} {args : Array Value} {w : World} {R : Value → World → Prop} (h : Rows P row args w R) : RowsIn Fence.wide n P row args w R := fun c cs _ => let ⟨v, w', r, s⟩ := h c cs; ⟨v, w', r, stepsIn_wide.2 s⟩
theorem upon_wide {n : Nat} {P : Program} {o : Oper} {a : Act} {next : Act → World → Prop} {Q : Exit → Act → World → Prop} {r : Result Next} (h : o.upon P a next Q r) : o.uponIn Fence.wide n P a next Q r := by
  unfold Oper.upon at h
  unfold Oper.uponIn
  split at h
  · exact h
  · exact h
  · exact h
  · exact ⟨(fun h' => by cases h'), callsIn_wide.2 h⟩
  · exact ⟨(fun h' => by cases h'), rows_wide h⟩
  · exact h
  · exact h.elim
theorem any_wide {n : Nat} {P : Program} {md : Region.Mode} {ops : Array Oper} {Q : Exit → Act → World → Prop} (hQ : ¬ LetsOut Q) : ∀ (fuel : Nat) (listed : Array Bool) (a : Act) (w : World), wpAny P md ops Q fuel listed a w → wpAnyIn Fence.wide n P md ops Q fuel listed a w
  | 0, _, _, _, h => h
  | fuel + 1, listed, a, w, h => by
    refine ⟨h.1, fun i hi => ?_⟩
    have hk := h.2 i hi
    unfold wpOp at hk
    unfold wpOpIn
    cases ho : ops[i]? with
    | none =>
      rw [ho] at hk
      exact any_wide hQ fuel _ a w hk
    | some o =>
      rw [ho] at hk
      simp only at hk ⊢
      split at hk
      · rename_i hw
        rw [if_pos hw]
        refine Oper.wpIn_mono (fun a w => any_wide hQ fuel _ a w) ⟨fun _ _ => trivial, ?_⟩
        have : Fence.wide.round = none := rfl
        rw [this, Oper.semAt_none]
        exact upon_wide (hk.resolve_right (fun h => hQ h.2))
      · rename_i hw
        rw [if_neg hw]
        exact ⟨fun _ _ => trivial, any_wide hQ fuel _ _ w hk⟩
theorem region_held_round {n : Nat} {P : Program} {id : Nat} {l : List Oper} {Q : Exit → Act → World → Prop} {S : World → Prop} {a : Act} {w : World} {r : Nat} (hm : P.follows .mixedOrders = true) (hd : l.all noDefer = true) (hQ : ¬ LetsOut Q) (hS : S w.drew)
    (h : S w.drew → wpAnyH P .any l.toArray Q S l.toArray.size (Array.replicate l.toArray.size false) a w.drew) : (Code.region id l.toArray true).wpIn (Fence.wide.inRound r) n P Q a w := by
  refine wpIn_region_any hm (any_round r rfl (fun i o ho => ?_) _ _ _ _ (any_wide hQ _ _ _ _ (wpAny_of_held _ _ _ _ (h hS))))
  rw [List.all_eq_true] at hd
  refine hd o ?_
  have : l[i]? = some o := by simpa using ho
  exact List.mem_of_getElem? this
end Go.Proofs.YthalpnpnbclipaaGreat
