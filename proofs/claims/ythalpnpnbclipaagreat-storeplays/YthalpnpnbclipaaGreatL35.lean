import Derived.Test.YthalpnpnbclipaaGreatL34
/- Puts of blobs: once, and once more. -/
namespace Go.Proofs.YthalpnpnbclipaaGreat
open Go.RowKit Go.Shelf Go.Maps

attribute [local go_sem] Oper.semAt_some

/-- what lies behind a Put that answers OK -/
def PutTwo (w w' : World) (s d : Nat) (os : List Ob) (F G : Nat → Prop) (b : List UInt8) : Prop :=
  Turn (fun k => F k ∨ G k) w w' ∧ ∃ os' S' F' G', StG w' s d os' S' F' G' ∧ findO os' (oid (.blob b)) = some (.blob b) ∧ (os' = os ∨ os' = os ++ [.blob b]) ∧ (∀ k, F' k → F k ∨ w.heap.size ≤ k) ∧ (∀ k, G' k → G k ∨ w.heap.size ≤ k)
theorem obB_blob {p : Ob} {b : List UInt8} (h : obB p = 98 :: b) : p = .blob b := by
  have hh := obB_head p
  rw [h] at hh
  cases p with
  | blob c => simp [obB] at h; rw [h]
  | tree l => simp at hh
  | com c => simp at hh
theorem sput_same (w : World) (s d : Nat) (os : List Ob) (sz : Nat) (cut : Bool) (F : Nat → Prop) (h : IsSt w s d os sz cut F) (a : Option Addr) (n c : Nat) (b : List UInt8) (hb : Bytes w a n b) (hnil : a = none → n = 0 ∧ c = 0) (hl : n ≤ 4096) (hf : findO os (oid (.blob b)) = some (.blob b)) :
    Calls Tryz.prog 11 #[.pointer (some ⟨s, 0, none⟩), .iface 65 (.agg #[.slice a n c])] w fun e w' => e = .returned (.tuple #[.int .u64 (oid (.blob b)), .int .i64 0]) ∧ Below w.heap.size w w' := by
  have hll := hb.1
  subst hll
  obtain ⟨j, b', M, u, FJ, O, h⟩ := h
  have := sput_there w s d j b' M u _ os sz cut FJ O F h _ (.blob b) (.blob b) (blob_at hb hnil hl).1 (blob_pure b hl).1 hf
  rw [if_pos rfl, if_pos rfl] at this
  exact this
theorem sput_other (w : World) (s d : Nat) (os : List Ob) (sz : Nat) (cut : Bool) (F : Nat → Prop) (h : IsSt w s d os sz cut F) (a : Option Addr) (n c : Nat) (b : List UInt8) (hb : Bytes w a n b) (hnil : a = none → n = 0 ∧ c = 0) (hl : n ≤ 4096) (p : Ob) (hf : findO os (oid (.blob b)) = some p) (hne : p ≠ .blob b) :
    Calls Tryz.prog 11 #[.pointer (some ⟨s, 0, none⟩), .iface 65 (.agg #[.slice a n c])] w fun e w' => e = .returned (.tuple #[.int .u64 0, .int .i64 7]) ∧ Below w.heap.size w w' := by
  have hll := hb.1
  subst hll
  obtain ⟨j, b', M, u, FJ, O, h⟩ := h
  have := sput_there w s d j b' M u _ os sz cut FJ O F h _ (.blob b) p (blob_at hb hnil hl).1 (blob_pure b hl).1 hf
  have hq : ¬ obB p = obB (.blob b) := fun e => hne (obB_blob e)
  rw [if_neg hq, if_neg hq] at this
  exact this
theorem sput_two (w : World) (s d : Nat) (os : List Ob) (S : DG) (F G : Nat → Prop) (h : StG w s d os S F G) (a : Option Addr) (n c : Nat) (b : List UInt8) (hb : Bytes w a n b) (hnil : a = none → n = 0 ∧ c = 0) (ha : 0 < n → ∀ x, a = some x → ¬ (F x.block ∨ G x.block)) (hl : n ≤ 4096) (hf : findO os (oid (.blob b)) = none ∨ findO os (oid (.blob b)) = some (.blob b)) (hn : os.length < 65536) (hfit : (recB (98 :: b)).length + (fileB (os.map obB)).length ≤ 4194304) :
    Calls Tryz.prog 11 #[.pointer (some ⟨s, 0, none⟩), .iface 65 (.agg #[.slice a n c])] w fun e w' => e = .returned (.tuple #[.int .u64 (oid (.blob b)), .int .i64 0]) ∧ PutTwo w w' s d os F G b := by
  rcases hf with hf | hf
  · refine (sput_blob w s d os S F G h a n c b hb hnil ha hl hf hn hfit).mono ?_
    rintro e w' ⟨he, hT, S', F', G', h1, h2, h3⟩
    refine ⟨he, hT, _, S', F', G', h1, ?_, .inr rfl, h2, h3⟩
    rw [findO_snoc os (.blob b) _ hf, if_pos rfl]
  · refine (sput_same w s d os _ _ F h.st a n c b hb hnil hl hf).mono ?_
    rintro e w' ⟨he, hB⟩
    exact ⟨he, Turn.of_below _ hB, os, S, F, G, h.below hB, hf, .inl rfl, fun k hk => .inl hk, fun k hk => .inl hk⟩
theorem sbytes_blob (w : World) (s d : Nat) (os : List Ob) (sz : Nat) (cut : Bool) (F : Nat → Prop) (h : IsSt w s d os sz cut F) (b : List UInt8) (hf : findO os (oid (.blob b)) = some (.blob b)) :
    Calls Tryz.prog 25 #[.pointer (some ⟨s, 0, none⟩), .int .u64 (oid (.blob b))] w fun e w' => ∃ ad cp, e = .returned (.tuple #[.slice ad (b.length + 1) cp, .int .i64 0]) ∧ Bytes w' ad (b.length + 1) (98 :: b) ∧ Below w.heap.size w w' :=
  sbytes_there w s d os sz cut F h _ (idOf_bounds _).1 (idOf_bounds _).2 _ hf
theorem get_blob (w : World) (s d : Nat) (os : List Ob) (sz : Nat) (cut : Bool) (F : Nat → Prop) (h : IsSt w s d os sz cut F) (b : List UInt8) (hf : findO os (oid (.blob b)) = some (.blob b)) :
    Calls Tryz.prog 14 #[.pointer (some ⟨s, 0, none⟩), .int .u64 (oid (.blob b))] w fun e w' => ∃ ad cp, e = .returned (.tuple #[.iface 65 (.agg #[.slice ad b.length cp]), .int .i64 0]) ∧ Bytes w' ad b.length b ∧ Below w.heap.size w w' := by
  refine (get_there w s d os sz cut F h _ (idOf_bounds _).1 (idOf_bounds _).2 _ hf).mono ?_
  rintro e w' ⟨u, he, hu, hB⟩
  obtain ⟨ad, cp, rfl, hy, _⟩ := hu.get.1
  exact ⟨ad, cp, he, hy, hB⟩
end Go.Proofs.YthalpnpnbclipaaGreat
