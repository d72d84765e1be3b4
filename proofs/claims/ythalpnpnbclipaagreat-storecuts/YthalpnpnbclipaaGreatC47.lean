import Derived.Test.YthalpnpnbclipaaGreatC46
import Derived.Lib.SlBytesConst
import Derived.Test.YthalpnpnbclipaaGreatC39
/- The walk of the law's wakes. -/
namespace Go.Proofs.YthalpnpnbclipaaGreat
open Go.RowKit Go.Shelf Go.Maps

attribute [local go_sem] Oper.semAt_some

/-- a blob of bytes that lie in memory -/
theorem blob_at {W : World} {a : Option Addr} {b : List UInt8} {c : Nat} (hb : Bytes W a b.length b) (hnil : a = none → b.length = 0 ∧ c = 0) (hl : b.length ≤ 4096) : ObS (.blob b) (.iface 65 (.agg #[.slice a b.length c])) W :=
  ⟨⟨a, c, rfl, hb, hnil, by omega⟩, trivial⟩
theorem snew_any (w : World) : Calls Tryz.prog 8 #[] w fun e w' => e = .returned (.pointer (some ⟨w.heap.size + 1, 0, none⟩)) ∧ ∃ G, IsDisk w' (w.heap.size + 1) ⟨fun _ => none, 0, 0, false, 0⟩ G ∧ (∀ k, G k → w.heap.size ≤ k) ∧ Below w.heap.size w w' := by
  refine (new_any w).mono ?_
  rintro e w' ⟨he, hd, hB⟩
  exact ⟨he, _, hd, fun k hk => by rcases hk with h | h <;> omega, hB⟩
theorem lit_two (W : World) (x y : UInt8) (fz : Nat × Nat) : Bytes (W.alloc (.cells #[.int .u8 (x.toNat : Int), .int .u8 (y.toNat : Int)] 5 fz)) (some ⟨W.heap.size, 0, none⟩) 2 [x, y] := by
  have hb := World.alloc_heap_new W (.cells #[.int .u8 (x.toNat : Int), .int .u8 (y.toNat : Int)] 5 fz)
  generalize W.alloc (.cells #[.int .u8 (x.toNat : Int), .int .u8 (y.toNat : Int)] 5 fz) = W' at hb
  refine ⟨rfl, fun _ => ⟨W.heap.size, 0, rfl, fun i hi => ?_⟩⟩
  match i, hi with
  | 0, _ => simp [World.cell?, hb, bt]
  | 1, _ => simp [World.cell?, hb, bt]
theorem findO_one (o : Ob) : findO [o] (oid o) = some o := by simp [findO]
theorem sput_blob (w : World) (s d : Nat) (os : List Ob) (S : DG) (F G : Nat → Prop) (h : StG w s d os S F G) (a : Option Addr) (n c : Nat) (b : List UInt8) (hb : Bytes w a n b) (hnil : a = none → n = 0 ∧ c = 0) (ha : 0 < n → ∀ x, a = some x → ¬ (F x.block ∨ G x.block)) (hl : n ≤ 4096) (hf : findO os (oid (.blob b)) = none) (hn : os.length < 65536) (hfit : (recB (98 :: b)).length + (fileB (os.map obB)).length ≤ 4194304) :
    Calls Tryz.prog 11 #[.pointer (some ⟨s, 0, none⟩), .iface 65 (.agg #[.slice a n c])] w fun e w' => e = .returned (.tuple #[.int .u64 (oid (.blob b)), .int .i64 0]) ∧ Turn (fun k => F k ∨ G k) w w' ∧ ∃ S' F' G', StG w' s d (os ++ [.blob b]) S' F' G' ∧ (∀ k, F' k → F k ∨ w.heap.size ≤ k) ∧ (∀ k, G' k → G k ∨ w.heap.size ≤ k) := by
  have hll := hb.1
  subst hll
  exact sput_good w s d os S F G h _ (.blob b) (fun W hT => blob_at (hT.bytes hb ha) hnil hl) (blob_pure b hl).1 hf hn hfit
set_option maxRecDepth 20000 in
set_option maxHeartbeats 2000000 in
theorem swakes_any (w : World) : Calls Tryz.prog 7 #[] w fun e w' => e = .returned (.bool true) ∧ Below w.heap.size w w' := by
  have kc := fun (w : World) (C : Array Value) (n c : Nat) => Lib.run_convert_bytes_const (P := Tryz.prog) w 36 5 C n c Tryz.underlying36 Tryz.underlying5
  have hn := snew_any w
  have hop := fun W d S G hd hg => sopen_good W d [] S G hd hg Pure.nil (by simp [fileB]) (by simp)
  obtain ⟨o, ho⟩ : ∃ o, o = Ob.blob [97, 98] := ⟨_, rfl⟩
  have HO : Hid (o = .blob [97, 98]) := ho
  have HP : Hid (∀ (w2 : World) (s d : Nat) (F G : Nat → Prop) (S : DG), StG w2 s d [] S F G → Calls Tryz.prog 11 #[.pointer (some ⟨s, 0, none⟩), .iface 65 (.agg #[.slice (some ⟨w2.heap.size, 0, none⟩) 2 2])] (w2.alloc (.cells #[.int .u8 97, .int .u8 98] 5 (2, 3))) fun e w' => e = .returned (.tuple #[.int .u64 (oid o), .int .i64 0]) ∧ Turn (fun k => F k ∨ G k) (w2.alloc (.cells #[.int .u8 97, .int .u8 98] 5 (2, 3))) w' ∧ ∃ S' F' G', StG w' s d [o] S' F' G' ∧ (∀ k, F' k → F k ∨ w2.heap.size ≤ k) ∧ (∀ k, G' k → G k ∨ w2.heap.size ≤ k)) := by
    intro w2 s d F G S hS
    rw [ho]
    have hx := sput_blob (w2.alloc (.cells #[.int .u8 97, .int .u8 98] 5 (2, 3))) s d [] S F G (hS.below ((Below.refl _ _).alloc (Nat.le_refl _) _)) (some ⟨w2.heap.size, 0, none⟩) 2 2 [97, 98] (lit_two w2 97 98 (2, 3)) (fun h => by cases h) (fun _ x hx hk => by
      cases hx
      rcases hk with hk | hk
      · have := hS.st.lt _ hk; simp only at this; omega
      · have := hS.dk.lt _ hk; simp only at this; omega) (by omega) rfl (by simp) (by have := (recB_pos [98, 97, 98]).2; simp [fileB] at this ⊢; omega)
    refine hx.mono ?_
    rintro e w' ⟨he, hT, S', F', G', h1, h2, h3⟩
    rw [World.size_alloc] at h2 h3
    exact ⟨he, hT, S', F', G', h1, fun k hk => (h2 k hk).imp id (fun h => by omega), fun k hk => (h3 k hk).imp id (fun h => by omega)⟩
  have hb0 := (idOf_bounds (obB o)).1
  have hb1 := (idOf_bounds (obB o)).2
  have hfo := findO_one o
  have hib : isBlob o = true := by rw [ho]; rfl
  have hit : isTree o = false := by rw [ho]; rfl
  change 0 ≤ oid o at hb0
  change oid o ≤ _ at hb1
  clear ho
  generalize hI : oid o = I at *
  have HF : Hid (findO [o] I = some o) := hfo
  have HBd : Hid (0 ≤ I ∧ I ≤ 18446744073709551615 ∧ isBlob o = true ∧ isTree o = false) := ⟨hb0, hb1, hib, hit⟩
  clear hI hfo hb0 hb1 hib hit
  go_enter Tryz.func7, Tryz.ntmps7
  go_wp2_with first
    | (go_at_call 8; refine hn.mono ?_; clear hn; rintro e w1 ⟨rfl, G, hd, hG, hB1⟩; have HD : Hid (IsDisk w1 (w.heap.size + 1) ⟨fun _ => none, 0, 0, false, 0⟩ G ∧ ∀ k, G k → w.heap.size ≤ k) := ⟨hd, hG⟩; clear hd hG)
    | (go_at_call 9; refine (hop _ _ _ _ HD.out.1 (JGd.new _)).mono ?_; clear hop; rintro e w2 ⟨s, F, G2, rfl, hS, hT2, hF2, hG2⟩; have hs1 := hB1.size; have B2 : Hid (Below w.heap.size w w2) := hB1.trans (hT2.below hB1.size HD.out.2); have H2 : Hid (StG w2 s (w.heap.size + 1) [] ⟨fun _ => none, 0, 0, false, 0⟩ F G2 ∧ (∀ k, F k ∨ G2 k → w.heap.size ≤ k)) := ⟨hS, fun k hk => hk.elim (fun h => by have := hF2 k h; omega) (fun h => (hG2 k h).elim (HD.out.2 k) (fun h => by omega))⟩; clear hS hT2 hF2 hG2 HD)
    | (go_at_call 11; refine (HP.out _ _ _ _ _ _ H2.out.1).mono ?_; clear HP; rintro e w3 ⟨rfl, hT3, S3, F3, G3, hS3, hF3, hG3⟩; have hs2 := B2.out.size; have hB23 : Below w.heap.size w (w2.alloc (.cells #[.int .u8 97, .int .u8 98] 5 (2, 3))) := B2.out.alloc B2.out.size _; have B3 : Hid (Below w.heap.size w w3) := hB23.trans (hT3.below hB23.size H2.out.2); have H3 : Hid (IsSt w3 s (w.heap.size + 1) [o] (fileB ([o].map obB)).length false F3) := hS3.st; clear hS3 hT3 hF3 hG3 hB23 H2)
    | (go_at_call 22; refine (sblob_yes _ s _ [o] _ _ F3 H3.out I HBd.out.1 HBd.out.2.1 o HF.out HBd.out.2.2.1).mono ?_; rintro e w4 ⟨ba, bn, bc, rfl, hO4, hB4⟩; rw [HO.out] at hO4; obtain ⟨ad4, cp4, hv4, hy4, hn4, hl4⟩ := hO4.1; cases hv4; have B4 : Hid (Below w.heap.size w w4) := B3.out.trans (hB4.mono B3.out.size); have H4 : Hid (IsSt w4 s (w.heap.size + 1) [o] (fileB ([o].map obB)).length false F3) := H3.out.below hB4; have HY4 : Hid (Bytes w4 ba 2 [97, 98]) := hy4; clear hO4 hB4 hy4 hl4 hn4 H3)
    | (go_at_call 23; refine (stree_no _ s _ [o] _ _ F3 (H4.out.below ((Below.refl _ _).alloc (Nat.le_refl _) _)) I HBd.out.1 HBd.out.2.1 o HF.out HBd.out.2.2.2).mono ?_; rintro e w5 ⟨ta, tn, tc, rfl, hB5⟩; have hB45 : Below w4.heap.size w4 w5 := ((Below.refl _ w4).alloc (Nat.le_refl _) (.cells #[.slice ba 2 bc] 65)).trans (hB5.mono (by simp)); have hB46 : Below w4.heap.size w4 (w5.alloc (.cells #[.slice ta tn tc] 69)) := hB45.alloc hB45.size _; have hb5 : Boxed w5 w4.heap.size 65 (.slice ba 2 bc) := (hB5.block w4.heap.size (by simp)).trans (World.alloc_heap_new _ _); have cb := (hb5.alloc (.cells #[.slice ta tn tc] 69)).cell; have r1 := run_string (w5.alloc (.cells #[.slice ta tn tc] 69)) ba 2 bc [97, 98] (bytes_below HY4.out hB46); have hlen6 := slen_any (w5.alloc (.cells #[.slice ta tn tc] 69)) s _ [o] _ _ F3 (H4.out.below hB46); have hhas6 := has_any (w5.alloc (.cells #[.slice ta tn tc] 69)) s _ [o] _ _ F3 (H4.out.below hB46) I HBd.out.1 HBd.out.2.1; rw [HF.out] at hhas6; have B6 : Hid (Below w.heap.size w (w5.alloc (.cells #[.slice ta tn tc] 69))) := B4.out.trans (hB46.mono B4.out.size); clear hB45 hB46 hb5 hB5)
    | (go_at_call 27; refine hlen6.mono ?_; clear hlen6; rintro e w7 ⟨rfl, h7⟩; subst h7)
    | (go_at_call 16; refine hhas6.mono ?_; clear hhas6; rintro e w8 ⟨rfl, h8⟩; subst h8)
  go_ret
  exact ⟨rfl, B6.out⟩
end Go.Proofs.YthalpnpnbclipaaGreat

/- Puts of blobs: once, and once more. -/
namespace Go.Proofs.YthalpnpnbclipaaGreat
open Go.RowKit Go.Shelf Go.Maps

attribute [local go_sem] Oper.semAt_some

/-- what lies behind a Put that answers OK -/
def PutTwo (w w' : World) (s d : Nat) (os : List Ob) (F G : Nat → Prop) (b : List UInt8) : Prop :=
  Turn (fun k => F k ∨ G k) w w' ∧ ∃ os' S' F' G', StG w' s d os' S' F' G' ∧ findO os' (oid (.blob b)) = some (.blob b) ∧ (os' = os ∨ os' = os ++ [.blob b]) ∧ (∀ k, F' k → F k ∨ w.heap.size ≤ k) ∧ (∀ k, G' k → G k ∨ w.heap.size ≤ k)
theorem obB_blob {p : Ob} {b : List UInt8} (h : obB p = 98 :: b) : p = .blob b := by
  have hh := obB_head p
  rw [h] at hh
  cases p with
  | blob c => simp [obB] at h; rw [h]
  | tree l => simp at hh
  | com c => simp at hh
theorem sput_same (w : World) (s d : Nat) (os : List Ob) (sz : Nat) (cut : Bool) (F : Nat → Prop) (h : IsSt w s d os sz cut F) (a : Option Addr) (n c : Nat) (b : List UInt8) (hb : Bytes w a n b) (hnil : a = none → n = 0 ∧ c = 0) (hl : n ≤ 4096) (hf : findO os (oid (.blob b)) = some (.blob b)) :
    Calls Tryz.prog 11 #[.pointer (some ⟨s, 0, none⟩), .iface 65 (.agg #[.slice a n c])] w fun e w' => e = .returned (.tuple #[.int .u64 (oid (.blob b)), .int .i64 0]) ∧ Below w.heap.size w w' := by
  have hll := hb.1
  subst hll
  obtain ⟨j, b', M, u, FJ, O, h⟩ := h
  have := sput_there w s d j b' M u _ os sz cut FJ O F h _ (.blob b) (.blob b) (blob_at hb hnil hl).1 (blob_pure b hl).1 hf
  rw [if_pos rfl, if_pos rfl] at this
  exact this
theorem sput_other (w : World) (s d : Nat) (os : List Ob) (sz : Nat) (cut : Bool) (F : Nat → Prop) (h : IsSt w s d os sz cut F) (a : Option Addr) (n c : Nat) (b : List UInt8) (hb : Bytes w a n b) (hnil : a = none → n = 0 ∧ c = 0) (hl : n ≤ 4096) (p : Ob) (hf : findO os (oid (.blob b)) = some p) (hne : p ≠ .blob b) :
    Calls Tryz.prog 11 #[.pointer (some ⟨s, 0, none⟩), .iface 65 (.agg #[.slice a n c])] w fun e w' => e = .returned (.tuple #[.int .u64 0, .int .i64 7]) ∧ Below w.heap.size w w' := by
  have hll := hb.1
  subst hll
  obtain ⟨j, b', M, u, FJ, O, h⟩ := h
  have := sput_there w s d j b' M u _ os sz cut FJ O F h _ (.blob b) p (blob_at hb hnil hl).1 (blob_pure b hl).1 hf
  have hq : ¬ obB p = obB (.blob b) := fun e => hne (obB_blob e)
  rw [if_neg hq, if_neg hq] at this
  exact this
theorem sput_two (w : World) (s d : Nat) (os : List Ob) (S : DG) (F G : Nat → Prop) (h : StG w s d os S F G) (a : Option Addr) (n c : Nat) (b : List UInt8) (hb : Bytes w a n b) (hnil : a = none → n = 0 ∧ c = 0) (ha : 0 < n → ∀ x, a = some x → ¬ (F x.block ∨ G x.block)) (hl : n ≤ 4096) (hf : findO os (oid (.blob b)) = none ∨ findO os (oid (.blob b)) = some (.blob b)) (hn : os.length < 65536) (hfit : (recB (98 :: b)).length + (fileB (os.map obB)).length ≤ 4194304) :
    Calls Tryz.prog 11 #[.pointer (some ⟨s, 0, none⟩), .iface 65 (.agg #[.slice a n c])] w fun e w' => e = .returned (.tuple #[.int .u64 (oid (.blob b)), .int .i64 0]) ∧ PutTwo w w' s d os F G b := by
  rcases hf with hf | hf
  · refine (sput_blob w s d os S F G h a n c b hb hnil ha hl hf hn hfit).mono ?_
    rintro e w' ⟨he, hT, S', F', G', h1, h2, h3⟩
    refine ⟨he, hT, _, S', F', G', h1, ?_, .inr rfl, h2, h3⟩
    rw [findO_snoc os (.blob b) _ hf, if_pos rfl]
  · refine (sput_same w s d os _ _ F h.st a n c b hb hnil hl hf).mono ?_
    rintro e w' ⟨he, hB⟩
    exact ⟨he, Turn.of_below _ hB, os, S, F, G, h.below hB, hf, .inl rfl, fun k hk => .inl hk, fun k hk => .inl hk⟩
theorem sbytes_blob (w : World) (s d : Nat) (os : List Ob) (sz : Nat) (cut : Bool) (F : Nat → Prop) (h : IsSt w s d os sz cut F) (b : List UInt8) (hf : findO os (oid (.blob b)) = some (.blob b)) :
    Calls Tryz.prog 25 #[.pointer (some ⟨s, 0, none⟩), .int .u64 (oid (.blob b))] w fun e w' => ∃ ad cp, e = .returned (.tuple #[.slice ad (b.length + 1) cp, .int .i64 0]) ∧ Bytes w' ad (b.length + 1) (98 :: b) ∧ Below w.heap.size w w' :=
  sbytes_there w s d os sz cut F h _ (idOf_bounds _).1 (idOf_bounds _).2 _ hf
theorem get_blob (w : World) (s d : Nat) (os : List Ob) (sz : Nat) (cut : Bool) (F : Nat → Prop) (h : IsSt w s d os sz cut F) (b : List UInt8) (hf : findO os (oid (.blob b)) = some (.blob b)) :
    Calls Tryz.prog 14 #[.pointer (some ⟨s, 0, none⟩), .int .u64 (oid (.blob b))] w fun e w' => ∃ ad cp, e = .returned (.tuple #[.iface 65 (.agg #[.slice ad b.length cp]), .int .i64 0]) ∧ Bytes w' ad b.length b ∧ Below w.heap.size w w' := by
  refine (get_there w s d os sz cut F h _ (idOf_bounds _).1 (idOf_bounds _).2 _ hf).mono ?_
  rintro e w' ⟨u, he, hu, hB⟩
  obtain ⟨ad, cp, rfl, hy, _⟩ := hu.get.1
  exact ⟨ad, cp, he, hy, hB⟩
end Go.Proofs.YthalpnpnbclipaaGreat

/- Plain: a disk that may be cut, with a file that is a row of records and perhaps a beginning of one more: what Append and Open make of it. -/
namespace Go.Proofs.YthalpnpnbclipaaGreat
open Go.RowKit

/-- what raw writes of bytes leave: all of them, or a beginning -/
theorem pieces_any_cut : ∀ (k : Nat) (S : DG) (nm l : List UInt8), l.length + 1 ≤ k → l ≠ [] → S.n ≤ 1 → (S.f nm = none → S.n = 0) →
    (((pieces k S nm l).2 = 0 ∧ (pieces k S nm l).1.bs nm = S.bs nm ++ l) ∨ ((pieces k S nm l).2 = 6 ∧ ∃ t, t < l.length ∧ (pieces k S nm l).1.bs nm = S.bs nm ++ l.take t)) ∧
      (pieces k S nm l).1.n ≤ 1 ∧ ((pieces k S nm l).1.f nm = none → (pieces k S nm l).1.n = 0) ∧ (pieces k S nm l).1.wr ≤ S.wr + l.length ∧ (∀ x, x ≠ nm → (pieces k S nm l).1.f x = S.f x) := by
  intro k
  induction k with
  | zero => intro S nm l h; omega
  | succ k ih =>
    intro S nm l hk hl hn h0
    have hpos : 0 < l.length := List.length_pos_iff.2 hl
    have hadd : ∀ bs, (S.done.add nm bs).bs nm = S.bs nm ++ bs ∧ (S.done.add nm bs).n ≤ 1 ∧ (S.done.add nm bs).f nm ≠ none ∧ (S.done.add nm bs).wr = S.wr + 1 ∧ (∀ x, x ≠ nm → (S.done.add nm bs).f x = S.f x) := by
      intro bs
      refine ⟨?_, ?_, ?_, rfl, fun x hx => ?_⟩
      · show ((if nm = nm then some _ else _) : Option (List UInt8)).getD [] = _
        rw [if_pos rfl]; rfl
      · show (if (S.f nm).isSome then S.n else S.n + 1) ≤ 1
        cases hf : S.f nm with
        | none => rw [h0 hf]; simp
        | some _ => simpa using hn
      · show (if nm = nm then some _ else _) ≠ none
        rw [if_pos rfl]; simp
      · show (if x = nm then some _ else S.f x) = S.f x
        rw [if_neg hx]
    rw [pieces]
    by_cases hc : S.can = true
    · rw [if_pos hc]
      by_cases h32 : l.length ≤ 32
      · rw [if_pos h32]
        obtain ⟨h1, h2, h3, h4, h5⟩ := hadd l
        exact ⟨.inl ⟨rfl, h1⟩, h2, fun e => absurd e h3, by rw [h4]; omega, h5⟩
      · rw [if_neg h32]
        obtain ⟨h1, h2, h3, h4, h5⟩ := hadd (l.take 32)
        obtain ⟨hcase, g1, g2, g3, g4⟩ := ih (S.done.add nm (l.take 32)) nm (l.drop 32) (by rw [List.length_drop]; omega) (fun e => by have := congrArg List.length e; rw [List.length_drop] at this; simp at this; omega) h2 (fun e => absurd e h3)
        refine ⟨?_, g1, g2, ?_, fun x hx => (g4 x hx).trans (h5 x hx)⟩
        · rcases hcase with ⟨e, hb⟩ | ⟨e, t, ht, hb⟩
          · exact .inl ⟨e, by rw [hb, h1, List.append_assoc, List.take_append_drop]⟩
          · refine .inr ⟨e, 32 + t, by rw [List.length_drop] at ht; omega, ?_⟩
            rw [hb, h1, List.append_assoc, ← List.take_add]
        · rw [h4, List.length_drop] at g3; omega
    · rw [if_neg hc]
      exact ⟨.inr ⟨rfl, 0, hpos, by simp⟩, hn, h0, by show S.wr ≤ _; omega, fun _ _ => rfl⟩

/-- the file of that name has these records, and perhaps, where the Journal is dead, a beginning of one more -/
structure CG (S : DG) (nm : List UInt8) (ds : List (List UInt8)) (dead : Bool) : Prop where
  bs : ∃ t p, S.bs nm = fileB ds ++ (recB p).take t ∧ t < (recB p).length ∧ p.length ≤ 262144 ∧ (dead = false → t = 0)
  n : S.n ≤ 1
  n0 : S.f nm = none → S.n = 0
  all : ∀ r ∈ ds, r.length ≤ 262144
  only : ∀ x, x ≠ nm → S.f x = none

theorem CG.parse {S : DG} {nm : List UInt8} {ds : List (List UInt8)} {dead : Bool} (h : CG S nm ds dead) : parseL (S.bs nm) = (ds, (fileB ds).length, false) := by
  obtain ⟨t, p, e, h1, h2, _⟩ := h.bs
  rw [e]; exact parseL_torn ds p t h.all h2 h1

theorem CG.len {S : DG} {nm : List UInt8} {ds : List (List UInt8)} {dead : Bool} (h : CG S nm ds dead) : (fileB ds).length ≤ (S.bs nm).length ∧ (S.bs nm).length ≤ (fileB ds).length + 262162 := by
  obtain ⟨t, p, e, h1, h2, _⟩ := h.bs
  have := (recB_pos p).2
  rw [e, List.length_append, List.length_take]
  omega

theorem CG.whole {S : DG} {nm : List UInt8} {ds : List (List UInt8)} (h : CG S nm ds false) : S.bs nm = fileB ds := by
  obtain ⟨t, p, e, _, _, h3⟩ := h.bs
  rw [h3 rfl] at e
  simpa using e

theorem CG.same {S S' : DG} {nm : List UInt8} {ds : List (List UInt8)} {dead : Bool} (h : CG S nm ds dead) (hf : S'.f = S.f) (hn : S'.n = S.n) : CG S' nm ds dead := by
  have hb : S'.bs nm = S.bs nm := by unfold DG.bs; rw [hf]
  exact ⟨by rw [hb]; exact h.bs, by rw [hn]; exact h.n, by rw [hf, hn]; exact h.n0, h.all, by rw [hf]; exact h.only⟩

theorem CG.of_whole {S : DG} {nm : List UInt8} {ds : List (List UInt8)} (dead : Bool) (hb : S.bs nm = fileB ds) (hn : S.n ≤ 1) (h0 : S.f nm = none → S.n = 0) (ha : ∀ r ∈ ds, r.length ≤ 262144) (ho : ∀ x, x ≠ nm → S.f x = none) : CG S nm ds dead :=
  ⟨⟨0, [], by simp [hb], by have := (recB_pos []).1; omega, by simp, fun _ => rfl⟩, hn, h0, ha, ho⟩

theorem CG.opened {S : DG} {nm : List UInt8} {ds : List (List UInt8)} {dead : Bool} (h : CG S nm ds dead) (hc : S.cut = false) : (S.opened nm).2 = 0 ∧ CG (S.opened nm).1 nm ds false ∧ (S.opened nm).1.wr ≤ S.wr + 1 ∧ (S.opened nm).1.cut = false := by
  have hp := h.parse
  have hl := h.len
  unfold DG.opened
  rw [hp, if_neg (by simp)]
  by_cases e : (fileB ds).length < (S.bs nm).length
  · rw [if_pos e, trunc_err S nm _ (by omega) e, if_pos (by unfold DG.can; rw [hc]; rfl)]
    have hb : (S.done.set nm ((S.bs nm).take (fileB ds).length)).bs nm = fileB ds := by
      show ((if nm = nm then some _ else _) : Option (List UInt8)).getD [] = _
      rw [if_pos rfl]
      obtain ⟨t, p, e1, _⟩ := h.bs
      rw [e1]
      show (fileB ds ++ (recB p).take t).take (fileB ds).length = _
      exact List.take_left' rfl
    refine ⟨rfl, CG.of_whole false hb ?_ ?_ h.all (fun x hx => ?_), Nat.le_refl _, hc⟩
    · show (if (S.f nm).isSome then S.n else S.n + 1) ≤ 1
      cases hf : S.f nm with
      | none => rw [h.n0 hf]; simp
      | some _ => simpa using h.n
    · show (if nm = nm then some _ else _) = none → _
      rw [if_pos rfl]; simp
    · show (if x = nm then some _ else S.f x) = none
      rw [if_neg hx]; exact h.only x hx
  · rw [if_neg e]
    refine ⟨rfl, CG.of_whole false ?_ h.n h.n0 h.all h.only, by simp, hc⟩
    obtain ⟨t, p, e1, _⟩ := h.bs
    rw [e1, List.length_append] at e
    have : ((recB p).take t) = [] := List.eq_nil_of_length_eq_zero (by omega)
    rw [e1, this]; simp

theorem CG.app {S : DG} {nm : List UInt8} {ds : List (List UInt8)} (h : CG S nm ds false) (hnm : nameB nm = true) (l : List UInt8) (hl : l.length ≤ 262144) (hfit : (recB l).length + (fileB ds).length ≤ 4194304) :
    (((S.app nm (recB l)).2 = 0 ∧ CG (S.app nm (recB l)).1 nm (ds ++ [l]) false) ∨ ((S.app nm (recB l)).2 = 6 ∧ CG (S.app nm (recB l)).1 nm ds true)) ∧ (S.app nm (recB l)).1.wr ≤ S.wr + (recB l).length := by
  have hw := h.whole
  have hn := h.n
  have he : S.app nm (recB l) = pieces ((recB l).length + 1) S nm (recB l) := by
    unfold DG.app
    rw [if_neg (by rw [hnm]; decide), if_neg (by rw [hw]; intro e; rcases e with e | e <;> omega), if_neg (by simp [recB_ne])]
  rw [he]
  obtain ⟨hcase, g1, g2, g3, g4⟩ := pieces_any_cut ((recB l).length + 1) S nm (recB l) (Nat.le_refl _) (recB_ne l) hn h.n0
  refine ⟨?_, g3⟩
  rcases hcase with ⟨e, hb⟩ | ⟨e, t, ht, hb⟩
  · refine .inl ⟨e, CG.of_whole false (by rw [hb, hw, fileB_snoc]) g1 g2 (fun r hr => ?_) (fun x hx => (g4 x hx).trans (h.only x hx))⟩
    rcases List.mem_append.1 hr with hr | hr
    · exact h.all r hr
    · simp at hr; subst hr; exact hl
  · exact .inr ⟨e, ⟨t, l, by rw [hb, hw], ht, hl, by simp⟩, g1, g2, h.all, fun x hx => (g4 x hx).trans (h.only x hx)⟩

end Go.Proofs.YthalpnpnbclipaaGreat
