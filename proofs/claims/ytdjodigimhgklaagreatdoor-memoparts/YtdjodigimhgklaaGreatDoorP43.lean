import Derived.Test.YtdjodigimhgklaaGreatDoorP42
import Derived.Test.YtdjodigimhgklaaGreatDoorP38
import Derived.Test.YtdjodigimhgklaaGreatDoorP36
/- wakes: a memo on a new disk. -/
namespace Go.Proofs.YtdjodigimhgklaaGreatDoor
open Go.RowKit Go.Shelf Go.Maps

attribute [local go_sem] Oper.semAt_some

theorem rec1_small : (recB (encR [1])).length ≤ 100000 ∧ recB (encR [1]) ≠ [] := by
  have h1 := recB_pos (encR [1])
  have h2 : (encR [1]).length ≤ 20 := by
    have := numsB_len [1]
    have := short_len ([1] : List Nat).length
    unfold encR
    rw [List.length_append]
    have : ([1] : List Nat).length = 1 := rfl
    omega
  refine ⟨by omega, fun e => ?_⟩
  rw [e] at h1
  simp at h1
theorem MS.look {Q : Nat → Prop} {w : World} {m d j : Nat} {g : Me} {rs : List (List UInt8)} {sz : Nat} {jc : Bool} {S : DG} (h : MS Q w m d j g rs sz jc S) (c : Nat) :
    Calls Tryz.prog 27 #[.pointer (some ⟨m, 0, none⟩), .int .u64 (c : Int)] w fun e w' => e = .returned (stdV (lookP g.ps c)) ∧ Below w.heap.size w w' := by
  obtain ⟨vr, pa, pc, FM, FJ, G, h1, _⟩ := h
  exact standin_any w m d j g vr pa pc FM h1 c
theorem MS.length {Q : Nat → Prop} {w : World} {m d j : Nat} {g : Me} {rs : List (List UInt8)} {sz : Nat} {jc : Bool} {S : DG} (h : MS Q w m d j g rs sz jc S) :
    Calls Tryz.prog 30 #[.pointer (some ⟨m, 0, none⟩)] w fun e w' => e = .returned (nV g.ps.length) ∧ w' = w := by
  obtain ⟨vr, pa, pc, FM, FJ, G, h1, _⟩ := h
  exact mlen_any w m d j g vr pa pc FM h1

set_option maxRecDepth 100000 in
set_option maxHeartbeats 4000000 in
theorem wakes18 (w : World) : Calls Tryz.prog 8 #[] w fun e w' => e = .returned (.bool true) ∧ Below w.heap.size w w' := by
  have hnw := new_any w
  go_enter Tryz.func8, Tryz.ntmps8
  go_wp2_with fail
  refine hnw.mono ?_
  clear hnw
  rintro e w1 ⟨rfl, hd1, hB1⟩
  have hop : Calls Tryz.prog 10 #[.pointer (some ⟨w.heap.size + 1, 0, none⟩), .int .u64 255] w1 _ := emD_open w1 (w.heap.size + 1) 255 _ hd1 (by decide) (by decide)
  have H1 : Hid (Below w.heap.size w w1 ∧ ∀ k, (k = w.heap.size ∨ k = w.heap.size + 1) → w.heap.size ≤ k ∧ k < w1.heap.size) := ⟨hB1, fun k hk => ⟨by omega, hd1.lt k hk⟩⟩
  clear hd1 hB1
  go_wp2_with fail
  refine hop.mono ?_
  clear hop
  rintro e w2 ⟨hT2, m, j, rfl, hM2⟩
  obtain ⟨Q, hQ⟩ : ∃ Q, Q = grow (fun k => k = w.heap.size ∨ k = w.heap.size + 1) w1 w2 := ⟨_, rfl⟩
  have H2 : Hid (MS Q w2 m (w.heap.size + 1) j ⟨255, [], 0, [], false⟩ [] 0 false emD ∧ Below w.heap.size w w2 ∧ ∀ k, Q k → w.heap.size ≤ k ∧ k < w2.heap.size) := by
    have hs1 := H1.out.1.size
    have hs2 := hT2.size
    refine ⟨by rw [hQ]; exact hM2, H1.out.1.trans (hT2.below H1.out.1.size (fun k hk => (H1.out.2 k hk).1)), fun k hk => ?_⟩
    rw [hQ] at hk
    rcases hk with hk | hk
    · have := H1.out.2 k hk; omega
    · omega
  clear hT2 hM2 hQ
  go_wp2_with fail
  obtain ⟨w3, hw3⟩ : ∃ w3, w3 = w2.alloc (.cells #[.int .u64 7, .int .u64 0, .int .u64 3, .int .u64 9] 39) := ⟨_, rfl⟩
  have hB3 : Below w2.heap.size w2 w3 := by rw [hw3]; exact (Below.refl _ _).alloc (Nat.le_refl _) _
  have hbx : w3.heap[w2.heap.size]? = some (.cells #[.int .u64 7, .int .u64 0, .int .u64 3, .int .u64 9] 39) := by rw [hw3]; exact World.alloc_heap_new w2 _
  have hp3 : PrV w3 (some ⟨w2.heap.size, 0, none⟩) 2 2 [(7, 0), (3, 9)] := by
    refine ⟨⟨rfl, fun _ => ⟨w2.heap.size, 0, rfl, fun q x hx => ?_⟩⟩, fun e => (by cases e), Nat.le_refl _⟩
    match q, hx with
    | 0, hx => cases hx; exact ⟨by simp [World.cell?, hbx], by simp [World.cell?, hbx]⟩
    | 1, hx => cases hx; exact ⟨by simp [World.cell?, hbx], by simp [World.cell?, hbx]⟩
  have had := yadd_any Q w3 m (w.heap.size + 1) j ⟨255, [], 0, [], false⟩ [] 0 false emD (H2.out.1.below hB3) (fun k hk => by have := H2.out.2.2 k hk; have := hB3.size; omega) (fun _ => rfl)
    (some ⟨w2.heap.size, 0, none⟩) 2 2 [(7, 0), (3, 9)] hp3 (fun p hp => by simp at hp; rcases hp with rfl | rfl <;> decide) (fun p hp => by cases hp) (by decide) (by decide) (by decide) (fun x hx => by cases hx) (by decide) (Nat.zero_le _) (by decide) (by decide)
    (fun news _ hn => by
      have hl := lay_free (g := ⟨255, [], 0, [], false⟩) (news := news) (S := emD) rfl (by decide) rfl (by show news.length ≤ 65536; omega) (by decide) (Nat.zero_le _) rec1_small.1 rec1_small.2
      rw [hl.1, hl.2]
      have h1 := runB_len news
      have h2 := short_len news.length
      have h3 := rec1_small.1
      refine ⟨fun _ => ⟨?_, Nat.zero_le _, ?_, ?_⟩, fun _ => ?_⟩
      · show ((emD.freeApp _ _).bs _).length ≤ _
        rw [freeApp_bs]
        split
        · show ((([] : List UInt8) ++ runB news).length) ≤ _
          rw [List.nil_append]
          omega
        · exact Nat.zero_le _
      · show (1 : Nat) ≤ 256
        omega
      · show 0 + ((runB news).length + 31) / 32 < _
        omega
      · show 0 + ((runB news).length + 31) / 32 + ((recB (encR [1])).length + 31) / 32 < _
        omega)
  have HB3 : Hid (Below w.heap.size w w3) := H2.out.2.1.trans (hB3.mono H2.out.2.1.size)
  rw [← hw3]
  clear hw3 hbx hp3 hB3
  refine had.mono ?_
  clear had
  rintro e w4 ⟨hT4, er, g', rs', sz', jc', S', rfl, hR, hM4⟩
  obtain ⟨rfl, hlen, hlook, _⟩ := add_first (by decide) (by decide) (by decide) rec1_small.1 rec1_small.2 hR
  have hB4 : Below w.heap.size w w4 := HB3.out.trans (hT4.below HB3.out.size (fun k hk => (H2.out.2.2 k hk).1))
  have l3 : lookP g'.ps 3 = some 9 := hlook 3
  have l7 : lookP g'.ps 7 = some 0 := hlook 7
  have l5 : lookP g'.ps 5 = none := hlook 5
  have HM : Hid (MS (grow Q w3 w4) w4 m (w.heap.size + 1) j g' rs' sz' jc' S' ∧ Below w.heap.size w w4) := ⟨hM4, hB4⟩
  have s3 : ∀ W, Below w4.heap.size w4 W → Calls Tryz.prog 27 #[.pointer (some ⟨m, 0, none⟩), .int .u64 3] W fun e w' => e = .returned (.tuple #[.int .u64 9, .bool true]) ∧ Below W.heap.size W w' := fun W hW => by
    have := (HM.out.1.below hW).look 3
    rwa [l3] at this
  have s7 : ∀ W, Below w4.heap.size w4 W → Calls Tryz.prog 27 #[.pointer (some ⟨m, 0, none⟩), .int .u64 7] W fun e w' => e = .returned (.tuple #[.int .u64 0, .bool true]) ∧ Below W.heap.size W w' := fun W hW => by
    have := (HM.out.1.below hW).look 7
    rwa [l7] at this
  have s5 : ∀ W, Below w4.heap.size w4 W → Calls Tryz.prog 27 #[.pointer (some ⟨m, 0, none⟩), .int .u64 5] W fun e w' => e = .returned (.tuple #[.int .u64 0, .bool false]) ∧ Below W.heap.size W w' := fun W hW => by
    have := (HM.out.1.below hW).look 5
    rwa [l5] at this
  have sl : ∀ W, Below w4.heap.size w4 W → Calls Tryz.prog 30 #[.pointer (some ⟨m, 0, none⟩)] W fun e w' => e = .returned (.int .i64 2) ∧ w' = W := fun W hW => by
    have := (HM.out.1.below hW).length
    rwa [hlen] at this
  have HS : Hid ((∀ W, Below w4.heap.size w4 W → Calls Tryz.prog 27 #[.pointer (some ⟨m, 0, none⟩), .int .u64 7] W fun e w' => e = .returned (.tuple #[.int .u64 0, .bool true]) ∧ Below W.heap.size W w') ∧ (∀ W, Below w4.heap.size w4 W → Calls Tryz.prog 27 #[.pointer (some ⟨m, 0, none⟩), .int .u64 5] W fun e w' => e = .returned (.tuple #[.int .u64 0, .bool false]) ∧ Below W.heap.size W w') ∧ ∀ W, Below w4.heap.size w4 W → Calls Tryz.prog 30 #[.pointer (some ⟨m, 0, none⟩)] W fun e w' => e = .returned (.int .i64 2) ∧ w' = W) := ⟨s7, s5, sl⟩
  have hs3 := s3 w4 (Below.refl _ _)
  clear hT4 hR hM4 hlen hlook hB4 l3 l7 l5 s3 s7 s5 sl
  go_wp2_with fail
  refine hs3.mono ?_
  clear hs3
  rintro e w5 ⟨rfl, hB5⟩
  have HB5 : Hid (Below w4.heap.size w4 w5) := hB5
  have hs7 := HS.out.1 w5 hB5
  clear hB5
  go_wp2_with fail
  refine hs7.mono ?_
  clear hs7
  rintro e w6 ⟨rfl, hB6⟩
  have HB6 : Hid (Below w4.heap.size w4 w6) := HB5.out.trans (hB6.mono HB5.out.size)
  have hs5 := HS.out.2.1 w6 HB6.out
  clear hB6
  go_wp2_with fail
  refine hs5.mono ?_
  clear hs5
  rintro e w7 ⟨rfl, hB7⟩
  have HB7 : Hid (Below w4.heap.size w4 w7) := HB6.out.trans (hB7.mono HB6.out.size)
  have hsl := HS.out.2.2 w7 HB7.out
  clear hB7
  go_wp2_with fail
  refine hsl.mono ?_
  clear hsl
  rintro e w8 ⟨rfl, hw8⟩
  subst hw8
  go_wp2
  go_ret
  exact ⟨rfl, HM.out.2.trans (HB7.out.mono HM.out.2.size)⟩
end Go.Proofs.YtdjodigimhgklaaGreatDoor

/- Plain: pairs that come to a memo in parts, from the end on. -/
namespace Go.Proofs.YtdjodigimhgklaaGreatDoor
open Go.RowKit Go.Shelf Go.Maps

theorem once_sub {l m : List Pr} (h : Once l) (hs : m.Sublist l) : Once m := List.Nodup.sublist (hs.map _) h
theorem once_apart {a b : List Pr} (h : Once (a ++ b)) {p : Pr} (hp : p ∈ a) : lookP b p.1 = none := by
  refine (look_none _ _).2 fun q hq e => ?_
  unfold Once at h
  rw [List.map_append] at h
  exact (List.nodup_append.1 h).2.2 _ (List.mem_map.2 ⟨p, hp, rfl⟩) _ (List.mem_map.2 ⟨q, hq, rfl⟩) e.symm
theorem look_swap {a b : List Pr} (h : Once (a ++ b)) (x : Nat) : (lookP b x).or (lookP a x) = lookP (a ++ b) x := by
  rw [look_app]
  cases e : lookP a x with
  | none => simp
  | some y =>
    have := once_apart h (look_mem e)
    simp only at this
    rw [this]
    rfl
/-- a memo that knows what stands behind the first m pairs -/
structure PartI (l : List Pr) (k m : Nat) (g : Me) (sz : Nat) (S : DG) : Prop where
  free : FreeM k g sz S
  key : g.key = 1
  ml : m ≤ l.length
  len : g.ps.length ≤ l.length - m
  look : ∀ x, lookP g.ps x = lookP (l.drop m) x
theorem partI_new (l : List Pr) : PartI l 0 l.length ⟨1, [], 0, [], false⟩ 0 emD where
  free := freeM_new 1
  key := rfl
  ml := Nat.le_refl _
  len := Nat.zero_le _
  look := fun x => by rw [List.drop_length]
theorem PartI.step {l : List Pr} {k m : Nat} {g : Me} {sz : Nat} {S : DG} (h : PartI l k m g sz S) (hk : k < 40) (hl : l.length ≤ 60) (h0 : ∀ p ∈ l, p.1 ≠ 0) (ho : Once l) {c : Nat} (hc : c ≤ m)
    {rs : List (List UInt8)} {er : Int} {g' : Me} {rs' : List (List UInt8)} {sz' : Nat} {jc' : Bool} {S' : DG} (hR : AddR g ((l.take m).drop (m - c)) rs sz false S er g' rs' sz' jc' S') :
    er = 0 ∧ jc' = false ∧ PartI l (k + 1) (m - c) g' sz' S' := by
  have hml := h.ml
  have hlen := h.len
  have hsplit : l.drop (m - c) = (l.take m).drop (m - c) ++ l.drop m := by
    conv => lhs; rw [← List.take_append_drop m l]
    rw [List.drop_append_of_le_length (by rw [List.length_take]; omega)]
  have hod : Once (l.drop (m - c)) := once_sub ho (List.drop_sublist _ _)
  rw [hsplit] at hod
  have htl : ((l.take m).drop (m - c)).length = c := by rw [List.length_drop, List.length_take]; omega
  have hsub : ((l.take m).drop (m - c)).Sublist l := (List.drop_sublist _ _).trans (List.take_sublist _ _)
  obtain ⟨e1, e2, e3, e4, e5, e6⟩ := h.free.add hk (l := (l.take m).drop (m - c)) (by omega) (fun p hp => h0 p (hsub.subset hp)) (once_sub ho hsub) (fun p hp => .inl (by rw [h.look]; exact once_apart hod hp)) rfl hR
  exact ⟨e1, e2, e3, e4.trans h.key, by omega, by omega, fun x => by rw [e6, h.look, look_swap hod, hsplit]⟩
/-- all is known: the same, in whatever parts it came -/
theorem PartI.same {l : List Pr} {k k' : Nat} {g g' : Me} {sz sz' : Nat} {S S' : DG} (h : PartI l k 0 g sz S) (h' : PartI l k' 0 g' sz' S') : g.ps = g'.ps :=
  ris_ext _ _ h.free.ris h'.free.ris fun x => by rw [h.look, h'.look]
end Go.Proofs.YtdjodigimhgklaaGreatDoor

/- A memo on a disk of its own, that learns pairs in parts: its calls. -/
namespace Go.Proofs.YtdjodigimhgklaaGreatDoor
open Go.RowKit Go.Shelf Go.Maps

/-- a memo in block p on the disk d, all of it within Q: it knows what stands behind the first m pairs, and has written at most k times -/
def St (l : List Pr) (Q : Nat → Prop) (k m : Nat) (w : World) (p d j : Nat) : Prop := ∃ g rs sz S, MS Q w p d j g rs sz false S ∧ PartI l k m g sz S
theorem St.wide {l : List Pr} {Q Q' : Nat → Prop} {k m : Nat} {w : World} {p d j : Nat} (h : St l Q k m w p d j) (hq : ∀ i, Q i → Q' i) : St l Q' k m w p d j := by
  obtain ⟨g, rs, sz, S, h1, h2⟩ := h
  exact ⟨g, rs, sz, S, h1.wide hq, h2⟩
theorem St.turn {l : List Pr} {Q X : Nat → Prop} {k m : Nat} {w w' : World} {p d j : Nat} (h : St l Q k m w p d j) (hT : Turn X w w') (hX : ∀ i, Q i → ¬ X i) : St l Q k m w' p d j := by
  obtain ⟨g, rs, sz, S, h1, h2⟩ := h
  exact ⟨g, rs, sz, S, h1.turn hT hX, h2⟩
theorem St.below {l : List Pr} {Q : Nat → Prop} {k m : Nat} {w w' : World} {p d j : Nat} (h : St l Q k m w p d j) (hB : Below w.heap.size w w') : St l Q k m w' p d j :=
  h.turn (Turn.of_below (fun _ => False) hB) fun _ _ => id
theorem st_opens (l : List Pr) (w : World) (d : Nat) (G : Nat → Prop) (hd : IsDisk w d emD G) :
    Calls Tryz.prog 10 #[.pointer (some ⟨d, 0, none⟩), .int .u64 1] w fun e w' => Turn G w w' ∧ ∃ p j, e = .returned (.tuple #[.pointer (some ⟨p, 0, none⟩), .int .i64 0]) ∧ St l (grow G w w') 0 l.length w' p d j := by
  refine (emD_open w d 1 G hd (by decide) (by decide)).mono ?_
  rintro e w' ⟨hT, p, j, rfl, hM⟩
  exact ⟨hT, p, j, rfl, _, _, _, _, hM, partI_new l⟩
theorem St.add {l : List Pr} {Q : Nat → Prop} {k m : Nat} {w : World} {p d j : Nat} (h : St l Q k m w p d j) (hQ : ∀ i, Q i → i < w.heap.size) (hk : k < 40) (hl : l.length ≤ 60) (hok : PrOk l) (h0 : ∀ q ∈ l, q.1 ≠ 0) (ho : Once l)
    (a : Option Addr) (c cc : Nat) (hc : c ≤ m) (hp : PrV w a c cc ((l.take m).drop (m - c))) :
    Calls Tryz.prog 13 #[.pointer (some ⟨p, 0, none⟩), .slice a c cc] w fun e w' => e = .returned (.int .i64 0) ∧ Turn Q w w' ∧ St l (grow Q w w') (k + 1) (m - c) w' p d j := by
  obtain ⟨g, rs, sz, S, h1, h2⟩ := h
  have hml := h2.ml
  have hlen := h2.len
  have htop := h2.free.top
  have hn := h2.free.n
  have hw := h2.free.wr
  have hsub : ((l.take m).drop (m - c)).Sublist l := (List.drop_sublist _ _).trans (List.take_sublist _ _)
  refine (yadd_any Q w p d j g rs sz false S h1 hQ (fun _ => rfl) a c cc _ hp ((hok.take m).drop (m - c)) h2.free.p0 (by omega) (by rw [h2.key]; decide) (by omega) (fun x hx => by have := h2.free.runs x hx; omega) h2.free.rl
    (by
      have : S.bs (nmB g.key (g.top + 1)) = [] := by unfold DG.bs; rw [h2.free.fresh _ (by omega) (by omega)]; rfl
      rw [this]; exact Nat.zero_le _) (by omega) (by omega) (h2.free.hlay hk _ c (by omega))).mono ?_
  rintro e w' ⟨hT, er, g', rs', sz', jc', S', rfl, hR, hM⟩
  obtain ⟨rfl, rfl, hP⟩ := h2.step hk hl h0 ho hc hR
  exact ⟨rfl, hT, g', rs', sz', S', hM, hP⟩
theorem St.all {l : List Pr} {Q : Nat → Prop} {k m : Nat} {w : World} {p d j : Nat} (h : St l Q k m w p d j) (hl : l.length ≤ 60) :
    Calls Tryz.prog 33 #[.pointer (some ⟨p, 0, none⟩)] w fun e w' => ∃ v ps, e = .returned v ∧ Ris ps ∧ ps.length ≤ l.length ∧ (∀ x, lookP ps x = lookP (l.drop m) x) ∧ w'.ownsRow w.heap.size 39 2 v ps.length (prCells ps) ∧ Below w.heap.size w w' := by
  obtain ⟨g, rs, sz, S, ⟨vr, pa, pc, FM, FJ, G, h1, _⟩, h2⟩ := h
  have := h2.len
  have := h1.small
  refine (yall_any w p d j g vr pa pc FM h1 (by omega)).mono ?_
  rintro e w' ⟨v, rfl, hown, hB⟩
  exact ⟨v, g.ps, rfl, h2.free.ris, by omega, h2.look, hown, hB⟩
theorem St.runs {l : List Pr} {Q : Nat → Prop} {k m : Nat} {w : World} {p d j : Nat} (h : St l Q k m w p d j) :
    Calls Tryz.prog 31 #[.pointer (some ⟨p, 0, none⟩)] w fun e w' => ∃ ad n c, e = .returned (.slice ad n c) ∧ n ≤ 4 ∧ Below w.heap.size w w' := by
  obtain ⟨g, rs, sz, S, ⟨vr, pa, pc, FM, FJ, G, h1, _⟩, h2⟩ := h
  have := h2.free.rl
  refine (mruns_any w p d j g vr pa pc FM h1 (by omega)).mono ?_
  rintro e w' ⟨ad, c, rfl, _, hB⟩
  exact ⟨ad, _, c, rfl, this, hB⟩
end Go.Proofs.YtdjodigimhgklaaGreatDoor
