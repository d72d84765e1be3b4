import Derived.Test.YthalpnpnbclipaaGreatC47
import Derived.Test.YthalpnpnbclipaaGreatC46
/- A store on a disk that may be cut: Put and Open. -/
namespace Go.Proofs.YthalpnpnbclipaaGreat
open Go.RowKit Go.Shelf Go.Maps

attribute [local go_sem] Oper.semAt_some

/-- a store, and its disk, whose file has its records, and perhaps, where its journal is dead, a beginning of one more -/
structure StC (w : World) (s d : Nat) (os : List Ob) (S : DG) (F G : Nat → Prop) (dead : Bool) : Prop where
  st : IsSt w s d os (fileB (os.map obB)).length dead F
  dk : IsDisk w d S G
  dis : ∀ k, F k → ¬ G k
  cg : CG S objNm.data.toList (os.map obB) dead
  pu : Pure os
  sm : ∀ p ∈ os, (obB p).length ≤ 4097
theorem StC.turn {w w' : World} {s d : Nat} {os : List Ob} {S : DG} {F G X : Nat → Prop} {dead : Bool} (h : StC w s d os S F G dead) (hT : Turn X w w') (hX : ∀ k, F k ∨ G k → ¬ X k) : StC w' s d os S F G dead := ⟨h.st.turn hT (fun k hk => hX k (.inl hk)), h.dk.turn hT (fun k hk => hX k (.inr hk)), h.dis, h.cg, h.pu, h.sm⟩
theorem StC.below {w w' : World} {s d : Nat} {os : List Ob} {S : DG} {F G : Nat → Prop} {dead : Bool} (h : StC w s d os S F G dead) (hB : Below w.heap.size w w') : StC w' s d os S F G dead := h.turn (Turn.of_below (fun _ => False) hB) (fun _ _ => id)
theorem cfileB_le (rs : List (List UInt8)) (N : Nat) (h : ∀ r ∈ rs, r.length ≤ N) : (fileB rs).length ≤ rs.length * (N + 18) := by
  induction rs with
  | nil => simp [fileB]
  | cons r rs ih =>
    have h1 := ih (fun x hx => h x (by simp [hx]))
    have h2 := (recB_pos r).2
    have h3 := h r (by simp)
    simp only [fileB, List.map_cons, List.flatten_cons, List.length_append, List.length_cons] at h1 ⊢
    rw [Nat.add_mul]
    omega
theorem StC.fit {w : World} {s d : Nat} {os : List Ob} {S : DG} {F G : Nat → Prop} {dead : Bool} (h : StC w s d os S F G dead) (hn : os.length ≤ 100) : (fileB (os.map obB)).length ≤ 411500 := by
  have h1 := cfileB_le (os.map obB) 4097 (fun r hr => by
    obtain ⟨p, hp, rfl⟩ := List.mem_map.1 hr
    exact h.sm p hp)
  rw [List.length_map] at h1
  exact Nat.le_trans h1 (Nat.mul_le_mul hn (Nat.le_refl _))
theorem CG.free {S : DG} {nm : List UInt8} {ds : List (List UInt8)} (h : CG S nm ds false) (hnm : nameB nm = true) (hc : S.cut = false) (l : List UInt8) (hfit : (recB l).length + (fileB ds).length ≤ 4194304) : (S.app nm (recB l)).2 = 0 ∧ (S.app nm (recB l)).1.cut = false := by
  have hw := h.whole
  have hn := h.n
  have he : S.app nm (recB l) = pieces ((recB l).length + 1) S nm (recB l) := by
    unfold DG.app
    rw [if_neg (by rw [hnm]; decide), if_neg (by rw [hw]; intro e; rcases e with e | e <;> omega), if_neg (by simp [recB_ne])]
  rw [he, pieces_free _ S nm _ hc (Nat.le_refl _)]
  exact ⟨rfl, hc⟩

/-- what lies behind a Put of a blob -/
structure PutCut (w w' : World) (s d : Nat) (os os' : List Ob) (S S' : DG) (F G F' G' : Nat → Prop) (dead dead' : Bool) (b : List UInt8) (id er : Int) : Prop where
  tn : Turn (fun k => F k ∨ G k) w w'
  st : StC w' s d os' S' F' G' dead'
  hF : ∀ k, F' k → F k ∨ w.heap.size ≤ k
  hG : ∀ k, G' k → G k ∨ w.heap.size ≤ k
  wr : S'.wr ≤ S.wr + 4115
  res : (er = 0 ∧ os' = os ++ [.blob b] ∧ id = oid (.blob b)) ∨ (os' = os ∧ (er = 0 ∨ er = 6 ∨ er = 7))
  has : er = 0 → (findO os' id).isSome = true ∧ 0 ≤ id ∧ id ≤ 18446744073709551615
  free : S.cut = false → dead = false → er ≠ 6
theorem sput_cut (w : World) (s d : Nat) (os : List Ob) (S : DG) (F G : Nat → Prop) (dead : Bool) (h : StC w s d os S F G dead) (a : Option Addr) (n c : Nat) (b : List UInt8) (hb : Bytes w a n b) (hnil : a = none → n = 0 ∧ c = 0) (ha : 0 < n → ∀ x, a = some x → ¬ (F x.block ∨ G x.block)) (hl : n ≤ 4096) (hn : os.length ≤ 90) (hw : S.wr ≤ 1000000) :
    Calls Tryz.prog 11 #[.pointer (some ⟨s, 0, none⟩), .iface 65 (.agg #[.slice a n c])] w fun e w' => ∃ id er os' S' F' G' dead', e = .returned (.tuple #[.int .u64 id, .int .i64 er]) ∧ PutCut w w' s d os os' S S' F G F' G' dead dead' b id er := by
  have hlen := hb.1
  have hfit := h.fit (by omega)
  have hib := idOf_bounds (obB (.blob b))
  have hrp := (recB_pos (98 :: b)).2
  simp only [List.length_cons] at hrp
  cases hf : findO os (oid (.blob b)) with
  | some p =>
    by_cases hp : p = .blob b
    · subst hp
      refine (sput_same w s d os _ _ F h.st a n c b hb hnil hl hf).mono ?_
      rintro e w' ⟨he, hB⟩
      exact ⟨_, _, os, S, F, G, dead, he, Turn.of_below _ hB, h.below hB, fun k hk => .inl hk, fun k hk => .inl hk, by omega, .inr ⟨rfl, .inl rfl⟩, fun _ => ⟨by rw [hf]; rfl, hib.1, hib.2⟩, fun _ _ => by decide⟩
    · refine (sput_other w s d os _ _ F h.st a n c b hb hnil hl p hf hp).mono ?_
      rintro e w' ⟨he, hB⟩
      exact ⟨_, _, os, S, F, G, dead, he, Turn.of_below _ hB, h.below hB, fun k hk => .inl hk, fun k hk => .inl hk, by omega, .inr ⟨rfl, .inr (.inr rfl)⟩, fun e => absurd e (by decide), fun _ _ => by decide⟩
  | none =>
    subst hlen
    cases dead with
    | true =>
      obtain ⟨j, b', M, u, FJ, O, hst⟩ := h.st
      have hx := sput_none w s d j b' M u _ os _ true FJ O F hst _ (.blob b) (blob_at hb hnil hl).1 (blob_pure b hl).1 hf (.inr rfl)
      rw [if_neg (by omega)] at hx
      refine hx.mono ?_
      rintro e w' ⟨he, hB⟩
      exact ⟨_, _, os, S, F, G, true, he, Turn.of_below _ hB, h.below hB, fun k hk => .inl hk, fun k hk => .inl hk, by omega, .inr ⟨rfl, .inr (.inl rfl)⟩, fun e => absurd e (by decide), fun _ e => by cases e⟩
    | false =>
      have hw0 := h.cg.whole
      have hSn := h.cg.n
      obtain ⟨hcase, hwr⟩ := h.cg.app objNm_name (98 :: b) (by simp only [List.length_cons]; omega) (by omega)
      have hfree := fun hc => h.cg.free objNm_name hc (98 :: b) (by omega)
      refine (sput_new w s d os _ F h.st S G h.dk h.dis _ (.blob b) (fun W hT => blob_at (hT.bytes hb ha) hnil hl) (blob_pure b hl).1 hf (by omega) (by rw [hw0]; omega) (by rw [hw0]; exact Nat.le_refl _) (by omega) (by omega)).mono ?_
      rintro e w' ⟨he, hT, F', G', hd', hF', hG', hFG', hc⟩
      change (S.app objNm.data.toList (recB (obB (.blob b)))).2 = 0 ∧ _ ∨ _ at hcase
      rcases hcase with ⟨h0, hcg⟩ | ⟨h6, hcg⟩
      · rw [if_pos h0] at he
        rcases hc with ⟨_, hS⟩ | ⟨hne, _⟩
        · refine ⟨oid (.blob b), 0, os ++ [.blob b], _, F', G', false, by rw [he, h0], hT, ⟨?_, hd', hFG', by rw [List.map_append]; exact hcg, h.pu.snoc (blob_pure b hl).2 hf, fun p hp => ?_⟩, hF', hG', by show (S.app objNm.data.toList (recB (98 :: b))).1.wr ≤ _; omega, .inl ⟨rfl, rfl, rfl⟩, fun _ => ⟨by rw [findO_snoc os _ _ hf, if_pos rfl]; rfl, hib.1, hib.2⟩, fun _ _ => by decide⟩
          · rw [List.map_append, List.map_cons, List.map_nil, fileB_snoc, List.length_append]
            exact hS
          · rcases List.mem_append.1 hp with hp | hp
            · exact h.sm p hp
            · simp at hp; subst hp; simp only [obB, List.length_cons]; omega
        · exact absurd h0 hne
      · have h6' : (S.app objNm.data.toList (recB (obB (.blob b)))).2 = 6 := h6
        rw [if_neg (by rw [h6']; decide), h6'] at he
        rcases hc with ⟨h0, _⟩ | ⟨_, hS⟩
        · rw [h6'] at h0; cases h0
        · rw [h6'] at hS
          refine ⟨0, 6, os, _, F', G', true, he, hT, ⟨hS, hd', hFG', hcg, h.pu, h.sm⟩, hF', hG', by show (S.app objNm.data.toList (recB (98 :: b))).1.wr ≤ _; omega, .inr ⟨rfl, .inr (.inl rfl)⟩, fun e => absurd e (by decide), fun hcf _ => ?_⟩
          have := (hfree hcf).1
          rw [h6] at this
          cases this
theorem sopen_cut (w : World) (d : Nat) (os : List Ob) (S : DG) (G : Nat → Prop) (dead : Bool) (hd : IsDisk w d S G) (hg : CG S objNm.data.toList (os.map obB) dead) (hc : S.cut = false) (hp : Pure os) (hsm : ∀ p ∈ os, (obB p).length ≤ 4097) (hn : os.length ≤ 90) (hw : S.wr ≤ 1000000) :
    Calls Tryz.prog 9 #[.pointer (some ⟨d, 0, none⟩)] w fun e w' => ∃ s S' F G', e = .returned (.tuple #[.pointer (some ⟨s, 0, none⟩), .int .i64 0]) ∧ StC w' s d os S' F G' false ∧ S'.cut = false ∧ S'.wr ≤ S.wr + 1 ∧ Turn G w w' ∧ (∀ k, F k → w.heap.size ≤ k) ∧ (∀ k, G' k → G k ∨ w.heap.size ≤ k) := by
  have hSn := hg.n
  have hlen := hg.len
  have hfit : (fileB (os.map obB)).length ≤ 90 * 4115 := by
    have h1 := cfileB_le (os.map obB) 4097 (fun r hr => by
      obtain ⟨p, hp, rfl⟩ := List.mem_map.1 hr
      exact hsm p hp)
    rw [List.length_map] at h1
    exact Nat.le_trans h1 (Nat.mul_le_mul hn (Nat.le_refl _))
  refine (sopen_any w d S G hd (by omega) (by omega) (by unfold maxLen; omega)).mono ?_
  rintro e w' ⟨hT, G', hd', hG', hcs⟩
  obtain ⟨ho, hcg, hwr, hct⟩ := hg.opened hc
  rw [ho, hg.parse, hp.load] at hcs
  rcases hcs with ⟨h0, _⟩ | ⟨_, h0, _⟩ | ⟨_, os', h0, h1, _⟩ | ⟨_, os', s, F, h0, h1, he, hS, hF, hFG⟩
  · exact absurd rfl h0
  · cases h0
  · cases h0; omega
  · cases h0
    exact ⟨s, _, F, G', he, ⟨hS, hd', hFG, hcg, hp, hsm⟩, hct, hwr, hT, hF, hG'⟩
end Go.Proofs.YthalpnpnbclipaaGreat

/- The walk of Commit. -/
namespace Go.Proofs.YthalpnpnbclipaaGreat
open Go.RowKit Go.Maps

attribute [local go_sem] Oper.semAt_some
theorem step_kindError {ops : Array Oper} {o : Oper} {a : Act} {K : Act → World → Prop} {Q : Exit → Act → World → Prop} {E : Prop} (w : World) (ok : Bool) (e0 E0 : Int) (hE : E0 = if e0 = 0 ∧ ok = false then 170 else e0) (hgd : o.guard = none) (x y : Nat)
    (ho : o.op = .call { callee := .value (.func 92), args := #[.tmp x, .tmp y], argTypes := #[4, 29] }) (hx : a.tmps[x]?.getD undef = .bool ok) (hy : a.tmps[y]?.getD undef = .int .i64 e0)
    (hK : K (a.put o.dst (.int .i64 E0)) w) :
    if Region.wanted o (yielded ops a.tmps) = true then Oper.wp Tryz.prog o a w K Q else E := by
  have hw : Region.wanted o (yielded ops a.tmps) = true := by simp [Region.wanted, hgd]
  rw [if_pos hw]
  have hc := kindError_any ok e0 w
  rw [← hE] at hc
  unfold Oper.wp execOp
  simp [ho, resolve, invoke, go_sem, hx, hy]
  refine hc.mono ?_
  rintro y w' ⟨rfl, h2⟩
  rw [h2]
  simpa [go_sem] using hK

set_option maxRecDepth 20000 in
set_option maxHeartbeats 4000000 in
theorem sasCommit_any (X : Value) (t : Int) (a : Option Addr) (n c : Nat) (au : ByteArray) (dt : Int) (tx : ByteArray) (ok : Bool) (e0 E : Int) (h1 : ∀ xT w, (Instr.typeAssert X xT 39 true).run Tryz.prog w = .ok (.tuple #[.agg #[.int .u64 t, .slice a n c, .string au, .int .i64 dt, .string tx], .bool ok]) w) (hE : E = if e0 = 0 ∧ ok = false then 170 else e0) (w : World) :
    Calls Tryz.prog 60 #[X, .int .i64 e0] w fun e w' => e = .returned (.tuple #[.agg #[.int .u64 t, .slice a n c, .string au, .int .i64 dt, .string tx], .int .i64 E]) ∧ Below w.heap.size w w' := by
  go_enter Tryz.func60, Tryz.ntmps60
  go_wp2_with fail
  obtain ⟨W0, hW0⟩ : ∃ W0, W0 = ((w.alloc (.cells #[.int .u64 0, .slice none 0 0, .string ⟨#[]⟩, .int .i64 0, .string ⟨#[]⟩] 39)).alloc (.cells #[.int .u64 t, .slice a n c, .string au, .int .i64 dt, .string tx] 39)) := ⟨_, rfl⟩
  have HB0 : Hid (Below w.heap.size w W0) := (by rw [hW0]; exact ((Below.refl _ w).alloc (Nat.le_refl _) _).alloc (by simp) _ : Below w.heap.size w W0)
  have HK : Hid (E = if e0 = 0 ∧ ok = false then 170 else e0) := hE
  have b1 : Box5 W0 (w.heap.size + 1) (.int .u64 t) (.slice a n c) (.string au) (.int .i64 dt) (.string tx) := by
    have := Box5.new (w.alloc (.cells #[.int .u64 0, .slice none 0 0, .string ⟨#[]⟩, .int .i64 0, .string ⟨#[]⟩] 39)) (.int .u64 t) (.slice a n c) (.string au) (.int .i64 dt) (.string tx)
    rw [World.size_alloc] at this
    rw [hW0]; exact this
  have b0 : Box5 W0 w.heap.size (.int .u64 0) (.slice none 0 0) (.string ⟨#[]⟩) (.int .i64 0) (.string ⟨#[]⟩) := by
    have h0 := Box5.new w (.int .u64 0) (.slice none 0 0) (.string ⟨#[]⟩) (.int .i64 0) (.string ⟨#[]⟩)
    rw [hW0]; exact h0.kept ((Below.refl _ _).alloc (Nat.le_refl _) _)
  obtain ⟨x0, x1, x2, x3, x4⟩ := b1.cell
  obtain ⟨y0, y1, y2, y3, y4⟩ := b0.frozen
  obtain ⟨v0, v1, v2, v3, v4⟩ := b0.cell
  obtain ⟨z0, z1, z2, z3, z4⟩ := (b0.all (.int .u64 t) (.slice a n c) (.string au) (.int .i64 dt) (.string tx)).cell
  rw [← hW0]
  clear hW0 hE
  go_region_law (first
    | (refine step_kindError _ ok e0 E HK.out (by rfl) _ _ (by rfl) (by rfl) (by rfl) ?_))
  all_goals
   go_wp2
   refine bodyPost_ret (v := .tuple #[.agg #[.int .u64 t, .slice a n c, .string au, .int .i64 dt, .string tx], .int .i64 E]) (by simp [results, Tryz.results60, go_sem, z0, z1, z2, z3, z4]) rfl ⟨rfl, ?_⟩
   have hBd : Below w.heap.size w W0.drew := ⟨HB0.out.os, HB0.out.tape, HB0.out.output, HB0.out.size, HB0.out.block⟩
   exact below5 hBd (Nat.le_refl _) _ _ _ _ _
set_option maxRecDepth 20000 in
set_option maxHeartbeats 4000000 in
theorem scom_of (w : World) (s : Value) (i : Int) (e0 E : Int) (Rx : Value → World → Prop) (hg : Calls Tryz.prog 14 #[s, .int .u64 i] (w.alloc (.cells #[.int .u64 0, .slice none 0 0, .string ⟨#[]⟩, .int .i64 0, .string ⟨#[]⟩] 39)) fun e w' => ∃ X, e = .returned (.tuple #[X, .int .i64 e0]) ∧ Rx X w' ∧ Below (w.alloc (.cells #[.int .u64 0, .slice none 0 0, .string ⟨#[]⟩, .int .i64 0, .string ⟨#[]⟩] 39)).heap.size (w.alloc (.cells #[.int .u64 0, .slice none 0 0, .string ⟨#[]⟩, .int .i64 0, .string ⟨#[]⟩] 39)) w')
    (hX : ∀ X W, Rx X W → ∃ t a n c au dt tx ok, (∀ xT w, (Instr.typeAssert X xT 39 true).run Tryz.prog w = .ok (.tuple #[.agg #[.int .u64 t, .slice a n c, .string au, .int .i64 dt, .string tx], .bool ok]) w) ∧ (E = if e0 = 0 ∧ ok = false then 170 else e0)) :
    Calls Tryz.prog 24 #[s, .int .u64 i] w fun e w' => ∃ t a n c au dt tx X W1, e = .returned (.tuple #[.agg #[.int .u64 t, .slice a n c, .string au, .int .i64 dt, .string tx], .int .i64 E]) ∧ Rx X W1 ∧ (∃ ok, ∀ xT w, (Instr.typeAssert X xT 39 true).run Tryz.prog w = .ok (.tuple #[.agg #[.int .u64 t, .slice a n c, .string au, .int .i64 dt, .string tx], .bool ok]) w) ∧ Below (w.alloc (.cells #[.int .u64 0, .slice none 0 0, .string ⟨#[]⟩, .int .i64 0, .string ⟨#[]⟩] 39)).heap.size (w.alloc (.cells #[.int .u64 0, .slice none 0 0, .string ⟨#[]⟩, .int .i64 0, .string ⟨#[]⟩] 39)) W1 ∧ Below w.heap.size w w' ∧ (∀ k, k ≠ w.heap.size → k < W1.heap.size → w'.heap[k]? = W1.heap[k]?) := by
  have hB0 : Below w.heap.size w (w.alloc (.cells #[.int .u64 0, .slice none 0 0, .string ⟨#[]⟩, .int .i64 0, .string ⟨#[]⟩] 39)) := (Below.refl _ w).alloc (Nat.le_refl _) _
  have HX : Hid (∀ X W, Rx X W → ∃ t a n c au dt tx ok, (∀ xT w, (Instr.typeAssert X xT 39 true).run Tryz.prog w = .ok (.tuple #[.agg #[.int .u64 t, .slice a n c, .string au, .int .i64 dt, .string tx], .bool ok]) w) ∧ (E = if e0 = 0 ∧ ok = false then 170 else e0)) := hX
  clear hX
  go_enter Tryz.func24, Tryz.ntmps24
  go_wp2_with first
    | (go_at_call 14; refine hg.mono ?_; clear hg; rintro e w0 ⟨X, rfl, hR0, hBg⟩; have HR : Hid (Rx X w0) := hR0; have HBg : Hid (Below (w.alloc (.cells #[.int .u64 0, .slice none 0 0, .string ⟨#[]⟩, .int .i64 0, .string ⟨#[]⟩] 39)).heap.size (w.alloc (.cells #[.int .u64 0, .slice none 0 0, .string ⟨#[]⟩, .int .i64 0, .string ⟨#[]⟩] 39)) w0) := hBg; obtain ⟨t, a, n, c, au, dt, tx, ok, hta, hE⟩ := HX.out X w0 hR0; have HTA : Hid (∀ xT w, (Instr.typeAssert X xT 39 true).run Tryz.prog w = .ok (.tuple #[.agg #[.int .u64 t, .slice a n c, .string au, .int .i64 dt, .string tx], .bool ok]) w) := hta; have HE : Hid (E = if e0 = 0 ∧ ok = false then 170 else e0) := hE; clear hR0 hBg hta hE)
    | (go_at_call 60; refine (sasCommit_any X t a n c au dt tx ok e0 E HTA.out HE.out _).mono ?_; rintro e w1 ⟨rfl, hB1⟩; have HB : Below (w.alloc (.cells #[.int .u64 0, .slice none 0 0, .string ⟨#[]⟩, .int .i64 0, .string ⟨#[]⟩] 39)).heap.size (w.alloc (.cells #[.int .u64 0, .slice none 0 0, .string ⟨#[]⟩, .int .i64 0, .string ⟨#[]⟩] 39)) w1 := HBg.out.trans (hB1.mono HBg.out.size); have hb : Box5 w1 w.heap.size (.int .u64 0) (.slice none 0 0) (.string ⟨#[]⟩) (.int .i64 0) (.string ⟨#[]⟩) := (HB.block w.heap.size (by simp)).trans (World.alloc_heap_new _ _); obtain ⟨cb0, cb1, cb2, cb3, cb4⟩ := hb.cell; obtain ⟨fb0, fb1, fb2, fb3, fb4⟩ := hb.frozen)
  obtain ⟨d0, d1, d2, d3, d4⟩ := (hb.all (.int .u64 t) (.slice a n c) (.string au) (.int .i64 dt) (.string tx)).cell
  refine bodyPost_ret (v := .tuple #[.agg #[.int .u64 t, .slice a n c, .string au, .int .i64 dt, .string tx], .int .i64 E]) (by simp [results, Tryz.results24, go_sem, d0, d1, d2, d3, d4]) rfl ⟨t, a, n, c, au, dt, tx, X, w0, rfl, HR.out, ⟨ok, HTA.out⟩, HBg.out, below5 (hB0.trans (HB.mono (by simp))) (Nat.le_refl _) _ _ _ _ _, fun k hk hl => ?_⟩
  rw [Below.heap_setCell _ _ _ _ (by exact hk), Below.heap_setCell _ _ _ _ (by exact hk), Below.heap_setCell _ _ _ _ (by exact hk), Below.heap_setCell _ _ _ _ (by exact hk), Below.heap_setCell _ _ _ _ (by exact hk)]
  exact hB1.block k hl
theorem scom_nil (w : World) (i : Int) : Calls Tryz.prog 24 #[.pointer none, .int .u64 i] w fun e w' => ∃ t a n c au dt tx, e = .returned (.tuple #[.agg #[.int .u64 t, .slice a n c, .string au, .int .i64 dt, .string tx], .int .i64 1]) ∧ Below w.heap.size w w' := by
  refine (scom_of w (.pointer none) i 1 1 (fun X _ => X = .nilIface) ((get_nil _ i).mono fun e w' h => ⟨_, h.1, rfl, h.2 ▸ Below.refl _ _⟩) ?_).mono ?_
  · rintro X W rfl
    exact ⟨0, none, 0, 0, ⟨#[]⟩, 0, ⟨#[]⟩, false, nil_commit, rfl⟩
  · rintro e w' ⟨t, a, n, c, au, dt, tx, X, W1, he, _, _, _, hB, _⟩
    exact ⟨t, a, n, c, au, dt, tx, he, hB⟩
theorem scom_no (w : World) (s d : Nat) (os : List Ob) (sz : Nat) (cut : Bool) (F : Nat → Prop) (h : IsSt w s d os sz cut F) (i : Int) (h0 : 0 ≤ i) (h1 : i ≤ 18446744073709551615) (o : Ob) (hf : findO os i = some o) (hk : isCom o = false) :
    Calls Tryz.prog 24 #[.pointer (some ⟨s, 0, none⟩), .int .u64 i] w fun e w' => ∃ t a n c au dt tx, e = .returned (.tuple #[.agg #[.int .u64 t, .slice a n c, .string au, .int .i64 dt, .string tx], .int .i64 170]) ∧ Below w.heap.size w w' := by
  refine (scom_of w (.pointer (some ⟨s, 0, none⟩)) i 0 170 (fun X W => ∃ O, Held O o X W) ((get_there _ s d os sz cut F (h.below ((Below.refl _ w).alloc (Nat.le_refl _) _)) i h0 h1 o hf).mono fun e w' ⟨u, h1, h2, h3⟩ => ⟨u, h1, ⟨_, h2⟩, h3⟩) ?_).mono ?_
  · rintro X W ⟨O, hX⟩
    obtain ⟨t, u, rfl, ht⟩ := held_iface hX
    refine ⟨0, none, 0, 0, ⟨#[]⟩, 0, ⟨#[]⟩, false, no_commit t ?_ u, rfl⟩
    rw [ht]
    cases o <;> first | (cases hk; done) | (show obT _ ≠ _; simp [obT]; done) | (simp only [obT]; decide)
  · rintro e w' ⟨t, a, n, c, au, dt, tx, X, W1, he, _, _, _, hB, _⟩
    exact ⟨t, a, n, c, au, dt, tx, he, hB⟩
theorem scom_yes (w : World) (s d : Nat) (os : List Ob) (sz : Nat) (cut : Bool) (F : Nat → Prop) (h : IsSt w s d os sz cut F) (i : Int) (h0 : 0 ≤ i) (h1 : i ≤ 18446744073709551615) (o : Ob) (hf : findO os i = some o) (hk : isCom o = true) :
    Calls Tryz.prog 24 #[.pointer (some ⟨s, 0, none⟩), .int .u64 i] w fun e w' => ∃ t a n c au dt tx, e = .returned (.tuple #[.agg #[.int .u64 t, .slice a n c, .string au, .int .i64 dt, .string tx], .int .i64 0]) ∧ ObS o (.iface 39 (.agg #[.int .u64 t, .slice a n c, .string au, .int .i64 dt, .string tx])) w' ∧ Below w.heap.size w w' := by
  refine (scom_of w (.pointer (some ⟨s, 0, none⟩)) i 0 0 (fun X W => Held (Fresh (w.heap.size + 1) W) o X W) ((get_there _ s d os sz cut F (h.below ((Below.refl _ w).alloc (Nat.le_refl _) _)) i h0 h1 o hf).mono fun e w' ⟨u, h1, h2, h3⟩ => ⟨u, h1, by rw [World.size_alloc] at h2; exact h2, h3⟩) ?_).mono ?_
  · rintro X W hX
    cases o <;> first | (cases hk; done) | skip
    obtain ⟨ad, cp, rfl, _⟩ := hX.get.1; exact ⟨_, ad, _, cp, _, _, _, true, as_commit _, rfl⟩
  · rintro e w' ⟨t, a, n, c, au, dt, tx, X, W1, he, hX, ⟨ok, hta⟩, hBW, hB, hsame⟩
    refine ⟨t, a, n, c, au, dt, tx, he, ?_, hB⟩
    have hX' := (hX.kept (W' := w') fun k hk => hsame k (by have := hk.1; omega) hk.lt).get
    obtain ⟨t0, u, rfl, ht⟩ := held_iface hX
    have h2 : t0 = 39 := by rw [ht]; cases o <;> first | (cases hk; done) | rfl
    subst h2
    have h3 := hta 0 w
    rw [as_commit] at h3
    cases h3
    exact hX'
end Go.Proofs.YthalpnpnbclipaaGreat
