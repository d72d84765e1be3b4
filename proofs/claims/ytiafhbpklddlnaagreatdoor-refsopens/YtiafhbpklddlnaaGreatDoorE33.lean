import Derived.Test.YtiafhbpklddlnaaGreatDoorE10
import Derived.Test.YtiafhbpklddlnaaGreatDoorE32
import Derived.Test.YtiafhbpklddlnaaGreatDoorE31
import Derived.Shelf.SlMaps.Clone
import Derived.Maps.OwnIn
import Derived.Maps.AppendAt
/- The walk of Names: the names of all files, rising. -/
namespace Go.Proofs.YtiafhbpklddlnaaGreatDoor
open Go.RowKit Go.Maps

/-- these are the names of the disk's files, rising -/
def DG.Lists (S : DG) (ns : List (List UInt8)) : Prop := ∃ ks : List (List UInt8), ks.Nodup ∧ (∀ x, x ∈ ks ↔ (S.f x).isSome = true) ∧ ks.length = S.n ∧ (∀ x ∈ ks, x.length ≤ maxLen) ∧ ns = ks.mergeSort leB

theorem DG.Lists.same {S T : DG} {ns ms : List (List UInt8)} (h : S.Lists ns) (k : T.Lists ms) (e : ∀ x, (S.f x).isSome = (T.f x).isSome) : ns = ms := by
  obtain ⟨ks, n1, m1, _, _, rfl⟩ := h
  obtain ⟨js, n2, m2, _, _, rfl⟩ := k
  exact mergeSort_of_perm ((List.perm_ext_iff_of_nodup n1 n2).2 fun x => by rw [m1, m2, e])
theorem DG.Lists.mem {S : DG} {ns : List (List UInt8)} (h : S.Lists ns) (x : List UInt8) (hx : x ∈ ns) : (S.f x).isSome = true ∧ x.length ≤ maxLen := by
  obtain ⟨ks, n1, m1, _, hl, rfl⟩ := h
  have : x ∈ ks := (List.mergeSort_perm ks leB).mem_iff.1 hx
  exact ⟨(m1 x).1 this, hl x this⟩
theorem DG.Lists.len {S : DG} {ns : List (List UInt8)} (h : S.Lists ns) : ns.length = S.n := by
  obtain ⟨ks, _, _, hl, _, rfl⟩ := h
  rw [List.length_mergeSort, hl]

theorem ownsRow_strs {w : World} {B n : Nat} {v : Value} {xs : List Value} (h : w.ownsRow B 9 1 v n xs) : ∃ ad c, v = .slice ad n c ∧ n ≤ c ∧ (ad = none → n = 0) ∧ ∀ i u, xs[i]? = some u → ∃ b, ad = some ⟨b, 0, none⟩ ∧ B ≤ b ∧ b < w.heap.size ∧ w.cell? ⟨b, i, none⟩ = some u := by
  have hl := h.1
  rcases h.2 with ⟨rfl, rfl⟩ | ⟨g, cap, cur, rfl, hb, _, hc, _⟩
  · refine ⟨none, 0, rfl, Nat.le_refl _, fun _ => rfl, fun i u hu => ?_⟩
    have := (List.getElem?_eq_some_iff.1 hu).1
    omega
  · refine ⟨_, _, rfl, hc, (fun h => by cases h), fun i u hu => ⟨g, rfl, hb, (h.lt g rfl).2, ?_⟩⟩
    have := h.cells (g := g) rfl i u hu
    rw [Addr.add_lit, Nat.zero_add] at this
    exact this

end Go.Proofs.YtiafhbpklddlnaaGreatDoor

/- The walk of All on refs that are there: what it tells. -/
namespace Go.Proofs.YtiafhbpklddlnaaGreatDoor
open Go.RowKit Go.Shelf Go.Maps

attribute [local go_sem] Oper.semAt_some

set_option maxRecDepth 100000 in
set_option maxHeartbeats 2000000 in
theorem mclone_any (b : Nat) (M : DataW Value) (w : World) (hown : w.ownsMap Tryz.prog 9 rvR b (size M) M) :
    Calls Tryz.prog 64 #[.map (some b)] w fun e w' => e = .returned (.map (some w.heap.size)) ∧ w'.ownsMap Tryz.prog 9 rvR w.heap.size (size M) M ∧ Below w.heap.size w w' := by
  obtain ⟨es, clock, hb, F, hs, hD⟩ := hown
  have hx : Calls Tryz.prog 64 #[.map (some b)] w fun e w' => e = .returned (.map (some w.heap.size)) ∧ w' = w.alloc (.map es clock) := by
    clear hs hD F
    have hq := fun w => run_eql_map_nil_sl (P := Tryz.prog) w 63 _ _ (some b) Tryz.underlying63
    go_enter Tryz.func64, Tryz.ntmps64
    go_wp2
    rw [run_callFunc_extern Tryz.func90 (by kernel_rfl) (by kernel_rfl) (by kernel_rfl) (e := Extern.MapsClone.clone) (by kernel_rfl), run_maps_clone_sl w 63 hb]
    simp only [Result.andThen]
    rw [Oper.upon_value]
    go_wp2
    rw [run_typeAssert_map_sl _ 63 20 _ _ _ Tryz.underlying63]
    simp only [Result.andThen]
    rw [Oper.upon_value]
    go_wp2
    go_ret
    exact ⟨rfl, rfl⟩
  refine hx.mono fun e w' ⟨he, hw⟩ => ?_
  subst hw
  have hB : Below w.heap.size w (w.alloc (.map es clock)) := (Below.refl _ w).alloc (Nat.le_refl _) _
  exact ⟨he, ⟨es, clock, (MapKept.heap_alloc w _).1, F, hs, hD⟩, hB⟩

theorem own_get {w : World} {b : Nat} {M : DataW Value} {g : List UInt8 → Int} (h : w.ownsMap Tryz.prog 9 rvR b (size M) M) (ha : ∀ l, M.atKey (.string l) zeroR = .held (.int .u64 (g l))) (s : ByteArray) (hs : s.size ≤ maxLen) (W : World) (hW : W.heap[b]? = w.heap[b]?) :
    (Instr.lookup 63 (.map (some b)) (.string s) false).run Tryz.prog W = .ok (.int .u64 (g (bs s))) W := by
  obtain ⟨u', ps, hrun, hu'⟩ := (ownsMap_keptR h hW).lookup keyed Tryz.underlying63 (zeroIdV W) (show rvR (.int .u64 0) = some (zeroR, []) from rfl) (keyOfS s hs)
  rw [ha] at hu'
  simp only [rvR, Option.some.injEq, Prod.mk.injEq] at hu'
  obtain ⟨e, _⟩ := hu'
  cases e
  exact hrun

/-- the names of a map, rising, in a row -/
theorem sorted_keys (b : Nat) (M : DataW Value) (w : World) (hown : w.ownsMap Tryz.prog 9 rvR b (size M) M) (hn : size M ≤ 1000000) (g : List UInt8 → Int) (hh : ∀ l, has M (.string l) = (g l != 0)) (L : List Ch) (hL : AllR g (size M) L) :
    Calls Tryz.prog 65 #[.func (.func 93) #[] #[.pointer (some ⟨w.heap.size, 0, none⟩)]] (w.alloc (.cells #[.map (some b)] 63)) fun e w' => ∃ a c, e = .returned (.slice a L.length c) ∧ L.length ≤ c ∧ (a = none → L.length = 0) ∧ Below w.heap.size w w' ∧ (∀ i x, L[i]? = some x → ∃ gb, a = some ⟨gb, 0, none⟩ ∧ w.heap.size < gb ∧ gb < w'.heap.size ∧ w'.cell? ⟨gb, i, none⟩ = some (.string x.1)) ∧ ∀ x ∈ L, x.1.size ≤ maxLen := by
  refine (callsIn_wide.1 (Tryz.slices_Sorted_keys_65_66 b (size M) M rvR w hown (by unfold maxLen; omega) (by omega))).mono ?_
  rintro e w2 ⟨v, ss, rfl, hperm, hrow, _, hB⟩
  have ho := hown
  obtain ⟨h1, h2⟩ := strKeysR_nodup ho
  have hle := strKeys_le ho Tryz.underlying9
  have hA : AllR g (size M) ((ss.mergeSort leB).map (fun k => ((⟨k.toArray⟩ : ByteArray), g k))) := ⟨ss, hperm.nodup_iff.2 h1, fun x => by rw [hperm.mem_iff, h2, hh]; simp, by rw [hperm.length_eq, strKeysR_length ho], rfl⟩
  have hLe := hL.one hA
  have hll : ss.length = L.length := by rw [hLe, List.length_map, List.length_mergeSort]
  rw [hll] at hrow
  obtain ⟨a, c, rfl, hc, hnil, hx⟩ := ownsRow_strs hrow
  have hsz : (w.alloc (.cells #[.map (some b)] 63)).heap.size = w.heap.size + 1 := by simp
  refine ⟨a, c, rfl, hc, hnil, ((Below.refl _ w).alloc (Nat.le_refl _) _).trans (hB.mono (by simp)), fun i x hi => ?_, fun x hi => ?_⟩
  · rw [hLe, List.getElem?_map] at hi
    obtain ⟨k, hk, rfl⟩ := Option.map_eq_some_iff.1 hi
    obtain ⟨gb, h3, h4, h5, h6⟩ := hx i (encStr k) (by rw [List.getElem?_map, hk]; rfl)
    rw [hsz] at h4
    exact ⟨gb, h3, by omega, h5, h6⟩
  · rw [hLe] at hi
    obtain ⟨k, hk, rfl⟩ := List.mem_map.1 hi
    have := hle k (hperm.mem_iff.1 ((List.mergeSort_perm ss leB).mem_iff.1 hk))
    simpa [ByteArray.size] using this
end Go.Proofs.YtiafhbpklddlnaaGreatDoor

/- What All tells: all refs, their names rising, whatever the body does to the refs meanwhile. -/
namespace Go.Proofs.YtiafhbpklddlnaaGreatDoor
open Go.RowKit Go.Shelf Go.Maps

attribute [local go_sem] Oper.semAt_some

set_option maxRecDepth 100000 in
set_option maxHeartbeats 4000000 in
theorem all_tells (w : World) (r d j b : Nat) (M : DataW Value) (rs : List (List UInt8)) (g : List UInt8 → Int) (n sz : Nat) (cut : Bool) (FJ F : Nat → Prop) (h : RfAt w r d j b M rs g n sz cut FJ F) (B : Nat) (hB : w.cell? ⟨B, 0, none⟩ = some (.pointer (some ⟨r, 0, none⟩))) (hn : n ≤ 1000000) (L : List Ch) (hL : AllR g n L) (nn : Nat) (hnn : 1 ≤ nn) :
    TellsO Fence.wide nn (nn - 1) Tryz.prog 63 #[.pointer (some ⟨B, 0, none⟩)] chE (fun pre x _ => L[pre.length]? = some x) (fun _ => False) (fun xs => xs = L) w := by
  intro l J Jx f0 W hW hlW _ hJ hJx _ hY h0
  have hRW := h.below hW
  have hcB : W.cell? ⟨B, 0, none⟩ = some (.pointer (some ⟨r, 0, none⟩)) := (hW.cell (p := ⟨B, 0, none⟩) (World.block_lt_of_cell? w _ hB)).trans hB
  have c1 := hRW.c1
  have hcl := fun W' (hB' : Below W.heap.size W W') => mclone_any b M W' (hRW.below hB').own
  have hatv := hRW.atv
  have hhas := hRW.has
  have hmsz := hRW.msz
  have hf0 := hJ.2 _ _ _ h0
  rw [← hmsz] at hL hn
  have HS : Hid (∀ W', W'.ownsMap Tryz.prog 9 rvR W.heap.size (size M) M → Calls Tryz.prog 65 #[.func (.func 93) #[] #[.pointer (some ⟨W'.heap.size, 0, none⟩)]] (W'.alloc (.cells #[.map (some W.heap.size)] 63)) fun e w' => ∃ a c, e = .returned (.slice a L.length c) ∧ L.length ≤ c ∧ (a = none → L.length = 0) ∧ Below W'.heap.size W' w' ∧ (∀ i x, L[i]? = some x → ∃ gb, a = some ⟨gb, 0, none⟩ ∧ W'.heap.size < gb ∧ gb < w'.heap.size ∧ w'.cell? ⟨gb, i, none⟩ = some (.string x.1)) ∧ ∀ x ∈ L, x.1.size ≤ maxLen) := fun W' ho => sorted_keys _ M W' ho hn g hhas L hL
  have HY : Hid (∀ pre x f W1, J pre f W1 → W.heap.size ≤ W1.heap.size → L[pre.length]? = some x → YieldAt Fence.wide (nn - 1) Tryz.prog l (chE x) W1 fun e W' => ∃ f', (∀ k, f' k → f k ∨ W1.heap.size ≤ k) ∧ Turn (fun k => f k ∨ k = l) W1 W' ∧ ((e = .returned (.bool true) ∧ J (pre ++ [x]) f' W') ∨ (e = .returned (.bool false) ∧ Jx (pre ++ [x]) f' W'))) := hY
  have HJ : Hid (Apart J ∧ J [] f0 W ∧ ∀ k, f0 k → k < W.heap.size) := ⟨hJ, h0, hf0⟩
  have HA : Hid (∀ l, M.atKey (.string l) zeroR = .held (.int .u64 (g l))) := hatv
  have HL : Hid (AllR g (size M) L) := hL
  clear hY h0 hJ hJx hatv hL hhas h hB hRW hmsz hf0
  refine callsIn_of_wp Tryz.func63 rfl trivial ?_ rfl
  simp only [Tryz.ntmps63, List.size_toArray, List.length_cons, List.length_nil, Nat.reduceAdd, Nat.reduceSub, Array.replicate_succ, Array.replicate_zero, List.push_toArray, List.append_toArray, List.nil_append, List.cons_append]
  refine wpIn_wide.2 ?_
  have hK := fun mb W => callsIn_wide.1 (Tryz.maps_Keys_66 mb W)
  go_wp2_with first
    | (go_at_call 64; refine (hcl _ (Below.refl _ _)).mono ?_; clear hcl; rintro e W1 ⟨rfl, hown1, hB1⟩; have HS1 := HS.out W1 hown1; have HO1 : Hid (W1.ownsMap Tryz.prog 9 rvR W.heap.size (size M) M ∧ Below W.heap.size W W1) := ⟨hown1, hB1⟩; clear HS hown1 hB1)
    | (go_at_call 66; refine (hK _ _).mono ?_; clear hK; rintro e W1' ⟨rfl, rfl⟩)
    | (go_at_call 65; refine HS1.mono ?_; clear HS1; rintro e W2 ⟨a, c, rfl, hc, hnil, hB2, hcell, hshort⟩; have H2 : Hid (Below W.heap.size W W2 ∧ W2.ownsMap Tryz.prog 9 rvR W.heap.size (size M) M ∧ (∀ i x, L[i]? = some x → ∃ gb, a = some ⟨gb, 0, none⟩ ∧ W.heap.size < gb ∧ gb < W2.heap.size ∧ W2.cell? ⟨gb, i, none⟩ = some (.string x.1)) ∧ ∀ x ∈ L, x.1.size ≤ maxLen) := ⟨HO1.out.2.trans (hB2.mono HO1.out.2.size), ownsMap_keptR HO1.out.1 (hB2.block _ HO1.out.1.lt), (fun i x hx => by obtain ⟨gb, h1, h2, h3, h4⟩ := hcell i x hx; exact ⟨gb, h1, Nat.lt_of_le_of_lt HO1.out.2.size h2, h3, h4⟩), hshort⟩; clear hB2 hcell hshort HO1)
  obtain ⟨N, hN⟩ : ∃ N, N = L.length := ⟨_, rfl⟩
  have HN : Hid (N = L.length) := hN
  rw [← hN] at hnil hc ⊢
  have hN9 : N ≤ 1000000 := by rw [hN, HL.out.len]; exact hn
  clear hN
  refine (wpIn_wide (n := nn)).1 ?_
  gi_loopw [17] (fun i wr => ∃ (k : Nat) (f : Nat → Prop), k ≤ N ∧ i = .int .i64 (k : Int) ∧ Hid (J (L.take k) f wr ∧ (∀ z, f z → f0 z ∨ W2.heap.size ≤ z) ∧ Turn (fun z => f0 z ∨ z = l) W2 wr)) (fun i _ => N - (intOf i).toNat)
  case atStart => exact ⟨0, f0, Nat.zero_le _, rfl, HJ.out.1.1 _ _ _ _ HJ.out.2.1 (Turn.of_below _ H2.out.1), fun z hz => .inl hz, Turn.refl _ _⟩
  case round =>
    obtain ⟨k, f, hk, rfl, H⟩ := hrel
    by_cases hlt : k < N
    · obtain ⟨x, hx⟩ : ∃ x, L[k]? = some x := ⟨_, List.getElem?_eq_getElem (by rw [← HN.out]; exact hlt)⟩
      obtain ⟨gb, rfl, hg1, hg2, hcx⟩ := H2.out.2.2.1 k x hx
      have hxs := H2.out.2.2.2 x (List.mem_of_getElem? hx)
      have hng : ∀ z, W.heap.size ≤ z → z < W2.heap.size → ¬ (f0 z ∨ z = l) := fun z h1 h2 h3 => h3.elim (fun h => by have := HJ.out.2.2 z h; omega) (fun h => by omega)
      have q1 := H.out.2.2.cell hcx (hng gb (by omega) hg2)
      have hmb : W.heap.size < W2.heap.size := H2.out.2.1.lt
      have hgx : g (bs x.1) = x.2 := (HL.out.mem (List.mem_of_getElem? hx)).1
      have hlook0 := own_get H2.out.2.1 HA.out x.1 hxs wr (H.out.2.2.block _ hmb (hng _ (Nat.le_refl _) hmb))
      simp only [hgx] at hlook0
      have i2 : (k : Int) < (N : Int) := by omega
      obtain ⟨fn, tmps, assign, body, hy, hR⟩ := HY.out (L.take k) x f wr H.out.1 (by have h1 := H.out.2.2.size; have h2 := H2.out.1.size; omega) (by rw [List.length_take, Nat.min_eq_left (by rw [← HN.out]; exact hk)]; exact hx)
      have HX : Hid (L.take k ++ [x] = L.take (k + 1)) := (by rw [List.take_add_one, hx]; simp : L.take k ++ [x] = L.take (k + 1))
      obtain ⟨nm, iv⟩ := x
      simp only at q1 hlook0
      clear hx hcx hgx hxs hng
      simp only [chE] at hy
      gi_wp2_with fail
      refine hR.mono ?_
      clear hR
      have hs2 := H2.out.1.size
      have hs3 := H.out.2.2.size
      rintro e W3 ⟨f', hf', hT3, (⟨rfl, hJ3⟩ | ⟨rfl, hJ3⟩)⟩
      · rw [HX.out] at hJ3
        have HE : Hid (J (L.take (k + 1)) f' W3 ∧ (∀ z, f' z → f0 z ∨ W2.heap.size ≤ z) ∧ Turn (fun z => f0 z ∨ z = l) W2 W3) := ⟨hJ3, fun z hz => (hf' z hz).elim (H.out.2.1 z) (fun e => .inr (by omega)), H.out.2.2.trans hT3 (fun z hz e => e.elim (fun e => (H.out.2.1 z e).imp id (fun e => by omega)) .inr)⟩
        clear hJ3 hT3 hf'
        gi_wp2
        go_roundw
        case rel => exact ⟨k + 1, f', by omega, by simp, HE⟩
        case measure => simp [intOf]; omega
      · have HE : Hid (Jx (L.take k ++ [(nm, iv)]) f' W3 ∧ (∀ z, f' z → f0 z ∨ W.heap.size ≤ z) ∧ Turn (fun z => f0 z ∨ z = l) W W3) := ⟨hJ3, fun z hz => (hf' z hz).elim (fun e => (H.out.2.1 z e).imp id (fun e => by omega)) (fun e => .inr (by omega)), (Turn.of_below _ H2.out.1).trans (H.out.2.2.trans hT3 (fun z hz e => e.elim (fun e => (H.out.2.1 z e).imp id (fun e => by omega)) .inr)) (fun _ _ e => e)⟩
        clear hJ3 hT3 hf'
        gi_wp2
        refine bodyPost_ret (results_none rfl _ _ _) rfl ?_
        exact ⟨⟨_, rfl⟩, f', HE.out.2.1, HE.out.2.2, .inr ⟨_, HE.out.1⟩⟩
    · obtain rfl : k = N := by omega
      have HT : Hid (L.take k = L) := (List.take_of_length_le (by rw [← HN.out]; exact Nat.le_refl _) : L.take k = L)
      gi_wp2
      go_end0
      obtain ⟨h1, h2, h3⟩ := H.out
      rw [HT.out] at h1
      have hs2 := H2.out.1.size
      exact ⟨⟨_, rfl⟩, f, fun z hz => (h2 z hz).imp id (fun e => by omega), (Turn.of_below _ H2.out.1).trans h3 (fun _ _ e => e), .inl ⟨_, rfl, h1⟩⟩
end Go.Proofs.YtiafhbpklddlnaaGreatDoor

/- The law's own functions: all refs as a list, changes cut short, two lists held against each other. -/
namespace Go.Proofs.YtiafhbpklddlnaaGreatDoor
open Go.RowKit Go.Shelf Go.Maps

attribute [local go_sem] Oper.semAt_some

theorem row_baseC {W : World} {base base' n : Nat} {v : Value} {xs : List Value} (h : W.ownsRow base 38 2 v n xs) (hb : base' ≤ base) : W.ownsRow base' 38 2 v n xs := by
  refine ⟨h.1, ?_⟩
  rcases h.2 with h | ⟨g, cap, cur, rfl, hg, rest⟩
  · exact .inl h
  · exact .inr ⟨g, cap, cur, rfl, Nat.le_trans hb hg, rest⟩
/-- a change as the law cuts it -/
def cutOne (x : Ch) : Ch := (x.1.extract 0 (min (x.1.size : Int) 250).toNat, x.2)
def cutR (l : List Ch) : List Ch := (l.take 80).map cutOne
/-- a list of refs that is under way, in box c -/
def LstI (c : Nat) (pre : List Ch) (f : Nat → Prop) (W : World) : Prop := ∃ v, Boxed W c 30 v ∧ W.ownsRow (c + 1) 38 2 v pre.length (chCells pre) ∧ ∀ k, f k ↔ (k = c ∨ v.ownBlock = some k)
theorem lstI_apart (c : Nat) : Apart (LstI c) := by
  refine ⟨fun s f X Y ⟨v, h1, h2, h3⟩ ht => ⟨v, (ht.block c h1.lt (fun h => h ((h3 c).2 (.inl rfl)))).trans h1, row_movedC h2 (fun g hg => ht.block g (row_blockC h2 g hg).2 (fun h => h ((h3 g).2 (.inr hg)))), h3⟩, fun s f X ⟨v, h1, h2, h3⟩ k hk => ?_⟩
  rcases (h3 k).1 hk with rfl | e
  · exact h1.lt
  · exact (row_blockC h2 k e).2

theorem lst_box {c : Nat} {W w1 : World} {v : Value} {pre : List Ch} {o : Obj} (hbx : Boxed W c 30 v) (hrow : W.ownsRow (c + 1) 38 2 v pre.length (chCells pre)) (hg : (W.alloc o).grownBy w1 v.ownBlock) : Boxed w1 c 30 v :=
  (hbx.alloc o).kept hg (fun e => by have := (row_blockC hrow c e.symm).1; omega)
theorem lst_push {c : Nat} {W w1 : World} {v v' : Value} {pre : List Ch} {x : Ch} {f : Nat → Prop} {o : Obj} (hbx : Boxed W c 30 v) (hrow : W.ownsRow (c + 1) 38 2 v pre.length (chCells pre)) (hf : ∀ k, f k ↔ (k = c ∨ v.ownBlock = some k))
    (hown : w1.ownsRow (c + 1) 38 2 v' (pre.length + 1) (chCells pre ++ chCells [x])) (hg : (W.alloc o).grownBy w1 v.ownBlock) (hat : v'.ownBlock = v.ownBlock ∨ v'.ownBlock = some (W.alloc o).heap.size) :
    ∃ f', (∀ k, f' k → f k ∨ W.heap.size ≤ k) ∧ Turn f W (w1.setCell ⟨c, 0, none⟩ v') ∧ LstI c (pre ++ [x]) f' (w1.setCell ⟨c, 0, none⟩ v') := by
  refine ⟨fun k => k = c ∨ v'.ownBlock = some k, fun k hk => ?_, ?_, v', (lst_box hbx hrow hg).set v', ?_, fun _ => Iff.rfl⟩
  · rcases hk with rfl | e
    · exact .inl ((hf _).2 (.inl rfl))
    · rcases hat with e' | e'
      · rw [e'] at e; exact .inl ((hf k).2 (.inr e))
      · rw [e'] at e
        have : (W.alloc o).heap.size = k := by simpa using e
        rw [World.size_alloc] at this
        exact .inr (by omega)
  · exact ((Turn.of_below f ((Below.refl _ W).alloc (Nat.le_refl _) o)).trans (Turn.of_grownBy (Fp := fun k => v.ownBlock = some k) hg (fun k e => .inl e)) (fun k _ e => (hf k).2 (.inr e))).trans (turn_setCell w1 c 0 _) (fun k _ e => (hf k).2 (.inl e))
  · rw [List.length_append, List.length_singleton, chCells_append]
    exact row_movedC hown (fun g e => Below.heap_setCell _ _ _ _ (fun e' => by have := (row_blockC hown g e).1; simp only at e'; omega))

end Go.Proofs.YtiafhbpklddlnaaGreatDoor
