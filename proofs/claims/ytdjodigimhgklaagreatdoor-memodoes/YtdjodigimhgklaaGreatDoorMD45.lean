import Derived.Test.YtdjodigimhgklaaGreatDoorMD38
import Derived.Test.YtdjodigimhgklaaGreatDoorMD41
import Derived.Test.YtdjodigimhgklaaGreatDoorMD42
import Derived.Test.YtdjodigimhgklaaGreatDoorMD40
import Derived.Test.YtdjodigimhgklaaGreatDoorMD28
import Derived.Test.YtdjodigimhgklaaGreatDoorMD35
/- The law MemoDoes: its calls, as steps of what stands in memory. -/
namespace Go.Proofs.YtdjodigimhgklaaGreatDoor
open Go.RowKit Go.Shelf Go.Maps

/-- a memo, its disk, the document's memo, its box Bw -/
def DoS (w wr : World) (m d key k : Nat) (mm : Wm) (pa : Option Addr) (pc : Nat) (ja : Option Addr) (jc : Nat) (Bw B : Nat) (P : List Pr) (nw : Nat) : Prop :=
  ∃ j rs S Q, MS Q wr m d j ⟨key, mm.nums, mm.last, P, false⟩ rs (fileB rs).length false S ∧ DM key S rs mm P k ∧ S.wr = nw ∧ WmV wr (fun i => Q i ∨ i = Bw) pa pc ja jc mm ∧ (∀ i, Q i → w.heap.size ≤ i ∧ i < wr.heap.size ∧ i ≠ Bw ∧ i < B) ∧ wr.heap[Bw]? = some (wmCells pa pc ja jc mm) ∧ Below w.heap.size w wr ∧ w.heap.size ≤ Bw
/-- .. behind the program's Add -/
def AdS (w wr : World) (m d key k : Nat) (mm : Wm) (pa : Option Addr) (pc : Nat) (ja : Option Addr) (jc : Nat) (Bw _B : Nat) (P : List Pr) (nw : Nat) (l : List Pr) (er : Int) (nw' : Nat) : Prop :=
  ∃ j rs S Q g' rs' sz' jc' S', MS Q wr m d j g' rs' sz' jc' S' ∧ AddR ⟨key, mm.nums, mm.last, P, false⟩ l rs (fileB rs).length false S er g' rs' sz' jc' S' ∧ DM key S rs mm P k ∧ S.wr = nw ∧ S'.wr = nw' ∧ WmV wr (fun i => Q i ∨ i = Bw) pa pc ja jc mm ∧ (∀ i, Q i → w.heap.size ≤ i ∧ i < wr.heap.size ∧ i ≠ Bw) ∧ wr.heap[Bw]? = some (wmCells pa pc ja jc mm) ∧ Below w.heap.size w wr ∧ w.heap.size ≤ Bw
/-- .. and behind the document's -/
def AdD (w wr : World) (m d key k : Nat) (mm : Wm) (pa : Option Addr) (pc : Nat) (ja : Option Addr) (jc : Nat) (Bw _B : Nat) (P : List Pr) (nw : Nat) (l : List Pr) (er : Int) (nw' : Nat) (m' : Wm) (b : Bool) (e : Int) (pa' : Option Addr) (pc' : Nat) (ja' : Option Addr) (jc' : Nat) : Prop :=
  ∃ j rs S Q g' rs' sz' jcc S', MS Q wr m d j g' rs' sz' jcc S' ∧ AddR ⟨key, mm.nums, mm.last, P, false⟩ l rs (fileB rs).length false S er g' rs' sz' jcc S' ∧ DM key S rs mm P k ∧ S.wr = nw ∧ S'.wr = nw' ∧ DocA mm l P m' b e ∧ WmV wr (fun i => Q i ∨ i = Bw) pa' pc' ja' jc' m' ∧ (∀ i, Q i → w.heap.size ≤ i ∧ i < wr.heap.size ∧ i ≠ Bw) ∧ wr.heap[Bw]? = some (wmCells pa pc ja jc mm) ∧ Below w.heap.size w wr ∧ w.heap.size ≤ Bw

theorem wm_none (w : World) (Q : Nat → Prop) : WmV w Q none 0 none 0 Wm.none where
  parts := ⟨rfl, fun h => absurd h (by decide)⟩
  pcap := Nat.le_refl _
  pnil := fun _ => ⟨rfl, rfl⟩
  jn := ⟨⟨rfl, fun h => absurd h (by decide)⟩, fun h => absurd h (by decide)⟩
  jcap := Nat.le_refl _
  jnil := fun _ => ⟨rfl, rfl⟩
/-- Open of a new disk, then the box -/
theorem doS_open {w w1 : World} (hB : Below w.heap.size w w1) {d key : Nat} {G : Nat → Prop} (hd : IsDisk w1 d emD G) (hG : ∀ i, G i → w.heap.size ≤ i) (hk0 : key ≠ 0) (hkey : key < 18446744073709551616) :
    Calls Tryz.prog 10 #[.pointer (some ⟨d, 0, none⟩), .int .u64 (key : Int)] w1 fun e w' => ∃ m, e = .returned (.tuple #[.pointer (some ⟨m, 0, none⟩), .int .i64 0]) ∧ ∃ nw, DoS w (w'.alloc (.cells #[.slice none 0 0, .int .i64 0, .slice none 0 0] 35)) m d key 2 Wm.none none 0 none 0 w'.heap.size w'.heap.size [] nw := by
  refine ((cdisk_new key).calls (by omega) hk0 hkey w1 d G hd).mono ?_
  intro e w' hA
  obtain ⟨S', hc, hT, hcase⟩ := (cdisk_new key).openC (by omega) hkey hA
  have hs := hB.size
  rcases hcase with ⟨_, hc, _⟩ | ⟨m, j, rfl, hC, hM, hS⟩
  · cases hc
  · obtain rfl := hS rfl
    have hBa : Below w'.heap.size w' (w'.alloc (.cells #[.slice none 0 0, .int .i64 0, .slice none 0 0] 35)) := (Below.refl _ _).alloc (Nat.le_refl _) _
    have hw' := hB.trans (hT.below hs hG)
    refine ⟨m, rfl, _, j, [], _, _, hM.below hBa, dm_new key hC rfl rfl, rfl, wm_none _ _, fun i hi => ?_, World.alloc_heap_new w' _, hw'.trans (hBa.mono hw'.size), hw'.size⟩
    have := hd.lt
    have hs2 := hT.size
    have hs3 := hBa.size
    rcases hi with hi | hi
    · have h1 := hG i hi; have h2 := this i hi; exact ⟨h1, by omega, by omega, by omega⟩
    · exact ⟨by omega, by omega, by omega, by omega⟩
theorem DoS.kept {w wr W : World} {m d key k : Nat} {mm : Wm} {pa : Option Addr} {pc : Nat} {ja : Option Addr} {jc : Nat} {Bw B : Nat} {P : List Pr} {nw : Nat} (h : DoS w wr m d key k mm pa pc ja jc Bw B P nw) (hB : Below wr.heap.size wr W) : DoS w W m d key k mm pa pc ja jc Bw B P nw := by
  obtain ⟨j, rs, S, Q, hM, hD, hw, hW, hQ, hb, hBw, hle⟩ := h
  exact ⟨j, rs, S, Q, hM.below hB, hD, hw, hW.below hB, fun i hi => by have := hQ i hi; have := hB.size; exact ⟨by omega, by omega, by omega, by omega⟩, (hB.block _ (Array.getElem?_eq_some_iff.1 hb).1).trans hb, hBw.trans (hB.mono hBw.size), hle⟩
theorem DoS.fresh {w wr : World} {m d key k : Nat} {mm : Wm} {pa : Option Addr} {pc : Nat} {ja : Option Addr} {jc : Nat} {Bw B : Nat} {P : List Pr} {nw : Nat} (h : DoS w wr m d key k mm pa pc ja jc Bw B P nw) : DoS w wr m d key k mm pa pc ja jc Bw wr.heap.size P nw := by
  obtain ⟨j, rs, S, Q, hM, hD, hw, hW, hQ, hb, hBw, hle⟩ := h
  exact ⟨j, rs, S, Q, hM, hD, hw, hW, fun i hi => by have := hQ i hi; exact ⟨by omega, by omega, by omega, by omega⟩, hb, hBw, hle⟩
theorem DoS.writes {w wr : World} {m d key k : Nat} {mm : Wm} {pa : Option Addr} {pc : Nat} {ja : Option Addr} {jc : Nat} {Bw B : Nat} {P : List Pr} {nw : Nat} (h : DoS w wr m d key k mm pa pc ja jc Bw B P nw) :
    Calls Tryz.prog 12 #[.pointer (some ⟨d, 0, none⟩)] wr fun e w' => e = .returned (.int .i64 (nw : Int)) ∧ w' = wr := by
  obtain ⟨j, rs, S, Q, hM, hD, rfl, hW, hQ, hb, hBw, hle⟩ := h
  obtain ⟨G, hd, _, _⟩ := hM.parts
  exact writes_any d S G wr hd
theorem AdD.writes {w wr : World} {m d key k : Nat} {mm : Wm} {pa : Option Addr} {pc : Nat} {ja : Option Addr} {jc : Nat} {Bw B : Nat} {P : List Pr} {nw : Nat} {l : List Pr} {er : Int} {nw' : Nat} {m' : Wm} {b : Bool} {e : Int} {pa' : Option Addr} {pc' : Nat} {ja' : Option Addr} {jc' : Nat} (h : AdD w wr m d key k mm pa pc ja jc Bw B P nw l er nw' m' b e pa' pc' ja' jc') :
    Calls Tryz.prog 12 #[.pointer (some ⟨d, 0, none⟩)] wr fun e w' => e = .returned (.int .i64 (nw' : Int)) ∧ w' = wr := by
  obtain ⟨j, rs, S, Q, g', rs', sz', jcc, S', hM, hR, hD, hw, rfl, _⟩ := h
  obtain ⟨G, hd, _, _⟩ := hM.parts
  exact writes_any d S' G wr hd
theorem AdD.kept {w wr W : World} {m d key k : Nat} {mm : Wm} {pa : Option Addr} {pc : Nat} {ja : Option Addr} {jc : Nat} {Bw B : Nat} {P : List Pr} {nw : Nat} {l : List Pr} {er : Int} {nw' : Nat} {m' : Wm} {b : Bool} {e : Int} {pa' : Option Addr} {pc' : Nat} {ja' : Option Addr} {jc' : Nat} (h : AdD w wr m d key k mm pa pc ja jc Bw B P nw l er nw' m' b e pa' pc' ja' jc') (hB : Below wr.heap.size wr W) : AdD w W m d key k mm pa pc ja jc Bw B P nw l er nw' m' b e pa' pc' ja' jc' := by
  obtain ⟨j, rs, S, Q, g', rs', sz', jcc, S', hM, hR, hD, hw, hw', hDA, hW, hQ, hb, hBw, hle⟩ := h
  exact ⟨j, rs, S, Q, g', rs', sz', jcc, S', hM.below hB, hR, hD, hw, hw', hDA, hW.below hB, fun i hi => by have := hQ i hi; have := hB.size; exact ⟨by omega, by omega, by omega⟩, (hB.block _ (Array.getElem?_eq_some_iff.1 hb).1).trans hb, hBw.trans (hB.mono hBw.size), hle⟩
theorem AdD.box {w wr : World} {m d key k : Nat} {mm : Wm} {pa : Option Addr} {pc : Nat} {ja : Option Addr} {jc : Nat} {Bw B : Nat} {P : List Pr} {nw : Nat} {l : List Pr} {er : Int} {nw' : Nat} {m' : Wm} {b : Bool} {e : Int} {pa' : Option Addr} {pc' : Nat} {ja' : Option Addr} {jc' : Nat} (h : AdD w wr m d key k mm pa pc ja jc Bw B P nw l er nw' m' b e pa' pc' ja' jc') : wr.heap[Bw]? = some (wmCells pa pc ja jc mm) := by
  obtain ⟨j, rs, S, Q, g', rs', sz', jcc, S', hM, hR, hD, hw, hw', hDA, hW, hQ, hb, hBw, hle⟩ := h
  exact hb
theorem DoS.box {w wr : World} {m d key k : Nat} {mm : Wm} {pa : Option Addr} {pc : Nat} {ja : Option Addr} {jc : Nat} {Bw B : Nat} {P : List Pr} {nw : Nat} (h : DoS w wr m d key k mm pa pc ja jc Bw B P nw) : wr.heap[Bw]? = some (wmCells pa pc ja jc mm) ∧ Below w.heap.size w wr := by
  obtain ⟨j, rs, S, Q, hM, hD, hw, hW, hQ, hb, hBw, hle⟩ := h
  exact ⟨hb, hBw⟩
theorem wm_grow {w w' : World} {Q : Nat → Prop} {Bw : Nat} {pa : Option Addr} {pc : Nat} {ja : Option Addr} {jc : Nat} {mm : Wm} (h : WmV w (fun i => Q i ∨ i = Bw) pa pc ja jc mm) (hT : Turn Q w w') : WmV w' (fun i => grow Q w w' i ∨ i = Bw) pa pc ja jc mm :=
  (h.turn (hT.wide fun k hk => .inl hk)).sub fun k hk => by
    rcases hk with (hk | hk) | hk
    · exact .inl (.inl hk)
    · exact .inr hk
    · exact .inl (.inr hk)
/-- the program's Add -/
theorem DoS.add {w wr : World} {m d key k : Nat} {mm : Wm} {pa : Option Addr} {pc : Nat} {ja : Option Addr} {jc : Nat} {Bw B : Nat} {P : List Pr} {nw : Nat} (h : DoS w wr m d key k mm pa pc ja jc Bw B P nw) (hk : k < 40) (hkey : key < 18446744073709551616) {fa : Option Addr} {fc : Nat} {l : List Pr} (hl : PrV wr fa l.length fc l) (hok : PrOk l) (h40 : l.length ≤ 40) :
    Calls Tryz.prog 13 #[.pointer (some ⟨m, 0, none⟩), .slice fa l.length fc] wr fun e w' => ∃ (er : Int) (nw' : Nat), e = .returned (.int .i64 er) ∧ AdS w w' m d key k mm pa pc ja jc Bw B P nw l er nw' ∧ (∀ i, B ≤ i → i < wr.heap.size → w'.heap[i]? = wr.heap[i]?) ∧ wr.heap.size ≤ w'.heap.size := by
  obtain ⟨j, rs, S, Q, hM, hD, hw, hW, hQ, hb, hBw, hle⟩ := h
  have htp := hD.disk.tp
  have hn := hD.disk.n
  have hwr := hD.disk.wr
  have hlen := hD.disk.len
  refine (yadd_any Q wr m d j _ rs _ false S hM (fun i hi => (hQ i hi).2.1) (fun _ => rfl) fa l.length fc l hl hok (show ∀ p ∈ P, p.1 ≠ 0 from hD.disk.good.2.2) (by omega) hkey (show mm.last + 1 < 100 by omega) (show ∀ x ∈ mm.nums, x < 100 from fun x hx => by have := hD.disk.rg x hx; omega) hD.disk.rl
    (by
      have : S.bs (nmB key (mm.last + 1)) = [] := by unfold DG.bs; rw [hD.disk.run0 (by omega)]; rfl
      show (S.bs (nmB key (mm.last + 1))).length ≤ _
      rw [this]; exact Nat.zero_le _) (by omega) (by omega) (hD.disk.hlay (by omega) l l.length h40)).mono ?_
  rintro e w' ⟨hT, er, g', rs', sz', jc', S', rfl, hR, hM'⟩
  have hs := hT.size
  have hs1 := hBw.size
  have hbl := (Array.getElem?_eq_some_iff.1 hb).1
  refine ⟨er, S'.wr, rfl, ⟨j, rs, S, _, g', rs', sz', jc', S', hM', hR, hD, hw, rfl, wm_grow hW hT, fun i hi => ?_, ?_, hBw.trans (hT.below hBw.size fun i hi => (hQ i hi).1), hle⟩, fun i h1 h2 => hT.block i h2 fun hq => by have := hQ i hq; omega, hs⟩
  · rcases hi with hi | hi
    · have := hQ i hi; exact ⟨by omega, by omega, by omega⟩
    · exact ⟨by omega, by omega, by omega⟩
  · exact (hT.block _ hbl fun hq => (hQ _ hq).2.2.1 rfl).trans hb
theorem AdS.box {w wr : World} {m d key k : Nat} {mm : Wm} {pa : Option Addr} {pc : Nat} {ja : Option Addr} {jc : Nat} {Bw B : Nat} {P : List Pr} {nw : Nat} {l : List Pr} {er : Int} {nw' : Nat} (h : AdS w wr m d key k mm pa pc ja jc Bw B P nw l er nw') : wr.heap[Bw]? = some (wmCells pa pc ja jc mm) ∧ Below w.heap.size w wr := by
  obtain ⟨j, rs, S, Q, g', rs', sz', jcc, S', hM, hR, hD, hw, hw', hW, hQ, hb, hBw, hle⟩ := h
  exact ⟨hb, hBw⟩
/-- the document's -/
theorem AdS.doc {w wr : World} {m d key k : Nat} {mm : Wm} {pa : Option Addr} {pc : Nat} {ja : Option Addr} {jc : Nat} {Bw B : Nat} {P : List Pr} {nw : Nat} {l : List Pr} {er : Int} {nw' : Nat} (h : AdS w wr m d key k mm pa pc ja jc Bw B P nw l er nw') (hk : k < 40) {la : Option Addr} {lc : Nat} (hl : PrV wr la l.length lc l) (hok : PrOk l) (h40 : l.length ≤ 40) :
    Calls Tryz.prog 14 #[wmVal pa pc ja jc mm, .slice la l.length lc] wr fun e w' => ∃ pa' pc' ja' jc' m' b er', e = .returned (.tuple #[wmVal pa' pc' ja' jc' m', .bool b, .int .i64 er']) ∧ AdD w w' m d key k mm pa pc ja jc Bw B P nw l er nw' m' b er' pa' pc' ja' jc' ∧ Below wr.heap.size wr w' := by
  obtain ⟨j, rs, S, Q, g', rs', sz', jcc, S', hM, hR, hD, hw, hw', hW, hQ, hb, hBw, hle⟩ := h
  have hbl := (Array.getElem?_eq_some_iff.1 hb).1
  have htp := hD.disk.tp
  have hlen := hD.disk.len
  have hjsz := hD.disk.jsz
  rw [hD.disk.jS, ← hD.jn] at hjsz
  have hfl := hD.fl
  have hrl := hD.disk.rl
  have hnl : mm.nums.length = mm.parts.length := List.length_map _
  refine (dadd_any wr (fun i => Q i ∨ i = Bw) pa pc ja jc mm hW (fun i hi => by
    rcases hi with hi | hi
    · exact (hQ i hi).2.1
    · omega) P hD.disk.good.1 hD.look hD.disk.good.2.1 (by omega) (by omega) (by omega) (fun p hp => by have := hD.disk.rg p.1 (List.mem_map_of_mem hp); omega) (by omega) (by omega) la lc l hl hok h40).mono ?_
  rintro e w' ⟨pa', pc', ja', jc', m', b, er', rfl, hDA, hW', hB⟩
  exact ⟨pa', pc', ja', jc', m', b, er', rfl, ⟨j, rs, S, Q, g', rs', sz', jcc, S', hM.below hB, hR, hD, hw, hw', hDA, hW', fun i hi => by have := hQ i hi; have := hB.size; exact ⟨by omega, by omega, by omega⟩, (hB.block _ hbl).trans hb, hBw.trans (hB.mono hBw.size), hle⟩, hB⟩
/-- they answer alike -/
theorem AdD.facts {w wr : World} {m d key k : Nat} {mm : Wm} {pa : Option Addr} {pc : Nat} {ja : Option Addr} {jc : Nat} {Bw B : Nat} {P : List Pr} {nw : Nat} {l : List Pr} {er : Int} {nw' : Nat} {m' : Wm} {b : Bool} {e : Int} {pa' : Option Addr} {pc' : Nat} {ja' : Option Addr} {jc' : Nat} (h : AdD w wr m d key k mm pa pc ja jc Bw B P nw l er nw' m' b e pa' pc' ja' jc') (hk : k < 40) (h40 : l.length ≤ 40) : er = e ∧ (nw' = nw ↔ b = false) := by
  obtain ⟨j, rs, S, Q, g', rs', sz', jcc, S', hM, hR, hD, rfl, rfl, hDA, _⟩ := h
  obtain ⟨h1, h2, _⟩ := doc_step hD (by omega) h40 hR hDA
  exact ⟨h1, h2⟩
/-- the document's memo is stored -/
theorem AdD.store {w wr : World} {m d key k : Nat} {mm : Wm} {pa : Option Addr} {pc : Nat} {ja : Option Addr} {jc : Nat} {Bw B : Nat} {P : List Pr} {nw : Nat} {l : List Pr} {er : Int} {nw' : Nat} {m' : Wm} {b : Bool} {e : Int} {pa' : Option Addr} {pc' : Nat} {ja' : Option Addr} {jc' : Nat} (h : AdD w wr m d key k mm pa pc ja jc Bw B P nw l er nw' m' b e pa' pc' ja' jc') (hk : k < 40) (h40 : l.length ≤ 40) :
    ∃ P', DoS w (put3 wr Bw (.slice pa' m'.parts.length pc') (.int .i64 (m'.last : Int)) (.slice ja' m'.jn.length jc')) m d key (k + 2) m' pa' pc' ja' jc' Bw wr.heap.size P' nw' := by
  obtain ⟨j, rs, S, Q, g', rs', sz', jcc, S', hM, hR, hD, rfl, rfl, hDA, hW, hQ, hb, hBw, hle⟩ := h
  obtain ⟨_, _, rfl, rfl, P', rfl, hD'⟩ := doc_step hD (by omega) h40 hR hDA
  have hT := put3_turn wr Bw (.slice pa' m'.parts.length pc') (.int .i64 (m'.last : Int)) (.slice ja' m'.jn.length jc')
  have hs := hT.size
  refine ⟨P', j, rs', S', Q, hM.turn hT fun i hi e => (hQ i hi).2.2 e, hD', rfl, { hW with parts := hW.parts.mv hT fun k _ e => .inr e, jn := ⟨hT.bytes hW.jn.1 fun h0 x ex e => (hW.jn.2 h0 x ex).2 (.inr e), fun h0 x ex => ⟨Nat.lt_of_lt_of_le (hW.jn.2 h0 x ex).1 hs, (hW.jn.2 h0 x ex).2⟩⟩ }, fun i hi => by have := hQ i hi; exact ⟨by omega, by omega, by omega, by omega⟩, put3_heap hb _ _ _, hBw.trans (hT.below hBw.size fun i e => by omega), hle⟩
theorem DoS.same {w wr : World} {m d key k : Nat} {mm : Wm} {pa : Option Addr} {pc : Nat} {ja : Option Addr} {jc : Nat} {Bw B : Nat} {P : List Pr} {nw : Nat} (h : DoS w wr m d key k mm pa pc ja jc Bw B P nw) (hk : k ≤ 40) :
    Calls Tryz.prog 16 #[.pointer (some ⟨m, 0, none⟩), wmVal pa pc ja jc mm] wr fun e w' => e = .returned (.bool true) ∧ Below wr.heap.size wr w' := by
  obtain ⟨j, rs, S, Q, hM, hD, hw, hW, hQ, hb, hBw, hle⟩ := h
  obtain ⟨vr, ma, mc, F, hme⟩ := hM.me
  have hlen := hD.disk.len
  have hfl := hD.fl
  have hrl := hD.disk.rl
  have hnl : mm.nums.length = mm.parts.length := List.length_map _
  exact same_any wr m d j _ vr ma mc F hme (show P.length ≤ 2000 by omega) hD.disk.good.2.2 _ pa pc ja jc mm hW rfl hD.look (by omega) (by omega)
theorem DM.empty {key : Nat} {S : DG} {rs : List (List UInt8)} {m : Wm} {P : List Pr} {k : Nat} (h : DM key S rs m P k) (he : m.jn = []) : m.parts.length = 0 ∧ ∀ ns, S.Lists ns → ns = [] := by
  have hrs : rs = [] := by
    cases rs with
    | nil => rfl
    | cons r rs =>
      have h1 := h.jn
      rw [he] at h1
      have h2 : (fileB (r :: rs)).length = (recB r).length + (fileB rs).length := by simp [fileB]
      have h3 := (recB_pos r).1
      rw [← h1] at h2
      simp at h2
      omega
  have hn : m.nums = [] := by
    have := h.disk.rcs
    rw [hrs] at this
    exact (congrArg Prod.fst this).symm
  refine ⟨by rw [← List.length_map (f := fun p : Nat × List Pr => p.1)]; show m.nums.length = 0; rw [hn]; rfl, fun ns hL => List.eq_nil_iff_forall_not_mem.2 fun y hy => ?_⟩
  have := (DG.Lists.sub hL).2 y |>.1 hy
  rw [h.nil he] at this
  cases this
theorem DM.journal {key : Nat} {S : DG} {rs : List (List UInt8)} {m : Wm} {P : List Pr} {k : Nat} (h : DM key S rs m P k) (he : m.jn ≠ []) : S.bs (nmB key 0) = m.jn ∧ (S.f (nmB key 0)).isSome = true := by
  have h1 : S.bs (nmB key 0) = m.jn := by rw [h.disk.jS, h.jn]
  refine ⟨h1, ?_⟩
  cases e : S.f (nmB key 0) with
  | some _ => rfl
  | none =>
    refine absurd ?_ he
    rw [← h1]
    unfold DG.bs
    rw [e]; rfl
theorem DoS.stands {w wr : World} {m d key k : Nat} {mm : Wm} {pa : Option Addr} {pc : Nat} {ja : Option Addr} {jc : Nat} {Bw B : Nat} {P : List Pr} {nw : Nat} (h : DoS w wr m d key k mm pa pc ja jc Bw B P nw) (hk : k ≤ 40) (hkey : key < 18446744073709551616) :
    Calls Tryz.prog 17 #[.pointer (some ⟨d, 0, none⟩), .int .u64 (key : Int), wmVal pa pc ja jc mm] wr fun e w' => e = .returned (.bool true) ∧ Below wr.heap.size wr w' := by
  obtain ⟨j, rs, S, Q, hM, hD, hw, hW, hQ, hb, hBw, hle⟩ := h
  obtain ⟨G, hd, _, _⟩ := hM.parts
  have hjsz := hD.disk.jsz
  rw [hD.disk.jS, ← hD.jn] at hjsz
  have hrl := hD.disk.rl
  have hn := hD.disk.n
  have htp := hD.disk.tp
  have hnl : mm.nums.length = mm.parts.length := List.length_map _
  refine stands_any wr d key G S hd hkey _ pa pc ja jc mm hW (by omega) (fun p hp => by have := hD.disk.rg p.1 (List.mem_map_of_mem hp); exact ⟨this.1, by omega⟩) (fun he => hD.journal he) (by omega) (fun p hp => ?_) (by omega) (fun ns hL => ?_)
  · have h1 := hD.runs p hp
    exact ⟨h1.1, hD.disk.there p.1 (List.mem_map_of_mem hp), h1.2.ok, h1.2.len⟩
  · by_cases he : mm.jn = []
    · obtain ⟨h1, h2⟩ := hD.empty he
      rw [if_pos he, h1, h2 ns hL]; rfl
    · rw [if_neg he, hD.disk.count (by omega) (hD.ne he) hL, hnl]
/-- opened again -/
theorem DoS.reopen {w wr : World} {m d key k : Nat} {mm : Wm} {pa : Option Addr} {pc : Nat} {ja : Option Addr} {jc : Nat} {Bw B : Nat} {P : List Pr} {nw : Nat} (h : DoS w wr m d key k mm pa pc ja jc Bw B P nw) (hk : k ≤ 40) (hk0 : key ≠ 0) (hkey : key < 18446744073709551616) :
    Calls Tryz.prog 10 #[.pointer (some ⟨d, 0, none⟩), .int .u64 (key : Int)] wr fun e w' => ∃ m2, e = .returned (.tuple #[.pointer (some ⟨m2, 0, none⟩), .int .i64 0]) ∧ DoS w w' m2 d key k mm pa pc ja jc Bw w'.heap.size P nw := by
  obtain ⟨j, rs, S, Q, hM, hD, rfl, hW, hQ, hb, hBw, hle⟩ := h
  obtain ⟨G, hd, hG, _⟩ := hM.parts
  refine (hD.disk.calls (by omega) hk0 hkey wr d G hd).mono ?_
  intro e w' hA
  obtain ⟨S', _, hT, hcase⟩ := hD.disk.openC (by omega) hkey hA
  have hbl := (Array.getElem?_eq_some_iff.1 hb).1
  rcases hcase with ⟨_, e, _⟩ | ⟨m2, j2, rfl, _, hM2, hS⟩
  · rw [hD.cut] at e; cases e
  · obtain rfl := hS rfl
    have hs := hT.size
    have hs1 := hBw.size
    refine ⟨m2, rfl, j2, rs, S', _, hM2, hD, rfl, wm_grow (hW.sub fun i hi => hi.imp (hG i) id) hT, fun i hi => ?_, (hT.block _ hbl fun hq => (hQ _ (hG _ hq)).2.2.1 rfl).trans hb, hBw.trans (hT.below hBw.size fun i hi => (hQ i (hG i hi)).1), hle⟩
    rcases hi with hi | hi
    · have := hQ i (hG i hi); exact ⟨by omega, by omega, by omega, by omega⟩
    · exact ⟨by omega, by omega, by omega, by omega⟩
theorem keys_nm {key : Nat} (hk0 : key ≠ 0) (hkey : key < 18446744073709551616) : ∀ (ns : List (List UInt8)), (∀ y ∈ ns, ∃ x, x < 100 ∧ y = nmB key x) → ns.Nodup → keysL ns = if nmB key 0 ∈ ns then [key] else []
  | [], _, _ => rfl
  | y :: r, h, hd => by
    obtain ⟨x, hx, rfl⟩ := h _ (List.mem_cons_self ..)
    have hd' := List.nodup_cons.1 hd
    have ih := keys_nm hk0 hkey r (fun y hy => h y (List.mem_cons_of_mem _ hy)) hd'.2
    rw [keysL, who_nm key x hkey hx, ih]
    simp only
    by_cases h0 : x = 0
    · subst h0
      rw [if_pos ⟨hk0, rfl⟩, if_neg hd'.1, if_pos (List.mem_cons_self ..)]
    · rw [if_neg (fun e => h0 e.2)]
      have : nmB key 0 ∈ nmB key x :: r ↔ nmB key 0 ∈ r := by
        rw [List.mem_cons]
        exact ⟨fun e => e.resolve_left fun e => h0 (nmB_num (by omega) hx e).symm, .inr⟩
      simp only [this]
theorem DoS.keys {w wr : World} {m d key k : Nat} {mm : Wm} {pa : Option Addr} {pc : Nat} {ja : Option Addr} {jc : Nat} {Bw B : Nat} {P : List Pr} {nw : Nat} (h : DoS w wr m d key k mm pa pc ja jc Bw B P nw) (hk : k ≤ 40) (hk0 : key ≠ 0) (hkey : key < 18446744073709551616) :
    Calls Tryz.prog 18 #[.pointer (some ⟨d, 0, none⟩)] wr fun e w' => Below wr.heap.size wr w' ∧ ((mm.jn = [] ∧ ∃ a c, e = .returned (.slice a 0 c)) ∨ (mm.jn ≠ [] ∧ ∃ b c, e = .returned (.slice (some ⟨b, 0, none⟩) 1 c) ∧ w'.cell? ⟨b, 0, none⟩ = some (.int .u64 (key : Int)))) := by
  obtain ⟨j, rs, S, Q, hM, hD, rfl, hW, hQ, hb, hBw, hle⟩ := h
  obtain ⟨G, hd, hG, _⟩ := hM.parts
  have hn := hD.disk.n
  have htp := hD.disk.tp
  refine (ykeys_any wr d S G hd (fun x hx => ?_) (by omega)).mono ?_
  · obtain ⟨y, hy, rfl⟩ := hD.disk.only x hx
    exact Nat.le_trans (nmB_len key y (by omega)) (by decide)
  rintro e w' ⟨ns, ad, c, hL, rfl, hown, hB⟩
  have hkn := keys_nm hk0 hkey ns (hD.disk.names (by omega) hL) (DG.Lists.sub hL).1
  refine ⟨hB, ?_⟩
  by_cases he : mm.jn = []
  · obtain ⟨_, h2⟩ := hD.empty he
    rw [h2 ns hL]
    exact .inl ⟨he, ad, c, rfl⟩
  · have hin : nmB key 0 ∈ ns := (DG.Lists.sub hL).2 _ |>.2 (hD.journal he).2
    rw [if_pos hin] at hkn
    rw [hkn] at hown ⊢
    obtain ⟨b, rfl, hc⟩ := isrc_cell (k := 0) (x := key) (xs := [key]) hown rfl
    exact .inr ⟨he, b, c, rfl, hc⟩
end Go.Proofs.YtdjodigimhgklaaGreatDoor
