import Derived.Test.YtfkepoibgmljkaaB32
import Derived.Test.YtfkepoibgmljkaaB29
import Derived.Test.YtfkepoibgmljkaaB23
/- For RunBack: runs in memory; what Make, Merge and Find say of them. -/
namespace Go.Proofs.Ytfkepoibgmljkaa
open Go.RowKit Go.Shelf Go.Maps

attribute [local go_sem] Oper.semAt_some

theorem ris_once {l : List Pr} (h : Ris l) : Once l := by
  unfold Once Ris at *
  induction l with
  | nil => exact List.nodup_nil
  | cons p r ih =>
    rw [List.pairwise_cons] at h
    rw [List.map_cons, List.nodup_cons]
    refine ⟨fun hm => ?_, ih h.2⟩
    obtain ⟨q, hq, e⟩ := List.mem_map.1 hm
    have := h.1 q hq
    omega
theorem good_ris {l : List Pr} (h : GoodV l) : Ris l := ((risF_iff l 0).1 h.ris).1
/-- a run in memory -/
structure RunS (W : World) (ad : Option Addr) (N cp : Nat) (d : List Pr) : Prop where
  good : GoodV d
  small : d.length ≤ 200
  len : N = (runB d).length
  bytes : Bytes W ad N (runB d)
  nil : ad = none → N = 0
  cap : N ≤ cp
  low : ∀ q, ad = some q → q.block < W.heap.size
theorem RunS.kept {W W' : World} {ad : Option Addr} {N cp : Nat} {d : List Pr} (h : RunS W ad N cp d) (hB : Below W.heap.size W W') : RunS W' ad N cp d :=
  ⟨h.good, h.small, h.len, vbytes_below h.bytes hB, h.nil, h.cap, fun q e => Nat.lt_of_lt_of_le (h.low q e) hB.size⟩
theorem RunS.short {W : World} {ad : Option Addr} {N cp : Nat} {d : List Pr} (h : RunS W ad N cp d) : N ≤ 10000 := by
  rw [h.len, runB_len]
  have := h.small
  have := short_len d.length
  omega
theorem RunS.own {W W0 : World} {ad : Option Addr} {cp : Nat} {d : List Pr} (hg : GoodV d) (hs : d.length ≤ 200) (h : W.ownsRow W0.heap.size 5 1 (.slice ad (runB d).length cp) (runB d).length (cellsOf (runB d))) : RunS W ad (runB d).length cp d := by
  obtain ⟨h1, h2, h3⟩ := own_slice h
  refine ⟨hg, hs, rfl, h1, fun e => (h2 e).1, h3, fun q e => ?_⟩
  subst e
  rcases h.2 with ⟨e, _⟩ | ⟨g, cap, cur, e, _, hgb, _⟩
  · cases e
  · cases e; exact (Array.getElem?_eq_some_iff.1 hgb).1
theorem run_made {l : List Pr} {w w' : World} {v : Value} {er : Int} (h : MakeE l w v er w') (hl : l.length ≤ 60) : er ≠ 0 ∨ ∃ ad N cp d, er = 0 ∧ v = .slice ad N cp ∧ RunS w' ad N cp d ∧ d.length ≤ 60 := by
  rcases h with ⟨_, _, rfl⟩ | ⟨_, _, _, rfl⟩ | ⟨d, ad, cp, hg, hp, _, _, rfl, rfl, ho⟩
  · exact .inl (by decide)
  · exact .inl (by decide)
  · have hd : d.length ≤ 60 := by rw [hp.length_eq]; exact hl
    exact .inr ⟨ad, _, cp, d, rfl, rfl, RunS.own hg (by omega) ho, hd⟩
/-- Make of the pairs of a run is that run -/
theorem made_again {d : List Pr} {w w' : World} {v : Value} {er : Int} (h : MakeE d w v er w') (hg : GoodV d) (hs : d.length ≤ 200) : er = 0 ∧ ∃ ad N cp, v = .slice ad N cp ∧ RunS w' ad N cp d := by
  have hr := (risF_iff d 0).1 hg.ris
  rcases h with ⟨⟨p, hp, h0⟩, _⟩ | ⟨_, hn, _⟩ | ⟨d', ad, cp, hg', hp, _, ho, rfl, rfl, hown⟩
  · have := hr.2 p hp
    omega
  · exact absurd (ris_once hr.1) hn
  · have e : d' = d := ris_ext d' d (good_ris hg') hr.1 fun x => look_perm (ris_once (good_ris hg')) hp x
    subst e
    exact ⟨rfl, ad, _, cp, rfl, RunS.own hg hs hown⟩
theorem runs_map : ∀ (ds : List (List Pr)), (∀ d ∈ ds, GoodV d) → (ds.map runB).map pairsR = ds.map some
  | [], _ => rfl
  | d :: r, h => by
    simp only [List.map_cons]
    rw [pairs_runB (h d (List.mem_cons_self ..)), runs_map r fun x hx => h x (List.mem_cons_of_mem _ hx)]
/-- a merge of runs -/
theorem merged_of {ds : List (List Pr)} {w w' : World} {v : Value} {er : Int} (h : MergeE (ds.map runB) w v er w') (hg : ∀ d ∈ ds, GoodV d) (hs : ds.flatten.length ≤ 200) :
    er = 0 ∧ ∃ ad N cp out, v = .slice ad N cp ∧ RunS w' ad N cp out ∧ (∀ x, lookP out x = lookP ds.flatten x) ∧ out.length ≤ ds.flatten.length := by
  rcases h with ⟨⟨b, hb, hn⟩, _, _⟩ | ⟨ls, out, h1, hj, hok, h2⟩
  · obtain ⟨d, hd, rfl⟩ := List.mem_map.1 hb
    rw [pairs_runB (hg d hd)] at hn
    cases hn
  · rw [runs_map ds hg] at h1
    obtain rfl := map_some_inj h1
    have hlen := hj.len
    rcases h2 with ⟨hb, _⟩ | ⟨ad, cp, hb, rfl, rfl, ho⟩
    · omega
    · have hgo : GoodV out := ⟨hok, (risF_iff out 0).2 ⟨hj.ris, fun p hp => ?_⟩, hb⟩
      · exact ⟨rfl, ad, _, cp, out, rfl, RunS.own hgo (by omega) ho, hj.look, hlen⟩
      · by_cases h0 : p.1 = 0
        · exfalso
          have h3 : lookP ds.flatten 0 ≠ none := by
            rw [← hj.look, ← h0]
            intro e
            rw [key_none] at e
            exact e (List.mem_map.2 ⟨p, hp, rfl⟩)
          apply h3
          rw [key_none]
          intro hm
          obtain ⟨q, hq, hq0⟩ := List.mem_map.1 hm
          obtain ⟨d, hd, hqd⟩ := List.mem_flatten.1 hq
          have := ((risF_iff d 0).1 (hg d hd).ris).2 q hqd
          omega
        · omega
theorem run_same {d e : List Pr} (hd : GoodV d) (he : GoodV e) (h : ∀ x, lookP d x = lookP e x) : d = e := ris_ext d e (good_ris hd) (good_ris he) h
def fndR : Option Nat → Int × Int
  | none => (0, 4)
  | some y => ((y : Int), 0)
theorem flat_drop {l : List (List Pr)} {k : Nat} {d : List Pr} (h : l[k]? = some d) : (l.drop k).flatten = d ++ (l.drop (k + 1)).flatten := by
  obtain ⟨hk, e⟩ := List.getElem?_eq_some_iff.1 h
  rw [List.drop_eq_getElem_cons hk, List.flatten_cons, e]
theorem find_run {d : List Pr} (h : GoodV d) (x : Nat) : findR (runB d) x = fndR (lookP d x) := by
  cases e : lookP d x with
  | none => exact findR_none (pairs_runB h) e
  | some y => exact findR_some (pairs_runB h) e
theorem below_put {B D : Nat} {w W : World} (h : Below B w W) (hD : B ≤ D) (o : Obj) : Below B w (W.putObj D o) :=
  ⟨h.os, h.tape, h.output, by simpa using h.size, fun k hk => (World.putObj_heap_other (by omega)).trans (h.block k hk)⟩
theorem cells_of_three {W : World} {g : Nat} {a b c : Value} {t : TypeId} {fz : Nat × Nat} (h : W.heap[g]? = some (.cells #[a, b, c] t fz)) : W.cell? ⟨g, 0, none⟩ = some a ∧ W.cell? ⟨g, 1, none⟩ = some b ∧ W.cell? ⟨g, 2, none⟩ = some c := by
  refine ⟨?_, ?_, ?_⟩ <;> simp [World.cell?, h]
/-- runs in a row -/
theorem runsB_lit (W : World) (xs : List (Option Addr × Nat × Nat × List Pr)) (h : ∀ x ∈ xs, RunS W x.1 x.2.1 x.2.2.1 x.2.2.2) :
    RunsB (W.alloc (.cells (xs.map fun x => Value.slice x.1 x.2.1 x.2.2.1).toArray 23)) (some ⟨W.heap.size, 0, none⟩) xs.length xs.length (xs.map fun x => runB x.2.2.2) := by
  have hb := World.alloc_heap_new W (.cells (xs.map fun x => Value.slice x.1 x.2.1 x.2.2.1).toArray 23)
  have hB := (Below.refl W.heap.size W).alloc (Nat.le_refl _) (.cells (xs.map fun x => Value.slice x.1 x.2.1 x.2.2.1).toArray 23)
  generalize W.alloc (.cells (xs.map fun x => Value.slice x.1 x.2.1 x.2.2.1).toArray 23) = W' at *
  refine ⟨by simp, fun _ => ⟨_, 0, rfl, fun i b hi => ?_⟩, Nat.le_refl _⟩
  rw [List.getElem?_map] at hi
  cases hx : xs[i]? with
  | none => rw [hx] at hi; cases hi
  | some x =>
    rw [hx] at hi
    cases hi
    have hr := (h x (List.mem_of_getElem? hx)).kept hB
    refine ⟨x.1, x.2.1, x.2.2.1, ?_, hr.bytes, hr.nil, hr.cap, by have := hr.short; omega⟩
    simp only [World.cell?, hb, Nat.zero_add]
    rw [List.getElem?_toArray, List.getElem?_map, hx]
    rfl
end Go.Proofs.Ytfkepoibgmljkaa
