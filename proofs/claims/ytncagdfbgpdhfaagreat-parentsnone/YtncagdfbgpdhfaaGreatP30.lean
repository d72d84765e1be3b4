import Derived.Test.YtncagdfbgpdhfaaGreatP26
import Derived.Test.YtncagdfbgpdhfaaGreatP28
import Derived.Test.YtncagdfbgpdhfaaGreatP29
/- What Since tells: the ids from a place on, in their order. -/
namespace Go.Proofs.YtncagdfbgpdhfaaGreat
open Go.RowKit Go.Shelf Go.Maps

attribute [local go_sem] Oper.semAt_some

end Go.Proofs.YtncagdfbgpdhfaaGreat

/- The walks of Blob, Tree and Commit. -/
namespace Go.Proofs.YtncagdfbgpdhfaaGreat
open Go.RowKit Go.Maps

attribute [local go_sem] Oper.semAt_some

def isCom : Ob → Bool
  | .com _ => true
  | _ => false
def obT : Ob → TypeId
  | .blob _ => 82
  | .tree _ => 125
  | .com _ => 78
theorem held_iface {O : Nat → Prop} {o : Ob} {v : Value} {W : World} (h : Held O o v W) : ∃ t u, v = .iface t u ∧ t = obT o := by
  have h := h.get.1
  cases o with
  | blob b => obtain ⟨ad, cp, rfl, _⟩ := h; exact ⟨_, _, rfl, rfl⟩
  | tree l => obtain ⟨ad, cp, rfl, _⟩ := h; exact ⟨_, _, rfl, rfl⟩
  | com c => obtain ⟨ad, cp, rfl, _⟩ := h; exact ⟨_, _, rfl, rfl⟩

end Go.Proofs.YtncagdfbgpdhfaaGreat

/- A store on a disk that is not cut and has just its records. -/
namespace Go.Proofs.YtncagdfbgpdhfaaGreat
open Go.RowKit Go.Shelf Go.Maps

attribute [local go_sem] Oper.semAt_some

theorem objNm_name : nameB objNm.data.toList = true := by decide
/-- objects that come back from their bytes, each once -/
def Pure (os : List Ob) : Prop := (∀ o ∈ os, decG (obB o) = some o) ∧ (oids os).Nodup
theorem Pure.nil : Pure [] := ⟨by simp, by simp [oids]⟩
theorem Pure.snoc {os : List Ob} {o : Ob} (h : Pure os) (hd : decG (obB o) = some o) (hf : findO os (oid o) = none) : Pure (os ++ [o]) := by
  refine ⟨fun p hp => ?_, ?_⟩
  · rcases List.mem_append.1 hp with hp | hp
    · exact h.1 p hp
    · simp at hp; subst hp; exact hd
  · have := findO_none hf
    unfold oids at this ⊢
    rw [List.map_append, List.nodup_append]
    refine ⟨h.2, by simp, ?_⟩
    intro a ha b hb
    simp at hb
    subst hb
    intro e
    subst e
    exact this ha
theorem Pure.load {os : List Ob} (h : Pure os) : loadG (os.map obB) [] = some os := by
  have key : ∀ (b a : List Ob), Pure (a ++ b) → loadG (b.map obB) a = some (a ++ b) := by
    intro b
    induction b with
    | nil => intro a _; simp [loadG]
    | cons o b ih =>
      intro a ha
      simp only [List.map_cons, loadG]
      rw [ha.1 o (by simp)]
      have hf : findO a (oid o) = none := by
        unfold findO
        rw [List.find?_eq_none]
        intro p hp he
        have hn := ha.2
        unfold oids at hn
        rw [List.map_append, List.nodup_append] at hn
        exact hn.2.2 (oid p) (List.mem_map_of_mem hp) (oid o) (by simp) (by simpa using he)
      simp only [hf, Option.isSome_none, Bool.false_eq_true, if_false]
      have := ih (a ++ [o]) (by simpa using ha)
      simpa using this
  simpa using key os [] (by simpa using h)
theorem blob_pure (b : List UInt8) (h : b.length ≤ 4096) : obErr (.blob b) = 0 ∧ decG (obB (.blob b)) = some (.blob b) := by
  have h0 : obErr (.blob b) = 0 := by
    show blobErr b.length = 0
    unfold blobErr
    rw [if_neg (by omega)]
  refine ⟨h0, ?_⟩
  have h1 : decR (obB (.blob b) ++ []) = some (.blob (b ++ [])) := decR_obB (.blob b) trivial []
  rw [List.append_nil, List.append_nil] at h1
  unfold decG
  rw [h1, Option.bind_some, if_pos h0]

/-- a store, and its disk, that has just its records -/
structure StG (w : World) (s d : Nat) (os : List Ob) (S : DG) (F G : Nat → Prop) : Prop where
  st : IsSt w s d os (fileB (os.map obB)).length false F
  dk : IsDisk w d S G
  dis : ∀ k, F k → ¬ G k
  gd : JGd S objNm.data.toList (os.map obB)
theorem StG.turn {w w' : World} {s d : Nat} {os : List Ob} {S : DG} {F G X : Nat → Prop} (h : StG w s d os S F G) (hT : Turn X w w') (hX : ∀ k, F k ∨ G k → ¬ X k) : StG w' s d os S F G := ⟨h.st.turn hT (fun k hk => hX k (.inl hk)), h.dk.turn hT (fun k hk => hX k (.inr hk)), h.dis, h.gd⟩
theorem StG.below {w w' : World} {s d : Nat} {os : List Ob} {S : DG} {F G : Nat → Prop} (h : StG w s d os S F G) (hB : Below w.heap.size w w') : StG w' s d os S F G := h.turn (Turn.of_below (fun _ => False) hB) (fun _ _ => id)

theorem sput_good (w : World) (s d : Nat) (os : List Ob) (S : DG) (F G : Nat → Prop) (h : StG w s d os S F G) (v : Value) (o : Ob) (hv : ∀ W, Turn (fun k => F k ∨ G k) w W → ObS o v W) (h0 : obErr o = 0) (hf : findO os (oid o) = none) (hn : os.length < 65536) (hfit : (recB (obB o)).length + (fileB (os.map obB)).length ≤ 4194304) :
    Calls Tryz.prog 36 #[.pointer (some ⟨s, 0, none⟩), v] w fun e w' => e = .returned (.tuple #[.int .u64 (oid o), .int .i64 0]) ∧ Turn (fun k => F k ∨ G k) w w' ∧ ∃ S' F' G', StG w' s d (os ++ [o]) S' F' G' ∧ (∀ k, F' k → F k ∨ w.heap.size ≤ k) ∧ (∀ k, G' k → G k ∨ w.heap.size ≤ k) := by
  have hlen := obB_len (hv w (Turn.refl _ _)).1 h0
  obtain ⟨S', ha, hg'⟩ := h.gd.app objNm_name (obB o) (by omega) hfit
  have hbs : (S.bs objNm.data.toList).length = (fileB (os.map obB)).length := by rw [h.gd.get]
  have hSn := h.gd.n
  have hwr := h.gd.wr
  refine (sput_new w s d os _ F h.st S G h.dk h.dis v o hv h0 hf hn (by rw [hbs]; omega) (by rw [hbs]; exact Nat.le_refl _) (by omega) (by omega)).mono ?_
  rintro e w' ⟨he, hT, F', G', hd', hF', hG', hFG', hc⟩
  rw [ha] at he hd' hc
  rcases hc with ⟨_, hS⟩ | ⟨hne, _⟩
  · refine ⟨he, hT, S', F', G', ⟨?_, hd', hFG', by rw [List.map_append]; exact hg'⟩, hF', hG'⟩
    rw [List.map_append, List.map_cons, List.map_nil, fileB_snoc, List.length_append]
    exact hS
  · exact absurd rfl hne
theorem sopen_good (w : World) (d : Nat) (os : List Ob) (S : DG) (G : Nat → Prop) (hd : IsDisk w d S G) (hg : JGd S objNm.data.toList (os.map obB)) (hp : Pure os) (hfit : (fileB (os.map obB)).length ≤ 4194304) (hn : os.length ≤ 65536) :
    Calls Tryz.prog 33 #[.pointer (some ⟨d, 0, none⟩)] w fun e w' => ∃ s F G', e = .returned (.tuple #[.pointer (some ⟨s, 0, none⟩), .int .i64 0]) ∧ StG w' s d os S F G' ∧ Turn G w w' ∧ (∀ k, F k → w.heap.size ≤ k) ∧ (∀ k, G' k → G k ∨ w.heap.size ≤ k) := by
  have hSn := hg.n
  have hwr := hg.wr
  refine (sopen_any w d S G hd (by rw [hg.get]; exact hfit) (by omega) (by unfold maxLen; omega)).mono ?_
  rintro e w' ⟨hT, G', hd', hG', hc⟩
  obtain ⟨ho, hpa⟩ := hg.opened
  rw [ho] at hd' hc
  rw [hpa, hp.load] at hc
  rcases hc with ⟨h0, _⟩ | ⟨_, h0, _⟩ | ⟨_, os', h0, h1, _⟩ | ⟨_, os', s, F, h0, h1, he, hS, hF, hFG⟩
  · exact absurd rfl h0
  · cases h0
  · cases h0; omega
  · cases h0
    exact ⟨s, F, G', he, ⟨hS, hd', hFG, hg⟩, hT, hF, hG'⟩
end Go.Proofs.YtncagdfbgpdhfaaGreat

/- The order of a history, plain: commits gone through one behind the other; the pile by which the program does it. -/
namespace Go.Proofs.YtncagdfbgpdhfaaGreat

/-- how far ids have been gone through (1: its parents are, 2: it stands in the order), and the order -/
structure GS where
  been : Int → Int
  ord : List Int
def GS.none : GS := ⟨fun _ => 0, []⟩
def setG (f : Int → Int) (x v : Int) : Int → Int := fun y => if y = x then v else f y
def GS.opn (s : GS) (x : Int) : GS := ⟨setG s.been x 1, s.ord⟩
def GS.plc (s : GS) (x : Int) : GS := ⟨setG s.been x 2, s.ord ++ [x]⟩
/-- how it ends: an error, or where it has come to -/
inductive GR where
  | bad (e : Int)
  | ok (s : GS)
def GR.then (r : GR) (f : GS → GR) : GR := match r with
  | .bad e => .bad e
  | .ok s => f s
@[simp] theorem GR.bad_then (e : Int) (f : GS → GR) : (GR.bad e).then f = .bad e := rfl
@[simp] theorem GR.ok_then (s : GS) (f : GS → GR) : (GR.ok s).then f = f s := rfl

def goL (v : Int → GS → GR) : List Int → GS → GR
  | [], s => .ok s
  | x :: r, s => (v x s).then (goL v r)
/-- a commit gone through: P its parents, ge the error where it is none -/
def visit (P : Int → Option (List Int)) (ge : Int → Int) : Nat → Int → GS → GR
  | 0, _, _ => .bad 0
  | f + 1, x, s => if s.been x = 1 then .bad 210 else if s.been x = 2 then .ok s else match P x with
    | none => .bad (ge x)
    | some ps => (goL (visit P ge f) ps (s.opn x)).then fun s' => .ok (s'.plc x)

/-- what is left of a pile: its top first; at its bottom stand the heads -/
def finish (P : Int → Option (List Int)) (ge : Int → Int) (N : Nat) : List (Int × List Int) → GS → GR
  | [], s => .ok s
  | (i, l) :: r, s => (goL (visit P ge (N - r.length)) l s).then fun s' => if r.length = 0 then .ok s' else finish P ge N r (s'.plc i)

theorem finish_ring {P : Int → Option (List Int)} {ge : Int → Int} {N : Nat} {i x : Int} {l : List Int} {r : List (Int × List Int)} {s : GS} (hN : r.length < N) (h : s.been x = 1) : finish P ge N ((i, x :: l) :: r) s = .bad 210 := by
  obtain ⟨m, hm⟩ : ∃ m, N - r.length = m + 1 := ⟨N - r.length - 1, by omega⟩
  simp [finish, hm, goL, visit, h]
theorem finish_placed {P : Int → Option (List Int)} {ge : Int → Int} {N : Nat} {i x : Int} {l : List Int} {r : List (Int × List Int)} {s : GS} (hN : r.length < N) (h : s.been x = 2) : finish P ge N ((i, x :: l) :: r) s = finish P ge N ((i, l) :: r) s := by
  obtain ⟨m, hm⟩ : ∃ m, N - r.length = m + 1 := ⟨N - r.length - 1, by omega⟩
  simp [finish, hm, goL, visit, h]
theorem finish_bad {P : Int → Option (List Int)} {ge : Int → Int} {N : Nat} {i x : Int} {l : List Int} {r : List (Int × List Int)} {s : GS} (hN : r.length < N) (h1 : s.been x ≠ 1) (h2 : s.been x ≠ 2) (hP : P x = none) : finish P ge N ((i, x :: l) :: r) s = .bad (ge x) := by
  obtain ⟨m, hm⟩ : ∃ m, N - r.length = m + 1 := ⟨N - r.length - 1, by omega⟩
  simp [finish, hm, goL, visit, h1, h2, hP]
theorem finish_push {P : Int → Option (List Int)} {ge : Int → Int} {N : Nat} {i x : Int} {l ps : List Int} {r : List (Int × List Int)} {s : GS} (hN : r.length < N) (h1 : s.been x ≠ 1) (h2 : s.been x ≠ 2) (hP : P x = some ps) : finish P ge N ((i, x :: l) :: r) s = finish P ge N ((x, ps) :: (i, l) :: r) (s.opn x) := by
  obtain ⟨m, hm⟩ : ∃ m, N - r.length = m + 1 := ⟨N - r.length - 1, by omega⟩
  have hm2 : N - (r.length + 1) = m := by omega
  simp only [finish, hm, goL, visit, h1, h2, if_false, hP, List.length_cons, hm2, Nat.add_one_ne_zero]
  cases goL (visit P ge m) ps (s.opn x) <;> simp
theorem finish_pop {P : Int → Option (List Int)} {ge : Int → Int} {N : Nat} {i : Int} {q : Int × List Int} {r : List (Int × List Int)} {s : GS} : finish P ge N ((i, []) :: q :: r) s = finish P ge N (q :: r) (s.plc i) := by
  obtain ⟨j, l⟩ := q
  simp [finish, goL]
theorem finish_end {P : Int → Option (List Int)} {ge : Int → Int} {N : Nat} {i : Int} {s : GS} : finish P ge N [(i, [])] s = .ok s := by
  simp [finish, goL]
theorem finish_start {P : Int → Option (List Int)} {ge : Int → Int} {N : Nat} {i : Int} {l : List Int} {s : GS} : finish P ge N [(i, l)] s = goL (visit P ge N) l s := by
  simp only [finish, List.length_nil, Nat.sub_zero, if_true]
  cases goL (visit P ge N) l s <;> rfl

/-- the commits of objects -/
def parO : Ob → Option (List Int)
  | .com c => some c.2.1
  | _ => none
def parsO (os : List Ob) (i : Int) : Option (List Int) := (findO os i).bind parO
def errO (os : List Ob) (i : Int) : Int := if (findO os i).isSome then 170 else 4
/-- how much there is to do at commits that are not met yet -/
def restO (been : Int → Int) : List Ob → Nat
  | [] => 0
  | o :: r => (match parO o with
    | some ps => if been (oid o) = 0 then ps.length + 2 else 0
    | none => 0) + restO been r
theorem restO_le {b b' : Int → Int} : ∀ (os : List Ob), (∀ x, b x ≠ 0 → b' x ≠ 0) → restO b' os ≤ restO b os
  | [], _ => Nat.le_refl _
  | o :: r, h => by
    have ih := restO_le r h
    have h1 := h (oid o)
    simp only [restO]
    cases parO o with
    | none => simpa using ih
    | some ps =>
      simp only
      by_cases e : b (oid o) = 0
      · rw [if_pos e]; split <;> omega
      · rw [if_neg e, if_neg (h1 e)]; omega
theorem restO_push {b : Int → Int} {v : Int} (hv : v ≠ 0) : ∀ (os : List Ob) (x : Int) (ps : List Int), parsO os x = some ps → b x = 0 → restO (setG b x v) os + ps.length + 2 ≤ restO b os
  | [], x, ps, h, _ => by simp [parsO, findO] at h
  | o :: r, x, ps, h, hx => by
    have hle : restO (setG b x v) r ≤ restO b r := restO_le r (fun y hy => by unfold setG; split <;> assumption)
    by_cases e : oid o = x
    · have h2 : parO o = some ps := by
        simp only [parsO, findO, List.find?, e, beq_self_eq_true, Option.bind_some] at h
        exact h
      have e1 : restO b (o :: r) = (ps.length + 2) + restO b r := by simp only [restO, h2, e, hx, if_true]
      have e2 : restO (setG b x v) (o :: r) = 0 + restO (setG b x v) r := by
        have : setG b x v x ≠ 0 := by simp [setG, hv]
        simp only [restO, h2, e, if_neg this]
      rw [e1, e2]
      omega
    · have h2 : parsO r x = some ps := by
        have : (oid o == x) = false := by simp [e]
        simp only [parsO, findO, List.find?, this] at h ⊢
        exact h
      have ih := restO_push hv r x ps h2 hx
      have h3 : setG b x v (oid o) = b (oid o) := by simp [setG, e]
      simp only [restO, h3]
      omega
/-- how much is left to do along a pile -/
def leftP : List (Int × List Int) → Nat
  | [] => 0
  | q :: r => q.2.length + 1 + leftP r

/-- what holds of a pile: the ids above its bottom are commits that are being gone through, each once -/
structure PileOk (P : Int → Option (List Int)) (p : List (Int × List Int)) (s : GS) : Prop where
  ne : p ≠ []
  nodup : (p.dropLast.map (·.1)).Nodup
  one : ∀ q ∈ p.dropLast, s.been q.1 = 1 ∧ (P q.1).isSome = true
theorem findO_oids {os : List Ob} {i : Int} (h : (parsO os i).isSome = true) : i ∈ oids os := by
  unfold parsO at h
  cases hf : findO os i with
  | none => rw [hf] at h; cases h
  | some o => obtain ⟨h1, h2⟩ := findO_mem hf; exact List.mem_map.2 ⟨o, h1, h2⟩
theorem nodup_le {α : Type} [DecidableEq α] : ∀ (l m : List α), l.Nodup → (∀ x ∈ l, x ∈ m) → l.length ≤ m.length
  | [], m, _, _ => Nat.zero_le _
  | x :: l, m, hn, hs => by
    have hx := hs x (by simp)
    have := nodup_le l (m.erase x) (List.nodup_cons.1 hn).2 (fun y hy => by
      have hne : y ≠ x := fun e => (List.nodup_cons.1 hn).1 (e ▸ hy)
      exact (List.mem_erase_of_ne hne).2 (hs y (by simp [hy])))
    rw [List.length_erase_of_mem hx] at this
    have := List.length_pos_of_mem hx
    simp only [List.length_cons]
    omega
theorem PileOk.depth {os : List Ob} {p : List (Int × List Int)} {s : GS} (h : PileOk (parsO os) p s) : p.length ≤ os.length + 1 := by
  have h1 := nodup_le (p.dropLast.map (·.1)) (oids os) h.nodup (fun x hx => by
    obtain ⟨q, hq, rfl⟩ := List.mem_map.1 hx
    exact findO_oids (h.one q hq).2)
  simp only [List.length_map, List.length_dropLast, oids] at h1
  omega
theorem PileOk.next {P : Int → Option (List Int)} {i : Int} {l l' : List Int} {r : List (Int × List Int)} {s : GS} (h : PileOk P ((i, l) :: r) s) : PileOk P ((i, l') :: r) s := by
  cases r with
  | nil => exact ⟨by simp, by simp, by simp⟩
  | cons q r =>
    have h1 := h.nodup
    have h2 := h.one
    simp only [List.dropLast_cons_cons, List.map_cons, List.mem_cons] at h1 h2
    refine ⟨by simp, ?_, ?_⟩
    · simp only [List.dropLast_cons_cons, List.map_cons]; exact h1
    · simp only [List.dropLast_cons_cons, List.mem_cons]
      rintro x (rfl | hx)
      · exact h2 (i, l) (.inl rfl)
      · exact h2 x (.inr hx)
theorem PileOk.push {P : Int → Option (List Int)} {i x : Int} {l ps : List Int} {r : List (Int × List Int)} {s : GS} (h : PileOk P ((i, l) :: r) s) (h1 : s.been x ≠ 1) (hP : P x = some ps) : PileOk P ((x, ps) :: (i, l) :: r) (s.opn x) := by
  have hn := h.nodup
  have ho := h.one
  refine ⟨by simp, ?_, ?_⟩
  · simp only [List.dropLast_cons_cons, List.map_cons]
    refine List.nodup_cons.2 ⟨fun hm => ?_, hn⟩
    obtain ⟨q, hq, e⟩ := List.mem_map.1 hm
    have := (ho q hq).1
    rw [e] at this
    exact h1 this
  · simp only [List.dropLast_cons_cons, List.mem_cons]
    rintro q (rfl | hq)
    · simp [GS.opn, setG, hP]
    · obtain ⟨h2, h3⟩ := ho q hq
      refine ⟨?_, h3⟩
      simp only [GS.opn, setG]
      split
      · rfl
      · exact h2
theorem PileOk.pop {P : Int → Option (List Int)} {i : Int} {l : List Int} {q : Int × List Int} {r : List (Int × List Int)} {s : GS} (h : PileOk P ((i, l) :: q :: r) s) : PileOk P (q :: r) (s.plc i) := by
  have hn := h.nodup
  have ho := h.one
  simp only [List.dropLast_cons_cons, List.map_cons] at hn ho
  refine ⟨by simp, (List.nodup_cons.1 hn).2, fun x hx => ?_⟩
  obtain ⟨h2, h3⟩ := ho x (by simp [hx])
  refine ⟨?_, h3⟩
  simp only [GS.plc, setG]
  split
  · rename_i e
    exact absurd (List.mem_map.2 ⟨x, hx, e⟩) (List.nodup_cons.1 hn).1
  · exact h2
end Go.Proofs.YtncagdfbgpdhfaaGreat

/- The histories of the laws of layer 11, plain: which objects stand in the store, which ids, which nodes. -/
namespace Go.Proofs.YtncagdfbgpdhfaaGreat
open Go.RowKit

theorem gob_ok {o : Ob} {v : Value} {W : World} (h : ObAt o v W) (h0 : obErr o = 0) : (obB o).length ≤ 16384 ∧ decG (obB o) = some o := by
  have ok : ObOk o := by
    cases o with
    | blob b => exact trivial
    | tree l =>
      obtain ⟨ad, cp, _, h2, h3, h4⟩ := h
      obtain ⟨f1, f2⟩ := fits_of h3 h0
      refine ⟨fun x hx => ?_, by omega⟩
      obtain ⟨j, hj⟩ := List.mem_iff_getElem?.1 hx
      exact ⟨f2.name j x hj, f2.id j x hj⟩
    | com c =>
      obtain ⟨ad, cp, _, h2⟩ := h
      obtain ⟨f0, f1, f2, f3⟩ := com_fits h0
      exact ⟨h2.tree, h2.pars, by omega, f2, h2.date, f3⟩
  refine ⟨obB_len h h0, ?_⟩
  have := decR_obB o ok []
  rw [List.append_nil] at this
  unfold decG
  rw [this]
  cases o <;> simp [h0]
/-- a commit as the laws are handed it -/
structure BornD where
  back : List Int
  date : Int
  blob : Bool
  lost : Bool
  bare : Bool
/-- what becomes of a store into which an object is put -/
noncomputable def putG (os : List Ob) (o : Ob) : Option (List Ob) := match findO os (oid o) with
  | none => some (os ++ [o])
  | some p => if obB p = obB o then some os else none
def backI (n m : Nat) (x : Int) : Nat := n - 1 - (max x 0).toNat % m
def backId (ids : List Int) (x : Int) : Int := (ids[backI ids.length ids.length x]?).getD 0
def backs (ids : List Int) (back : List Int) : List Int := if ids.length = 0 then [] else (back.take 7).map (backId ids)
def parsG (ids : List Int) (b : BornD) : List Int := backs ids b.back ++ (if b.lost then [54321] else [])
def comG (none : Int) (ids : List Int) (b : BornD) : ComD := (if b.bare then 12345 else none, parsG ids b, ⟨#[]⟩, b.date, ⟨#[]⟩)
def byteG (d : Int) : UInt8 := UInt8.ofNat (d % 256).toNat
def obG (none : Int) (ids : List Int) (b : BornD) : Ob := if b.blob then .blob [byteG b.date] else .com (comG none ids b)
def hasN (nodes : List (Int × List Int × Bool)) (i : Int) : Bool := nodes.any fun n => n.1 == i
/-- the empty tree's id -/
noncomputable def emptyI : Int := oid (.tree [])
end Go.Proofs.YtncagdfbgpdhfaaGreat
