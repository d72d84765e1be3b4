import Derived.Test.YtncagdfbgpdhfaaGreatR22
import Derived.Test.YtncagdfbgpdhfaaGreatR24
import Derived.Test.YtncagdfbgpdhfaaGreatR25
/- What Since tells: the ids from a place on, in their order. -/
namespace Go.Proofs.YtncagdfbgpdhfaaGreat
open Go.RowKit Go.Shelf Go.Maps

attribute [local go_sem] Oper.semAt_some

end Go.Proofs.YtncagdfbgpdhfaaGreat

/- The walks of Blob, Tree and Commit. -/
namespace Go.Proofs.YtncagdfbgpdhfaaGreat
open Go.RowKit Go.Maps

attribute [local go_sem] Oper.semAt_some

def isCom : Ob → Bool
  | .com _ => true
  | _ => false
def obT : Ob → TypeId
  | .blob _ => 82
  | .tree _ => 125
  | .com _ => 78
theorem held_iface {O : Nat → Prop} {o : Ob} {v : Value} {W : World} (h : Held O o v W) : ∃ t u, v = .iface t u ∧ t = obT o := by
  have h := h.get.1
  cases o with
  | blob b => obtain ⟨ad, cp, rfl, _⟩ := h; exact ⟨_, _, rfl, rfl⟩
  | tree l => obtain ⟨ad, cp, rfl, _⟩ := h; exact ⟨_, _, rfl, rfl⟩
  | com c => obtain ⟨ad, cp, rfl, _⟩ := h; exact ⟨_, _, rfl, rfl⟩

end Go.Proofs.YtncagdfbgpdhfaaGreat

/- A store on a disk that is not cut and has just its records. -/
namespace Go.Proofs.YtncagdfbgpdhfaaGreat
open Go.RowKit Go.Shelf Go.Maps

attribute [local go_sem] Oper.semAt_some

theorem objNm_name : nameB objNm.data.toList = true := by decide
/-- objects that come back from their bytes, each once -/
def Pure (os : List Ob) : Prop := (∀ o ∈ os, decG (obB o) = some o) ∧ (oids os).Nodup
theorem Pure.nil : Pure [] := ⟨by simp, by simp [oids]⟩
theorem Pure.snoc {os : List Ob} {o : Ob} (h : Pure os) (hd : decG (obB o) = some o) (hf : findO os (oid o) = none) : Pure (os ++ [o]) := by
  refine ⟨fun p hp => ?_, ?_⟩
  · rcases List.mem_append.1 hp with hp | hp
    · exact h.1 p hp
    · simp at hp; subst hp; exact hd
  · have := findO_none hf
    unfold oids at this ⊢
    rw [List.map_append, List.nodup_append]
    refine ⟨h.2, by simp, ?_⟩
    intro a ha b hb
    simp at hb
    subst hb
    intro e
    subst e
    exact this ha
theorem Pure.load {os : List Ob} (h : Pure os) : loadG (os.map obB) [] = some os := by
  have key : ∀ (b a : List Ob), Pure (a ++ b) → loadG (b.map obB) a = some (a ++ b) := by
    intro b
    induction b with
    | nil => intro a _; simp [loadG]
    | cons o b ih =>
      intro a ha
      simp only [List.map_cons, loadG]
      rw [ha.1 o (by simp)]
      have hf : findO a (oid o) = none := by
        unfold findO
        rw [List.find?_eq_none]
        intro p hp he
        have hn := ha.2
        unfold oids at hn
        rw [List.map_append, List.nodup_append] at hn
        exact hn.2.2 (oid p) (List.mem_map_of_mem hp) (oid o) (by simp) (by simpa using he)
      simp only [hf, Option.isSome_none, Bool.false_eq_true, if_false]
      have := ih (a ++ [o]) (by simpa using ha)
      simpa using this
  simpa using key os [] (by simpa using h)
theorem blob_pure (b : List UInt8) (h : b.length ≤ 4096) : obErr (.blob b) = 0 ∧ decG (obB (.blob b)) = some (.blob b) := by
  have h0 : obErr (.blob b) = 0 := by
    show blobErr b.length = 0
    unfold blobErr
    rw [if_neg (by omega)]
  refine ⟨h0, ?_⟩
  have h1 : decR (obB (.blob b) ++ []) = some (.blob (b ++ [])) := decR_obB (.blob b) trivial []
  rw [List.append_nil, List.append_nil] at h1
  unfold decG
  rw [h1, Option.bind_some, if_pos h0]

/-- a store, and its disk, that has just its records -/
structure StG (w : World) (s d : Nat) (os : List Ob) (S : DG) (F G : Nat → Prop) : Prop where
  st : IsSt w s d os (fileB (os.map obB)).length false F
  dk : IsDisk w d S G
  dis : ∀ k, F k → ¬ G k
  gd : JGd S objNm.data.toList (os.map obB)
theorem StG.turn {w w' : World} {s d : Nat} {os : List Ob} {S : DG} {F G X : Nat → Prop} (h : StG w s d os S F G) (hT : Turn X w w') (hX : ∀ k, F k ∨ G k → ¬ X k) : StG w' s d os S F G := ⟨h.st.turn hT (fun k hk => hX k (.inl hk)), h.dk.turn hT (fun k hk => hX k (.inr hk)), h.dis, h.gd⟩
theorem StG.below {w w' : World} {s d : Nat} {os : List Ob} {S : DG} {F G : Nat → Prop} (h : StG w s d os S F G) (hB : Below w.heap.size w w') : StG w' s d os S F G := h.turn (Turn.of_below (fun _ => False) hB) (fun _ _ => id)

theorem sput_good (w : World) (s d : Nat) (os : List Ob) (S : DG) (F G : Nat → Prop) (h : StG w s d os S F G) (v : Value) (o : Ob) (hv : ∀ W, Turn (fun k => F k ∨ G k) w W → ObS o v W) (h0 : obErr o = 0) (hf : findO os (oid o) = none) (hn : os.length < 65536) (hfit : (recB (obB o)).length + (fileB (os.map obB)).length ≤ 4194304) :
    Calls Tryz.prog 36 #[.pointer (some ⟨s, 0, none⟩), v] w fun e w' => e = .returned (.tuple #[.int .u64 (oid o), .int .i64 0]) ∧ Turn (fun k => F k ∨ G k) w w' ∧ ∃ S' F' G', StG w' s d (os ++ [o]) S' F' G' ∧ (∀ k, F' k → F k ∨ w.heap.size ≤ k) ∧ (∀ k, G' k → G k ∨ w.heap.size ≤ k) := by
  have hlen := obB_len (hv w (Turn.refl _ _)).1 h0
  obtain ⟨S', ha, hg'⟩ := h.gd.app objNm_name (obB o) (by omega) hfit
  have hbs : (S.bs objNm.data.toList).length = (fileB (os.map obB)).length := by rw [h.gd.get]
  have hSn := h.gd.n
  have hwr := h.gd.wr
  refine (sput_new w s d os _ F h.st S G h.dk h.dis v o hv h0 hf hn (by rw [hbs]; omega) (by rw [hbs]; exact Nat.le_refl _) (by omega) (by omega)).mono ?_
  rintro e w' ⟨he, hT, F', G', hd', hF', hG', hFG', hc⟩
  rw [ha] at he hd' hc
  rcases hc with ⟨_, hS⟩ | ⟨hne, _⟩
  · refine ⟨he, hT, S', F', G', ⟨?_, hd', hFG', by rw [List.map_append]; exact hg'⟩, hF', hG'⟩
    rw [List.map_append, List.map_cons, List.map_nil, fileB_snoc, List.length_append]
    exact hS
  · exact absurd rfl hne
theorem sopen_good (w : World) (d : Nat) (os : List Ob) (S : DG) (G : Nat → Prop) (hd : IsDisk w d S G) (hg : JGd S objNm.data.toList (os.map obB)) (hp : Pure os) (hfit : (fileB (os.map obB)).length ≤ 4194304) (hn : os.length ≤ 65536) :
    Calls Tryz.prog 33 #[.pointer (some ⟨d, 0, none⟩)] w fun e w' => ∃ s F G', e = .returned (.tuple #[.pointer (some ⟨s, 0, none⟩), .int .i64 0]) ∧ StG w' s d os S F G' ∧ Turn G w w' ∧ (∀ k, F k → w.heap.size ≤ k) ∧ (∀ k, G' k → G k ∨ w.heap.size ≤ k) := by
  have hSn := hg.n
  have hwr := hg.wr
  refine (sopen_any w d S G hd (by rw [hg.get]; exact hfit) (by omega) (by unfold maxLen; omega)).mono ?_
  rintro e w' ⟨hT, G', hd', hG', hc⟩
  obtain ⟨ho, hpa⟩ := hg.opened
  rw [ho] at hd' hc
  rw [hpa, hp.load] at hc
  rcases hc with ⟨h0, _⟩ | ⟨_, h0, _⟩ | ⟨_, os', h0, h1, _⟩ | ⟨_, os', s, F, h0, h1, he, hS, hF, hFG⟩
  · exact absurd rfl h0
  · cases h0
  · cases h0; omega
  · cases h0
    exact ⟨s, F, G', he, ⟨hS, hd', hFG, hg⟩, hT, hF, hG'⟩
end Go.Proofs.YtncagdfbgpdhfaaGreat

/- The order of a history, plain: commits gone through one behind the other; the pile by which the program does it. -/
namespace Go.Proofs.YtncagdfbgpdhfaaGreat

/-- how far ids have been gone through (1: its parents are, 2: it stands in the order), and the order -/
structure GS where
  been : Int → Int
  ord : List Int
def GS.none : GS := ⟨fun _ => 0, []⟩
def setG (f : Int → Int) (x v : Int) : Int → Int := fun y => if y = x then v else f y
def GS.opn (s : GS) (x : Int) : GS := ⟨setG s.been x 1, s.ord⟩
def GS.plc (s : GS) (x : Int) : GS := ⟨setG s.been x 2, s.ord ++ [x]⟩
/-- how it ends: an error, or where it has come to -/
inductive GR where
  | bad (e : Int)
  | ok (s : GS)
def GR.then (r : GR) (f : GS → GR) : GR := match r with
  | .bad e => .bad e
  | .ok s => f s
@[simp] theorem GR.bad_then (e : Int) (f : GS → GR) : (GR.bad e).then f = .bad e := rfl
@[simp] theorem GR.ok_then (s : GS) (f : GS → GR) : (GR.ok s).then f = f s := rfl

def goL (v : Int → GS → GR) : List Int → GS → GR
  | [], s => .ok s
  | x :: r, s => (v x s).then (goL v r)
/-- a commit gone through: P its parents, ge the error where it is none -/
def visit (P : Int → Option (List Int)) (ge : Int → Int) : Nat → Int → GS → GR
  | 0, _, _ => .bad 0
  | f + 1, x, s => if s.been x = 1 then .bad 210 else if s.been x = 2 then .ok s else match P x with
    | none => .bad (ge x)
    | some ps => (goL (visit P ge f) ps (s.opn x)).then fun s' => .ok (s'.plc x)

/-- what is left of a pile: its top first; at its bottom stand the heads -/
def finish (P : Int → Option (List Int)) (ge : Int → Int) (N : Nat) : List (Int × List Int) → GS → GR
  | [], s => .ok s
  | (i, l) :: r, s => (goL (visit P ge (N - r.length)) l s).then fun s' => if r.length = 0 then .ok s' else finish P ge N r (s'.plc i)

theorem finish_ring {P : Int → Option (List Int)} {ge : Int → Int} {N : Nat} {i x : Int} {l : List Int} {r : List (Int × List Int)} {s : GS} (hN : r.length < N) (h : s.been x = 1) : finish P ge N ((i, x :: l) :: r) s = .bad 210 := by
  obtain ⟨m, hm⟩ : ∃ m, N - r.length = m + 1 := ⟨N - r.length - 1, by omega⟩
  simp [finish, hm, goL, visit, h]
theorem finish_placed {P : Int → Option (List Int)} {ge : Int → Int} {N : Nat} {i x : Int} {l : List Int} {r : List (Int × List Int)} {s : GS} (hN : r.length < N) (h : s.been x = 2) : finish P ge N ((i, x :: l) :: r) s = finish P ge N ((i, l) :: r) s := by
  obtain ⟨m, hm⟩ : ∃ m, N - r.length = m + 1 := ⟨N - r.length - 1, by omega⟩
  simp [finish, hm, goL, visit, h]
theorem finish_bad {P : Int → Option (List Int)} {ge : Int → Int} {N : Nat} {i x : Int} {l : List Int} {r : List (Int × List Int)} {s : GS} (hN : r.length < N) (h1 : s.been x ≠ 1) (h2 : s.been x ≠ 2) (hP : P x = none) : finish P ge N ((i, x :: l) :: r) s = .bad (ge x) := by
  obtain ⟨m, hm⟩ : ∃ m, N - r.length = m + 1 := ⟨N - r.length - 1, by omega⟩
  simp [finish, hm, goL, visit, h1, h2, hP]
theorem finish_push {P : Int → Option (List Int)} {ge : Int → Int} {N : Nat} {i x : Int} {l ps : List Int} {r : List (Int × List Int)} {s : GS} (hN : r.length < N) (h1 : s.been x ≠ 1) (h2 : s.been x ≠ 2) (hP : P x = some ps) : finish P ge N ((i, x :: l) :: r) s = finish P ge N ((x, ps) :: (i, l) :: r) (s.opn x) := by
  obtain ⟨m, hm⟩ : ∃ m, N - r.length = m + 1 := ⟨N - r.length - 1, by omega⟩
  have hm2 : N - (r.length + 1) = m := by omega
  simp only [finish, hm, goL, visit, h1, h2, if_false, hP, List.length_cons, hm2, Nat.add_one_ne_zero]
  cases goL (visit P ge m) ps (s.opn x) <;> simp
theorem finish_pop {P : Int → Option (List Int)} {ge : Int → Int} {N : Nat} {i : Int} {q : Int × List Int} {r : List (Int × List Int)} {s : GS} : finish P ge N ((i, []) :: q :: r) s = finish P ge N (q :: r) (s.plc i) := by
  obtain ⟨j, l⟩ := q
  simp [finish, goL]
theorem finish_end {P : Int → Option (List Int)} {ge : Int → Int} {N : Nat} {i : Int} {s : GS} : finish P ge N [(i, [])] s = .ok s := by
  simp [finish, goL]
theorem finish_start {P : Int → Option (List Int)} {ge : Int → Int} {N : Nat} {i : Int} {l : List Int} {s : GS} : finish P ge N [(i, l)] s = goL (visit P ge N) l s := by
  simp only [finish, List.length_nil, Nat.sub_zero, if_true]
  cases goL (visit P ge N) l s <;> rfl

/-- the commits of objects -/
def parO : Ob → Option (List Int)
  | .com c => some c.2.1
  | _ => none
def parsO (os : List Ob) (i : Int) : Option (List Int) := (findO os i).bind parO
def errO (os : List Ob) (i : Int) : Int := if (findO os i).isSome then 170 else 4
/-- how much there is to do at commits that are not met yet -/
def restO (been : Int → Int) : List Ob → Nat
  | [] => 0
  | o :: r => (match parO o with
    | some ps => if been (oid o) = 0 then ps.length + 2 else 0
    | none => 0) + restO been r
theorem restO_le {b b' : Int → Int} : ∀ (os : List Ob), (∀ x, b x ≠ 0 → b' x ≠ 0) → restO b' os ≤ restO b os
  | [], _ => Nat.le_refl _
  | o :: r, h => by
    have ih := restO_le r h
    have h1 := h (oid o)
    simp only [restO]
    cases parO o with
    | none => simpa using ih
    | some ps =>
      simp only
      by_cases e : b (oid o) = 0
      · rw [if_pos e]; split <;> omega
      · rw [if_neg e, if_neg (h1 e)]; omega
theorem restO_push {b : Int → Int} {v : Int} (hv : v ≠ 0) : ∀ (os : List Ob) (x : Int) (ps : List Int), parsO os x = some ps → b x = 0 → restO (setG b x v) os + ps.length + 2 ≤ restO b os
  | [], x, ps, h, _ => by simp [parsO, findO] at h
  | o :: r, x, ps, h, hx => by
    have hle : restO (setG b x v) r ≤ restO b r := restO_le r (fun y hy => by unfold setG; split <;> assumption)
    by_cases e : oid o = x
    · have h2 : parO o = some ps := by
        simp only [parsO, findO, List.find?, e, beq_self_eq_true, Option.bind_some] at h
        exact h
      have e1 : restO b (o :: r) = (ps.length + 2) + restO b r := by simp only [restO, h2, e, hx, if_true]
      have e2 : restO (setG b x v) (o :: r) = 0 + restO (setG b x v) r := by
        have : setG b x v x ≠ 0 := by simp [setG, hv]
        simp only [restO, h2, e, if_neg this]
      rw [e1, e2]
      omega
    · have h2 : parsO r x = some ps := by
        have : (oid o == x) = false := by simp [e]
        simp only [parsO, findO, List.find?, this] at h ⊢
        exact h
      have ih := restO_push hv r x ps h2 hx
      have h3 : setG b x v (oid o) = b (oid o) := by simp [setG, e]
      simp only [restO, h3]
      omega
/-- how much is left to do along a pile -/
def leftP : List (Int × List Int) → Nat
  | [] => 0
  | q :: r => q.2.length + 1 + leftP r

/-- what holds of a pile: the ids above its bottom are commits that are being gone through, each once -/
structure PileOk (P : Int → Option (List Int)) (p : List (Int × List Int)) (s : GS) : Prop where
  ne : p ≠ []
  nodup : (p.dropLast.map (·.1)).Nodup
  one : ∀ q ∈ p.dropLast, s.been q.1 = 1 ∧ (P q.1).isSome = true
theorem findO_oids {os : List Ob} {i : Int} (h : (parsO os i).isSome = true) : i ∈ oids os := by
  unfold parsO at h
  cases hf : findO os i with
  | none => rw [hf] at h; cases h
  | some o => obtain ⟨h1, h2⟩ := findO_mem hf; exact List.mem_map.2 ⟨o, h1, h2⟩
theorem nodup_le {α : Type} [DecidableEq α] : ∀ (l m : List α), l.Nodup → (∀ x ∈ l, x ∈ m) → l.length ≤ m.length
  | [], m, _, _ => Nat.zero_le _
  | x :: l, m, hn, hs => by
    have hx := hs x (by simp)
    have := nodup_le l (m.erase x) (List.nodup_cons.1 hn).2 (fun y hy => by
      have hne : y ≠ x := fun e => (List.nodup_cons.1 hn).1 (e ▸ hy)
      exact (List.mem_erase_of_ne hne).2 (hs y (by simp [hy])))
    rw [List.length_erase_of_mem hx] at this
    have := List.length_pos_of_mem hx
    simp only [List.length_cons]
    omega
theorem PileOk.depth {os : List Ob} {p : List (Int × List Int)} {s : GS} (h : PileOk (parsO os) p s) : p.length ≤ os.length + 1 := by
  have h1 := nodup_le (p.dropLast.map (·.1)) (oids os) h.nodup (fun x hx => by
    obtain ⟨q, hq, rfl⟩ := List.mem_map.1 hx
    exact findO_oids (h.one q hq).2)
  simp only [List.length_map, List.length_dropLast, oids] at h1
  omega
theorem PileOk.next {P : Int → Option (List Int)} {i : Int} {l l' : List Int} {r : List (Int × List Int)} {s : GS} (h : PileOk P ((i, l) :: r) s) : PileOk P ((i, l') :: r) s := by
  cases r with
  | nil => exact ⟨by simp, by simp, by simp⟩
  | cons q r =>
    have h1 := h.nodup
    have h2 := h.one
    simp only [List.dropLast_cons_cons, List.map_cons, List.mem_cons] at h1 h2
    refine ⟨by simp, ?_, ?_⟩
    · simp only [List.dropLast_cons_cons, List.map_cons]; exact h1
    · simp only [List.dropLast_cons_cons, List.mem_cons]
      rintro x (rfl | hx)
      · exact h2 (i, l) (.inl rfl)
      · exact h2 x (.inr hx)
theorem PileOk.push {P : Int → Option (List Int)} {i x : Int} {l ps : List Int} {r : List (Int × List Int)} {s : GS} (h : PileOk P ((i, l) :: r) s) (h1 : s.been x ≠ 1) (hP : P x = some ps) : PileOk P ((x, ps) :: (i, l) :: r) (s.opn x) := by
  have hn := h.nodup
  have ho := h.one
  refine ⟨by simp, ?_, ?_⟩
  · simp only [List.dropLast_cons_cons, List.map_cons]
    refine List.nodup_cons.2 ⟨fun hm => ?_, hn⟩
    obtain ⟨q, hq, e⟩ := List.mem_map.1 hm
    have := (ho q hq).1
    rw [e] at this
    exact h1 this
  · simp only [List.dropLast_cons_cons, List.mem_cons]
    rintro q (rfl | hq)
    · simp [GS.opn, setG, hP]
    · obtain ⟨h2, h3⟩ := ho q hq
      refine ⟨?_, h3⟩
      simp only [GS.opn, setG]
      split
      · rfl
      · exact h2
theorem PileOk.pop {P : Int → Option (List Int)} {i : Int} {l : List Int} {q : Int × List Int} {r : List (Int × List Int)} {s : GS} (h : PileOk P ((i, l) :: q :: r) s) : PileOk P (q :: r) (s.plc i) := by
  have hn := h.nodup
  have ho := h.one
  simp only [List.dropLast_cons_cons, List.map_cons] at hn ho
  refine ⟨by simp, (List.nodup_cons.1 hn).2, fun x hx => ?_⟩
  obtain ⟨h2, h3⟩ := ho x (by simp [hx])
  refine ⟨?_, h3⟩
  simp only [GS.plc, setG]
  split
  · rename_i e
    exact absurd (List.mem_map.2 ⟨x, hx, e⟩) (List.nodup_cons.1 hn).1
  · exact h2
end Go.Proofs.YtncagdfbgpdhfaaGreat

/- The walk of Commit. -/
namespace Go.Proofs.YtncagdfbgpdhfaaGreat
open Go.RowKit Go.Maps

attribute [local go_sem] Oper.semAt_some
theorem step_kindError {ops : Array Oper} {o : Oper} {a : Act} {K : Act → World → Prop} {Q : Exit → Act → World → Prop} {E : Prop} (w : World) (ok : Bool) (e0 E0 : Int) (hE : E0 = if e0 = 0 ∧ ok = false then 170 else e0) (hgd : o.guard = none) (x y : Nat)
    (ho : o.op = .call { callee := .value (.func 142), args := #[.tmp x, .tmp y], argTypes := #[4, 32] }) (hx : a.tmps[x]?.getD undef = .bool ok) (hy : a.tmps[y]?.getD undef = .int .i64 e0)
    (hK : K (a.put o.dst (.int .i64 E0)) w) :
    if Region.wanted o (yielded ops a.tmps) = true then Oper.wp Tryz.prog o a w K Q else E := by
  have hw : Region.wanted o (yielded ops a.tmps) = true := by simp [Region.wanted, hgd]
  rw [if_pos hw]
  have hc := kindError_any ok e0 w
  rw [← hE] at hc
  unfold Oper.wp execOp
  simp [ho, resolve, invoke, go_sem, hx, hy]
  refine hc.mono ?_
  rintro y w' ⟨rfl, h2⟩
  rw [h2]
  simpa [go_sem] using hK

set_option maxRecDepth 20000 in
set_option maxHeartbeats 4000000 in
theorem sasCommit_any (X : Value) (t : Int) (a : Option Addr) (n c : Nat) (au : ByteArray) (dt : Int) (tx : ByteArray) (ok : Bool) (e0 E : Int) (h1 : ∀ xT w, (Instr.typeAssert X xT 78 true).run Tryz.prog w = .ok (.tuple #[.agg #[.int .u64 t, .slice a n c, .string au, .int .i64 dt, .string tx], .bool ok]) w) (hE : E = if e0 = 0 ∧ ok = false then 170 else e0) (w : World) :
    Calls Tryz.prog 110 #[X, .int .i64 e0] w fun e w' => e = .returned (.tuple #[.agg #[.int .u64 t, .slice a n c, .string au, .int .i64 dt, .string tx], .int .i64 E]) ∧ Below w.heap.size w w' := by
  go_enter Tryz.func110, Tryz.ntmps110
  go_wp2_with fail
  obtain ⟨W0, hW0⟩ : ∃ W0, W0 = ((w.alloc (.cells #[.int .u64 0, .slice none 0 0, .string ⟨#[]⟩, .int .i64 0, .string ⟨#[]⟩] 78)).alloc (.cells #[.int .u64 t, .slice a n c, .string au, .int .i64 dt, .string tx] 78)) := ⟨_, rfl⟩
  have HB0 : Hid (Below w.heap.size w W0) := (by rw [hW0]; exact ((Below.refl _ w).alloc (Nat.le_refl _) _).alloc (by simp) _ : Below w.heap.size w W0)
  have HK : Hid (E = if e0 = 0 ∧ ok = false then 170 else e0) := hE
  have b1 : Box5 W0 (w.heap.size + 1) (.int .u64 t) (.slice a n c) (.string au) (.int .i64 dt) (.string tx) := by
    have := Box5.new (w.alloc (.cells #[.int .u64 0, .slice none 0 0, .string ⟨#[]⟩, .int .i64 0, .string ⟨#[]⟩] 78)) (.int .u64 t) (.slice a n c) (.string au) (.int .i64 dt) (.string tx)
    rw [World.size_alloc] at this
    rw [hW0]; exact this
  have b0 : Box5 W0 w.heap.size (.int .u64 0) (.slice none 0 0) (.string ⟨#[]⟩) (.int .i64 0) (.string ⟨#[]⟩) := by
    have h0 := Box5.new w (.int .u64 0) (.slice none 0 0) (.string ⟨#[]⟩) (.int .i64 0) (.string ⟨#[]⟩)
    rw [hW0]; exact h0.kept ((Below.refl _ _).alloc (Nat.le_refl _) _)
  obtain ⟨x0, x1, x2, x3, x4⟩ := b1.cell
  obtain ⟨y0, y1, y2, y3, y4⟩ := b0.frozen
  obtain ⟨v0, v1, v2, v3, v4⟩ := b0.cell
  obtain ⟨z0, z1, z2, z3, z4⟩ := (b0.all (.int .u64 t) (.slice a n c) (.string au) (.int .i64 dt) (.string tx)).cell
  rw [← hW0]
  clear hW0 hE
  go_region_law (first
    | (refine step_kindError _ ok e0 E HK.out (by rfl) _ _ (by rfl) (by rfl) (by rfl) ?_))
  all_goals
   go_wp2
   refine bodyPost_ret (v := .tuple #[.agg #[.int .u64 t, .slice a n c, .string au, .int .i64 dt, .string tx], .int .i64 E]) (by simp [results, Tryz.results110, go_sem, z0, z1, z2, z3, z4]) rfl ⟨rfl, ?_⟩
   have hBd : Below w.heap.size w W0.drew := ⟨HB0.out.os, HB0.out.tape, HB0.out.output, HB0.out.size, HB0.out.block⟩
   exact below5 hBd (Nat.le_refl _) _ _ _ _ _
set_option maxRecDepth 20000 in
set_option maxHeartbeats 4000000 in
theorem scom_of (w : World) (s : Value) (i : Int) (e0 E : Int) (Rx : Value → World → Prop) (hg : Calls Tryz.prog 63 #[s, .int .u64 i] (w.alloc (.cells #[.int .u64 0, .slice none 0 0, .string ⟨#[]⟩, .int .i64 0, .string ⟨#[]⟩] 78)) fun e w' => ∃ X, e = .returned (.tuple #[X, .int .i64 e0]) ∧ Rx X w' ∧ Below (w.alloc (.cells #[.int .u64 0, .slice none 0 0, .string ⟨#[]⟩, .int .i64 0, .string ⟨#[]⟩] 78)).heap.size (w.alloc (.cells #[.int .u64 0, .slice none 0 0, .string ⟨#[]⟩, .int .i64 0, .string ⟨#[]⟩] 78)) w')
    (hX : ∀ X W, Rx X W → ∃ t a n c au dt tx ok, (∀ xT w, (Instr.typeAssert X xT 78 true).run Tryz.prog w = .ok (.tuple #[.agg #[.int .u64 t, .slice a n c, .string au, .int .i64 dt, .string tx], .bool ok]) w) ∧ (E = if e0 = 0 ∧ ok = false then 170 else e0)) :
    Calls Tryz.prog 81 #[s, .int .u64 i] w fun e w' => ∃ t a n c au dt tx X W1, e = .returned (.tuple #[.agg #[.int .u64 t, .slice a n c, .string au, .int .i64 dt, .string tx], .int .i64 E]) ∧ Rx X W1 ∧ (∃ ok, ∀ xT w, (Instr.typeAssert X xT 78 true).run Tryz.prog w = .ok (.tuple #[.agg #[.int .u64 t, .slice a n c, .string au, .int .i64 dt, .string tx], .bool ok]) w) ∧ Below (w.alloc (.cells #[.int .u64 0, .slice none 0 0, .string ⟨#[]⟩, .int .i64 0, .string ⟨#[]⟩] 78)).heap.size (w.alloc (.cells #[.int .u64 0, .slice none 0 0, .string ⟨#[]⟩, .int .i64 0, .string ⟨#[]⟩] 78)) W1 ∧ Below w.heap.size w w' ∧ (∀ k, k ≠ w.heap.size → k < W1.heap.size → w'.heap[k]? = W1.heap[k]?) := by
  have hB0 : Below w.heap.size w (w.alloc (.cells #[.int .u64 0, .slice none 0 0, .string ⟨#[]⟩, .int .i64 0, .string ⟨#[]⟩] 78)) := (Below.refl _ w).alloc (Nat.le_refl _) _
  have HX : Hid (∀ X W, Rx X W → ∃ t a n c au dt tx ok, (∀ xT w, (Instr.typeAssert X xT 78 true).run Tryz.prog w = .ok (.tuple #[.agg #[.int .u64 t, .slice a n c, .string au, .int .i64 dt, .string tx], .bool ok]) w) ∧ (E = if e0 = 0 ∧ ok = false then 170 else e0)) := hX
  clear hX
  go_enter Tryz.func81, Tryz.ntmps81
  go_wp2_with first
    | (go_at_call 63; refine hg.mono ?_; clear hg; rintro e w0 ⟨X, rfl, hR0, hBg⟩; have HR : Hid (Rx X w0) := hR0; have HBg : Hid (Below (w.alloc (.cells #[.int .u64 0, .slice none 0 0, .string ⟨#[]⟩, .int .i64 0, .string ⟨#[]⟩] 78)).heap.size (w.alloc (.cells #[.int .u64 0, .slice none 0 0, .string ⟨#[]⟩, .int .i64 0, .string ⟨#[]⟩] 78)) w0) := hBg; obtain ⟨t, a, n, c, au, dt, tx, ok, hta, hE⟩ := HX.out X w0 hR0; have HTA : Hid (∀ xT w, (Instr.typeAssert X xT 78 true).run Tryz.prog w = .ok (.tuple #[.agg #[.int .u64 t, .slice a n c, .string au, .int .i64 dt, .string tx], .bool ok]) w) := hta; have HE : Hid (E = if e0 = 0 ∧ ok = false then 170 else e0) := hE; clear hR0 hBg hta hE)
    | (go_at_call 110; refine (sasCommit_any X t a n c au dt tx ok e0 E HTA.out HE.out _).mono ?_; rintro e w1 ⟨rfl, hB1⟩; have HB : Below (w.alloc (.cells #[.int .u64 0, .slice none 0 0, .string ⟨#[]⟩, .int .i64 0, .string ⟨#[]⟩] 78)).heap.size (w.alloc (.cells #[.int .u64 0, .slice none 0 0, .string ⟨#[]⟩, .int .i64 0, .string ⟨#[]⟩] 78)) w1 := HBg.out.trans (hB1.mono HBg.out.size); have hb : Box5 w1 w.heap.size (.int .u64 0) (.slice none 0 0) (.string ⟨#[]⟩) (.int .i64 0) (.string ⟨#[]⟩) := (HB.block w.heap.size (by simp)).trans (World.alloc_heap_new _ _); obtain ⟨cb0, cb1, cb2, cb3, cb4⟩ := hb.cell; obtain ⟨fb0, fb1, fb2, fb3, fb4⟩ := hb.frozen)
  obtain ⟨d0, d1, d2, d3, d4⟩ := (hb.all (.int .u64 t) (.slice a n c) (.string au) (.int .i64 dt) (.string tx)).cell
  refine bodyPost_ret (v := .tuple #[.agg #[.int .u64 t, .slice a n c, .string au, .int .i64 dt, .string tx], .int .i64 E]) (by simp [results, Tryz.results81, go_sem, d0, d1, d2, d3, d4]) rfl ⟨t, a, n, c, au, dt, tx, X, w0, rfl, HR.out, ⟨ok, HTA.out⟩, HBg.out, below5 (hB0.trans (HB.mono (by simp))) (Nat.le_refl _) _ _ _ _ _, fun k hk hl => ?_⟩
  rw [Below.heap_setCell _ _ _ _ (by exact hk), Below.heap_setCell _ _ _ _ (by exact hk), Below.heap_setCell _ _ _ _ (by exact hk), Below.heap_setCell _ _ _ _ (by exact hk), Below.heap_setCell _ _ _ _ (by exact hk)]
  exact hB1.block k hl
theorem scom_no (w : World) (s d : Nat) (os : List Ob) (sz : Nat) (cut : Bool) (F : Nat → Prop) (h : IsSt w s d os sz cut F) (i : Int) (h0 : 0 ≤ i) (h1 : i ≤ 18446744073709551615) (o : Ob) (hf : findO os i = some o) (hk : isCom o = false) :
    Calls Tryz.prog 81 #[.pointer (some ⟨s, 0, none⟩), .int .u64 i] w fun e w' => ∃ t a n c au dt tx, e = .returned (.tuple #[.agg #[.int .u64 t, .slice a n c, .string au, .int .i64 dt, .string tx], .int .i64 170]) ∧ Below w.heap.size w w' := by
  refine (scom_of w (.pointer (some ⟨s, 0, none⟩)) i 0 170 (fun X W => ∃ O, Held O o X W) ((get_there _ s d os sz cut F (h.below ((Below.refl _ w).alloc (Nat.le_refl _) _)) i h0 h1 o hf).mono fun e w' ⟨u, h1, h2, h3⟩ => ⟨u, h1, ⟨_, h2⟩, h3⟩) ?_).mono ?_
  · rintro X W ⟨O, hX⟩
    obtain ⟨t, u, rfl, ht⟩ := held_iface hX
    refine ⟨0, none, 0, 0, ⟨#[]⟩, 0, ⟨#[]⟩, false, no_commit t ?_ u, rfl⟩
    rw [ht]
    cases o <;> first | (cases hk; done) | (show obT _ ≠ _; simp [obT]; done) | (simp only [obT]; decide)
  · rintro e w' ⟨t, a, n, c, au, dt, tx, X, W1, he, _, _, _, hB, _⟩
    exact ⟨t, a, n, c, au, dt, tx, he, hB⟩
end Go.Proofs.YtncagdfbgpdhfaaGreat
