import Derived.Test.YtggnglgehobglaaGreatDoorN13
import Derived.Maps.OwnIn
import Derived.Carry
/- A table of rules by their Froms: what it is in memory, its answers, and tableOf. -/
namespace Go.Proofs.YtggnglgehobglaaGreatDoor
open Go.RowKit Go.Shelf Go.Maps

attribute [local go_sem] Oper.semAt_some

def rvT (v : Value) : Option (DataW Value × List MemPlace) := some (.held v, [])
theorem keyedT : Keyed Tryz.prog 9 := string_keyed Tryz.underlying9
theorem keyOfT (s : ByteArray) (hs : s.size ≤ maxLen) : keyOf Tryz.prog 9 (.string s) = some (.string (bs s)) := WideMaps.keyOf_string_mk (P := Tryz.prog) Tryz.underlying9 hs
theorem zeroRule (w : World) : (zeroValue 31).run Tryz.prog w = .ok (rv 0 ⟨#[]⟩ ⟨#[]⟩) w := by kernel_rfl
theorem keyNeT {l l' : List UInt8} (h : l' ≠ l) : (Lit.string l' : Lit) ≠ .string l := fun e => h (by cases e; rfl)
theorem ownsMap_keptT {w w' : World} {b n : Nat} {M : DataW Value} (h : w.ownsMap Tryz.prog 9 rvT b n M) (hk : w'.heap[b]? = w.heap[b]?) : w'.ownsMap Tryz.prog 9 rvT b n M := by
  obtain ⟨es, clock, hb, r⟩ := h
  exact ⟨es, clock, hk.trans hb, r⟩
theorem ownsMap_tightT {w : World} {b n : Nat} {M : DataW Value} (h : w.ownsMap Tryz.prog 9 rvT b n M) : w.ownsMap Tryz.prog 9 rvT b (size M) M := by
  obtain ⟨es, clock, h1, h2, h3, rfl⟩ := h
  exact ⟨es, clock, h1, h2, by simp [size, length_sorted], rfl⟩
/-- a table, plain: what stands at a From -/
abbrev Tb := List UInt8 → Option Ru
def setT (g : Tb) (l : List UInt8) (r : Ru) : Tb := fun k => if k = l then some r else g k
/-- block b is that table; it has at most n rules -/
def TbAt (w : World) (b : Nat) (g : Tb) (n : Nat) : Prop := ∃ M : DataW Value, w.ownsMap Tryz.prog 9 rvT b (size M) M ∧ size M ≤ n ∧ (∀ l, has M (.string l) = (g l).isSome) ∧ ∀ l, M.atKey (.string l) (.held (ruV noR)) = .held (ruV ((g l).getD noR))
theorem TbAt.lt {w : World} {b : Nat} {g : Tb} {n : Nat} (h : TbAt w b g n) : b < w.heap.size := by
  obtain ⟨M, h1, _⟩ := h
  exact h1.lt
theorem TbAt.kept {w w' : World} {b : Nat} {g : Tb} {n : Nat} (h : TbAt w b g n) (hk : w'.heap[b]? = w.heap[b]?) : TbAt w' b g n := by
  obtain ⟨M, h1, h2⟩ := h
  exact ⟨M, ownsMap_keptT h1 hk, h2⟩
theorem TbAt.below {w w' : World} {b : Nat} {g : Tb} {n : Nat} (h : TbAt w b g n) (hB : Below w.heap.size w w') : TbAt w' b g n := h.kept (hB.block b h.lt)
theorem TbAt.look {w : World} {b : Nat} {g : Tb} {n : Nat} (h : TbAt w b g n) (s : ByteArray) (hs : s.size ≤ maxLen) : (Instr.lookup 58 (.map (some b)) (.string s) true).run Tryz.prog w = .ok (.tuple #[ruV ((g (bs s)).getD noR), .bool (g (bs s)).isSome]) w := by
  obtain ⟨M, h1, _, h3, h4⟩ := h
  obtain ⟨u', ps, hrun, hu'⟩ := h1.look_ok keyedT Tryz.underlying58 (zeroRule w) (show rvT (rv 0 ⟨#[]⟩ ⟨#[]⟩) = some (.held (ruV noR), []) from rfl) (keyOfT s hs)
  rw [h4] at hu'
  simp only [rvT, Option.some.injEq, Prod.mk.injEq] at hu'
  obtain ⟨e, _⟩ := hu'
  have e2 : u' = ruV ((g (bs s)).getD noR) := by simpa using e
  rw [e2, h3] at hrun
  exact hrun
theorem TbAt.put {w : World} {b : Nat} {g : Tb} {n : Nat} (h : TbAt w b g n) (s : ByteArray) (hs : s.size ≤ maxLen) (hn : n < maxLen) (r : Ru) : ∃ w2, (Instr.mapUpdate 58 (.map (some b)) (.string s) (ruV r)).run Tryz.prog w = .ok () w2 ∧ TbAt w2 b (setT g (bs s) r) (n + 1) ∧ w.grownBy w2 (some b) := by
  obtain ⟨M, h1, h2, h3, h4⟩ := h
  obtain ⟨w2, hrun, own2, hg2⟩ := h1.update keyedT Tryz.underlying58 (by omega) (keyOfT s hs) (show rvT (ruV r) = some (.held (ruV r), []) from rfl)
  have hm := h1.isMap
  have htidy := h1.tidy keyedT
  refine ⟨w2, hrun, ⟨_, ownsMap_tightT own2, ?_, fun l => ?_, fun l => ?_⟩, hg2⟩
  · rw [size_put htidy]
    split <;> omega
  · by_cases e : l = bs s
    · subst e
      rw [has_put_same hm (show WideAt.IsKeyLit (.string (bs s)) from trivial)]
      simp [setT]
    · rw [has_put_other (keyNeT e), h3]
      simp [setT, e]
  · by_cases e : l = bs s
    · subst e
      rw [atKey_put_same hm (show WideAt.IsKeyLit (.string (bs s)) from trivial)]
      simp [setT]
    · rw [atKey_put_other (keyNeT e), h4]
      simp [setT, e]
theorem TbAt.new (w : World) : TbAt (w.alloc (.map #[] 0)) w.heap.size (fun _ => none) 0 := ⟨.map [], World.ownsMap_made w Tryz.prog 9 rvT, Nat.le_refl _, fun _ => rfl, fun _ => rfl⟩
/-- the table of rules: the last one of a From stands -/
def tabL : List Ru → Tb := fun rs => rs.foldl (fun g r => setT g r.2.1 r) (fun _ => none)
theorem tabL_step (rs : List Ru) (k : Nat) (r : Ru) (h : rs[k]? = some r) : tabL (rs.take (k + 1)) = setT (tabL (rs.take k)) r.2.1 r := by
  obtain ⟨hk, rfl⟩ := List.getElem?_eq_some_iff.1 h
  unfold tabL
  rw [List.take_succ_eq_append_getElem hk, List.foldl_append]
  rfl
set_option maxRecDepth 100000 in
set_option maxHeartbeats 4000000 in
theorem tableOf_any (w : World) (a : Option Addr) (n c : Nat) (rs : List Ru) (hl : Rus w a n rs) (hn : n ≤ 1000) (hs : ∀ r ∈ rs, r.2.1.length ≤ 1000000) :
    Calls Tryz.prog 47 #[.slice a n c] w fun e w' => ∃ b, e = .returned (.map (some b)) ∧ TbAt w' b (tabL rs) n ∧ w.heap.size ≤ b ∧ Below w.heap.size w w' := by
  have HL : Hid (Rus w a n rs ∧ ∀ r ∈ rs, r.2.1.length ≤ 1000000) := ⟨hl, hs⟩
  have hmm := @run_makeMap Tryz.prog
  have H0 : Hid (TbAt (w.alloc (.map #[] 0)) w.heap.size (fun _ => none) 0 ∧ Below w.heap.size w (w.alloc (.map #[] 0))) := ⟨TbAt.new w, (Below.refl _ w).alloc (Nat.le_refl _) _⟩
  clear hl hs
  go_enter Tryz.func47, Tryz.ntmps47
  go_wp2
  generalize w.alloc (.map #[] 0) = w1 at *
  generalize hmb : w.heap.size = mb at *
  have HMB : Hid (w.heap.size = mb) := hmb
  clear hmm hmb
  go_loopw [9] (fun v wr => ∃ k : Nat, k ≤ n ∧ v = .int .i64 (k : Int) ∧ Hid (TbAt wr mb (tabL (rs.take k)) k ∧ Below mb w wr)) (fun v _ => n - (intOf v).toNat)
  case atStart => exact ⟨0, Nat.zero_le _, rfl, H0.out⟩
  case round =>
    obtain ⟨k, hk, rfl, H⟩ := hrel
    by_cases hlt : k < n
    · obtain ⟨r, hr⟩ : ∃ r, rs[k]? = some r := ⟨_, List.getElem?_eq_getElem (by rw [HL.out.1.1]; exact hlt)⟩
      obtain ⟨b1, o1, hae, hc1⟩ := (HL.out.1.kept (by rw [HMB.out]; exact H.out.2)).2 (by omega)
      subst hae
      obtain ⟨q0, q1, q2⟩ := hc1 k r hr
      have hsz := HL.out.2 r (List.mem_of_getElem? hr)
      obtain ⟨f, hf⟩ : ∃ f, f = mk r.2.1 := ⟨_, rfl⟩
      obtain ⟨t, ht⟩ : ∃ t, t = mk r.2.2 := ⟨_, rfl⟩
      have hmkf : bs f = r.2.1 := by rw [hf, bs_mk]
      have hfs : f.size ≤ 1000000 := by rw [← bs_len, hmkf]; exact hsz
      have hbx : BoxR (wr.alloc (.cells #[.int .i64 r.1, .string f, .string t] 31)) wr.heap.size r.1 f t := BoxR.new wr r.1 f t
      obtain ⟨c0, c1, c2⟩ := hbx.cell
      have hB1 : Below mb w (wr.alloc (.cells #[.int .i64 r.1, .string f, .string t] 31)) := H.out.2.trans (((Below.refl _ wr).alloc (Nat.le_refl _) _).mono (by have := H.out.2.size; have := HMB.out; omega))
      have hT1 : TbAt (wr.alloc (.cells #[.int .i64 r.1, .string f, .string t] 31)) mb (tabL (rs.take k)) k := H.out.1.below ((Below.refl _ wr).alloc (Nat.le_refl _) _)
      obtain ⟨w3, hrun, hT3, hg3⟩ := hT1.put f (by unfold maxLen; omega) (by unfold maxLen; omega) r
      rw [hmkf, ← tabL_step rs k r hr] at hT3
      have hruv : ruV r = rv r.1 f t := by rw [hf, ht]
      rw [hruv] at hrun
      rw [← hf] at q1
      rw [← ht] at q2
      have HN : Hid (TbAt w3 mb (tabL (rs.take (k + 1))) (k + 1) ∧ Below mb w w3) := ⟨hT3, by
        refine ⟨hg3.os.trans hB1.os, hg3.tape.trans hB1.tape, hg3.output.trans hB1.output, Nat.le_trans hB1.size hg3.size, fun z hz => ?_⟩
        exact (hg3.block z (Nat.lt_of_lt_of_le (Nat.lt_of_lt_of_le hz (by have := HMB.out; omega)) (Nat.le_trans (Nat.le_refl _) hB1.size)) (fun e => by have := Option.some.inj e; omega)).trans (hB1.block z hz)⟩
      have i5 : (k : Int) < (n : Int) := by omega
      have i6 : ¬ n ≤ k := by omega
      generalize r.1 = kk at *
      clear hc1 hr hsz hf ht hmkf hbx hT1 hT3 hg3 hB1 H hruv
      go_wp2
      go_roundw
      case rel => exact ⟨k + 1, by omega, by simp, HN.out⟩
      case measure => simp [intOf]; omega
    · obtain rfl : k = n := by omega
      have i5 : ¬ (k : Int) < (k : Int) := by omega
      have HE : Hid (TbAt wr mb (tabL rs) k ∧ Below mb w wr) := by
        have h := H.out
        rw [List.take_of_length_le (by rw [HL.out.1.1]; exact Nat.le_refl _)] at h
        exact h
      clear H
      go_wp2
      go_ret
      exact ⟨mb, rfl, HE.out.1, Nat.le_of_eq HMB.out, by rw [HMB.out]; exact HE.out.2⟩
end Go.Proofs.YtggnglgehobglaaGreatDoor
