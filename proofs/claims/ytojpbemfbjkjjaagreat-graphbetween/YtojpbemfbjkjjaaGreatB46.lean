import Derived.Test.YtojpbemfbjkjjaaGreatB45
import Derived.Test.YtojpbemfbjkjjaaGreatB43
import Derived.Test.YtojpbemfbjkjjaaGreatB36
/- The walk of Between. -/
namespace Go.Proofs.YtojpbemfbjkjjaaGreat
open Go.RowKit Go.Maps

attribute [local go_sem] Oper.semAt_some

/-- what some heads have behind others -/
def btwG (os : List Ob) (have' want : List Int) : GR := (ordG os have' GS.none).then fun gs => (ordG os want gs).then fun g2 => .ok ⟨g2.been, g2.ord.drop gs.ord.length⟩
set_option maxRecDepth 100000 in
set_option maxHeartbeats 8000000 in
theorem between_any (w : World) (s d : Nat) (os : List Ob) (sz : Nat) (cut : Bool) (F : Nat → Prop) (hS : IsSt w s d os sz cut F) (hos : os.length ≤ 65536) (a : Option Addr) (n c : Nat) (l : List Int) (hl : Ids w a n l) (hr : ∀ x ∈ l, 0 ≤ x ∧ x ≤ 18446744073709551615) (hnc : n ≤ c) (hn : n ≤ 1000000000)
    (a2 : Option Addr) (n2 c2 : Nat) (l2 : List Int) (hl2 : Ids w a2 n2 l2) (hr2 : ∀ x ∈ l2, 0 ≤ x ∧ x ≤ 18446744073709551615) (hnc2 : n2 ≤ c2) (hn2 : n2 ≤ 1000000000) :
    Calls Tryz.prog 17 #[.pointer (some ⟨s, 0, none⟩), .slice a n c, .slice a2 n2 c2] w fun e w' => Below w.heap.size w w' ∧ LOut w (btwG os l l2) e w' := by
  have hrd := gread_any w s d os sz cut F hS hos a n c l hl hr hnc hn
  unfold btwG
  cases hR : ordG os l GS.none with
  | bad er =>
    rw [hR] at hrd
    clear hR hl hr hnc hl2 hr2 hnc2 hS
    go_enter Tryz.func17, Tryz.ntmps17
    go_wp2_with (go_at_call 30; refine hrd.mono ?_; clear hrd; rintro e w1 ⟨hB1, he, hne⟩; subst he; have hne2 : (er == 0) = false := beq_eq_false_iff_ne.2 hne)
    go_ret2
    exact ⟨hB1, rfl, hne⟩
  | ok gs =>
    rw [hR] at hrd
    have hb3 : B3 gs := (goL_grows hR).1 fun x => .inl rfl
    have hrest := restO_bound gs.been os hS.good
    have HI0 : Hid (IsSt w s d os sz cut F ∧ Ids w a2 n2 l2 ∧ (∀ x ∈ l2, 0 ≤ x ∧ x ≤ 18446744073709551615) ∧ n2 ≤ c2 ∧ n2 ≤ 1000000000 ∧ n ≤ 1000000000 ∧ B3 gs ∧ restO gs.been os ≤ os.length * 10 ∧ os.length ≤ 65536) := ⟨hS, hl2, hr2, hnc2, hn2, hn, hb3, hrest, hos⟩
    clear hR hl hr hnc hl2 hr2 hnc2 hS hn2 hn hb3 hrest hos
    show Calls _ _ _ _ fun e w' => _ ∧ LOut w ((ordG os l2 gs).then fun g2 => .ok ⟨g2.been, g2.ord.drop gs.ord.length⟩) e w'
    go_enter Tryz.func17, Tryz.ntmps17
    go_wp2_with fail
    refine hrd.mono ?_
    clear hrd
    rintro e w1 ⟨hB1, h, mb, ov, ms, K, cc, he, hN⟩
    subst he
    obtain ⟨hS, hl2, hr2, hnc2, hn2, hn, hb3, hrest, hos⟩ := HI0.out
    have hmo := hN.H.more w.heap.size hB1.size hN.new
    have hfo := follow_any w1 h s d mb ov os sz cut F gs.been cc ms _ (hS.below hB1) hmo (fun k hk hF => by have h1 := hS.lt k hF; have h2 := hN.new k hk; omega) a2 n2 c2 l2 (((HI.of_ids hl2).kept fun k hk => hB1.block k hk).wide fun k hk => .inr hk) hr2 hnc2 hb3 (n + 1 + os.length * 10 + (n2 + 1 + os.length * 10)) (by have := hN.cc; omega) (by have := hN.mc; omega) (by omega) hos
    rw [hN.ord] at hfo
    have hfo2 : Calls Tryz.prog 31 #[.pointer (some ⟨h, 0, none⟩), .slice a2 n2 c2] w1 fun e w' => Turn (HX h mb ov) w1 w' ∧ FOut w1 h s mb ov os (n + 1 + os.length * 10 + (n2 + 1 + os.length * 10)) (ordG os l2 gs) e w' := hfo
    clear hfo hmo
    have q2 := hN.H.c2
    obtain ⟨oa, oc, hov, hoc, _⟩ := row_shapeN hN.H.row
    have hlen : ms.length = gs.ord.length := by rw [← hN.ord, List.length_map]
    have hC : n + 1 + os.length * 10 + (n2 + 1 + os.length * 10) ≤ 1000000000000 := by omega
    generalize n + 1 + os.length * 10 + (n2 + 1 + os.length * 10) = C at *
    have HB1 : Hid (Below w.heap.size w w1 ∧ (∀ k, HX h mb ov k → w.heap.size ≤ k) ∧ C ≤ 1000000000000) := ⟨hB1, hN.new, hC⟩
    clear hS hl2 hr2 hnc2 hn2 hn hb3 hrest hos hB1 HI0 hN hC
    subst hov
    rw [hlen] at q2 hoc
    rw [hlen] at hfo2 HB1
    generalize hGL : gs.ord.length = GL at *
    have HGL : Hid (gs.ord.length = GL) := hGL
    clear hlen
    cases hR2 : ordG os l2 gs with
    | bad er =>
      rw [hR2] at hfo2
      have HR2 : Hid (ordG os l2 gs = .bad er) := hR2
      clear hR2
      go_wp2_with fail
      refine hfo2.mono ?_
      clear hfo2
      rintro e w2 ⟨hT, he, hne⟩
      subst he
      have hne2 : (er == 0) = false := beq_eq_false_iff_ne.2 hne
      have HB2 : Hid (Below w.heap.size w w2) := HB1.out.1.trans (hT.below HB1.out.1.size HB1.out.2.1)
      clear hT
      go_wp2
      go_ret2
      refine ⟨HB2.out, ?_⟩
      rw [HR2.out]
      exact ⟨rfl, hne⟩
    | ok g2 =>
      rw [hR2] at hfo2
      obtain ⟨t, ht⟩ := (goL_grows hR2).2
      have hle : GL ≤ g2.ord.length := by rw [ht, List.length_append, hGL]; omega
      have HR2 : Hid (ordG os l2 gs = .ok g2) := hR2
      clear hR2 ht hGL
      go_wp2_with fail
      refine hfo2.mono ?_
      clear hfo2
      rintro e w2 ⟨hT, he, ov2, ms2, K2, cc2, hH2, hid2, _, hmc2, _⟩
      subst he
      have HB2 : Hid (Below w.heap.size w w2) := HB1.out.1.trans (hT.below HB1.out.1.size HB1.out.2.1)
      have q3 := hH2.c2
      obtain ⟨oa2, oc2, hov2, hoc2, _⟩ := row_shapeN hH2.row
      subst hov2
      have hmm := row_mems hH2.row rfl
      have hlen2 : ms2.length = g2.ord.length := by rw [← hid2, List.length_map]
      have hdr : (ms2.drop GL).map Mb.id = g2.ord.drop GL := by rw [List.map_drop, hid2]
      have hm9 : ms2.length ≤ 1000000000000 := Nat.le_trans hmc2 HB1.out.2.2
      rw [← hlen2] at hle
      have HD : Hid ((ms2.drop GL).map Mb.id = g2.ord.drop GL ∧ ms2.length = g2.ord.length) := ⟨hdr, hlen2⟩
      have HMM : Hid (Mems w2 oa2 ms2.length ms2) := hmm
      clear hT hid2 hmc2 hdr hlen2 hmm
      generalize hML : ms2.length = ML at *
      have HML : Hid (ms2.length = ML) := hML
      have HOA : Hid (oa2 = none ∧ oc2 = 0 ∨ ∃ g, oa2 = some ⟨g, 0, none⟩) := by
        rcases hH2.row.2 with ⟨h0, _⟩ | ⟨g, cap, cur, h0, _⟩
        · cases h0; exact .inl ⟨rfl, rfl⟩
        · cases h0; exact .inr ⟨g, rfl⟩
      clear hH2
      clear hML
      have HEnd : Hid (∀ W' ad cp, Below w2.heap.size w2 W' → W'.ownsRow w2.heap.size 31 1 (.slice ad (ML - GL) cp) (ML - GL) (((ms2.drop GL).map Mb.id).map (Value.int .u64)) → Below w.heap.size w W' ∧ LOut w ((ordG os l2 gs).then fun g2 => .ok ⟨g2.been, g2.ord.drop gs.ord.length⟩) (.returned (.tuple #[.slice ad (ML - GL) cp, .int .i64 0])) W') := fun W' ad cp h1 h2 => by
        refine ⟨HB2.out.trans (h1.mono HB2.out.size), ?_⟩
        rw [HR2.out]
        have e : (g2.ord.drop gs.ord.length).length = ML - GL := by rw [List.length_drop, HGL.out, ← HD.out.2]
        refine ⟨ad, cp, ?_, ?_⟩
        · show _ = Ending.returned (.tuple #[.slice ad (g2.ord.drop gs.ord.length).length cp, .int .i64 0])
          rw [e]
        · show W'.ownsRow _ _ _ (.slice ad (g2.ord.drop gs.ord.length).length cp) (g2.ord.drop gs.ord.length).length ((g2.ord.drop gs.ord.length).map _)
          rw [e]
          rw [HGL.out, ← HD.out.1]
          exact row_low h2 HB2.out.size
      have j1 : (GL : Int) ≤ (ML : Int) := by omega
      have j2 : (ML : Int) ≤ (oc2 : Int) := by omega
      have j3 : (0 : Int) ≤ (GL : Int) := by omega
      by_cases hlt : GL < ML
      · obtain ⟨b1, o1, hoa2, _⟩ := HMM.out.2 (by omega)
        subst hoa2
        have hmd := HMM.out.drop GL hlt
        have hid := fun cp => ids_any w2 (some ⟨b1, o1 + GL * 6, none⟩) (ML - GL) cp (ms2.drop GL) hmd (by omega)
        clear hmd
        go_wp2_with fail
        refine (hid _).mono ?_
        clear hid
        rintro e w3 ⟨ad, cp, rfl, hrow3, hB3⟩
        have HZ : Hid _ := HEnd.out w3 ad cp hB3 hrow3
        clear hrow3 hB3
        go_wp2
        go_ret2
        exact HZ.out
      · obtain rfl : GL = ML := by omega
        have e0 : ms2.drop GL = [] := List.drop_of_length_le (by rw [HML.out]; exact Nat.le_refl _)
        have HEnd0 : Hid (∀ W' ad cp, Below w2.heap.size w2 W' → W'.ownsRow w2.heap.size 31 1 (.slice ad 0 cp) 0 (([] : List Int).map (Value.int .u64)) → Below w.heap.size w W' ∧ LOut w ((ordG os l2 gs).then fun g2 => .ok ⟨g2.been, g2.ord.drop gs.ord.length⟩) (.returned (.tuple #[.slice ad 0 cp, .int .i64 0])) W') := by
          have h1 := HEnd.out
          rw [e0, Nat.sub_self] at h1
          exact h1
        have hid := fun A cp => ids_any w2 A 0 cp [] ⟨rfl, fun h => by omega⟩ (by omega)
        clear e0 HEnd
        rcases HOA.out with ⟨hoa2, hc0⟩ | ⟨g, hoa2⟩
        · subst hoa2
          subst hc0
          obtain rfl : GL = 0 := by omega
          go_wp2_with fail
          refine (hid _ _).mono ?_
          clear hid
          rintro e w3 ⟨ad, cp, rfl, hrow3, hB3⟩
          have HZ : Hid _ := HEnd0.out w3 ad cp hB3 hrow3
          clear hrow3 hB3
          go_wp2
          go_ret2
          exact HZ.out
        · subst hoa2
          by_cases hcc : oc2 = GL
          · subst hcc
            go_wp2_with fail
            refine (hid _ _).mono ?_
            clear hid
            rintro e w3 ⟨ad, cp, rfl, hrow3, hB3⟩
            have HZ : Hid _ := HEnd0.out w3 ad cp hB3 hrow3
            clear hrow3 hB3
            go_wp2
            go_ret2
            exact HZ.out
          · have hcc2 : GL < oc2 := by omega
            have hcc3 : ¬ oc2 - GL = 0 := by omega
            go_wp2_with fail
            refine (hid _ _).mono ?_
            clear hid
            rintro e w3 ⟨ad, cp, rfl, hrow3, hB3⟩
            have HZ : Hid _ := HEnd0.out w3 ad cp hB3 hrow3
            clear hrow3 hB3
            go_wp2
            go_ret2
            exact HZ.out
end Go.Proofs.YtojpbemfbjkjjaaGreat

/- What Between tells of two lists of heads, plain; heads as a list of ids. -/
namespace Go.Proofs.YtojpbemfbjkjjaaGreat
open Go.RowKit Go.Maps

theorem btw_bad {os : List Ob} {l l2 : List Int} {e : Int} (h : ordG os l GS.none = .bad e) : btwG os l l2 = .bad e := by
  unfold btwG; rw [h]; rfl
theorem btw_bad2 {os : List Ob} {l l2 : List Int} {gs : GS} {e : Int} (h : ordG os l GS.none = .ok gs) (h2 : ordG os l2 GS.none = .bad e) : btwG os l l2 = .bad e := by
  obtain ⟨_, ha⟩ := btw_sim os l l2 gs h
  rw [h2] at ha
  unfold btwG
  rw [h]
  cases h3 : ordG os l2 gs with
  | bad f => rw [h3] at ha; have : e = f := ha; subst this; simp [h3]
  | ok t => rw [h3] at ha; exact ha.elim
theorem btw_ok {os : List Ob} {l l2 : List Int} {gs g3 : GS} (h : ordG os l GS.none = .ok gs) (h2 : ordG os l2 GS.none = .ok g3) : ∃ g2, btwG os l l2 = .ok g2 ∧ g2.ord = g3.ord.filter (fun y => decide (y ∉ gs.ord)) := by
  obtain ⟨_, ha⟩ := btw_sim os l l2 gs h
  rw [h2] at ha
  unfold btwG
  rw [h]
  cases h3 : ordG os l2 gs with
  | bad f => rw [h3] at ha; exact ha.elim
  | ok t =>
    rw [h3] at ha
    refine ⟨⟨t.been, t.ord.drop gs.ord.length⟩, by simp [h3], ?_⟩
    have h4 : Sim gs.ord g3 t := ha
    show t.ord.drop gs.ord.length = _
    rw [h4.ord, List.drop_left]
theorem btw_nil_bad {os : List Ob} {l2 : List Int} {e : Int} (h2 : ordG os l2 GS.none = .bad e) : btwG os [] l2 = .bad e := by
  have h0 : ordG os [] GS.none = .ok GS.none := rfl
  unfold btwG
  rw [h0]
  simp only [GR.ok_then, h2, GR.bad_then]
theorem btw_nil_ok {os : List Ob} {l2 : List Int} {g3 : GS} (h2 : ordG os l2 GS.none = .ok g3) : btwG os [] l2 = .ok g3 := by
  have h0 : ordG os [] GS.none = .ok GS.none := rfl
  unfold btwG
  rw [h0]
  have e : GS.none.ord.length = 0 := rfl
  simp only [GR.ok_then, h2, e, List.drop_zero]
/-- every id of an order is a commit: there are no more of them than objects -/
theorem ord_len {os : List Ob} {l : List Int} {gs : GS} (h : ordG os l GS.none = .ok gs) : gs.ord.length ≤ os.length := by
  obtain ⟨hI, _⟩ := btw_sim os l [] gs h
  have h1 := nodup_le gs.ord (oids os) hI.nd (fun x hx => by
    obtain ⟨i, hi⟩ := List.getElem?_of_mem hx
    obtain ⟨ps, hp, _⟩ := hI.topo i x hi
    exact findO_oids (by rw [hp]; rfl))
  simpa [oids] using h1
/-- the law's heads, as a row of ids -/
theorem heads_ids (w : World) (hb k ic : Nat) (ia : Option Addr) (st : BS) (hN : NI st) (hO : BOk st) (c2 : w.cell? ⟨hb, 2, none⟩ = some (.slice ia k ic)) (hids : Ids w ia k st.ids) (hk : k ≤ 1000000) (a : Option Addr) (n c : Nat) (l : List Int) (hl : Ints w a n l) (hn : n ≤ 9223372036854775807) (hlr : ∀ x ∈ l, -9223372036854775808 ≤ x ∧ x ≤ 9223372036854775807) (HS : List Int) (hHS : headsG st.ids l = HS) (m : Nat) (hm : HS.length = m) :
    (emptyI ∉ HS ∧ (∀ x ∈ HS, 0 ≤ x ∧ x ≤ 18446744073709551615) ∧ m ≤ 8) ∧
    Calls Tryz.prog 9 #[.pointer (some ⟨hb, 0, none⟩), .slice a n c] w fun e w' => ∃ ad cp, e = .returned (.slice ad m cp) ∧ Ids w' ad m HS ∧ m ≤ cp ∧ (ad = none → m = 0 ∧ cp = 0) ∧ Below w.heap.size w w' := by
  subst hHS
  subst hm
  refine ⟨⟨heads_empty hN.ids l, headsG_rng (fun i hi => (hO.rng i hi).2) l, headsG_len st.ids l⟩, (heads_any w hb k ic ia st.ids c2 hids hk a n c l hl hn hlr).mono ?_⟩
  rintro e w' ⟨ad, cp, rfl, hrow, hB⟩
  obtain ⟨_, _, ee, hnc, hnn⟩ := row_shapeN hrow
  cases ee
  obtain ⟨_, _, ee, hI⟩ := own_ids hrow
  cases ee
  exact ⟨_, _, rfl, hI, hnc, hnn, hB⟩
end Go.Proofs.YtojpbemfbjkjjaaGreat

/- The walk of the laws' place: where an id stands. -/
namespace Go.Proofs.YtojpbemfbjkjjaaGreat
open Go.RowKit Go.Maps

attribute [local go_sem] Oper.semAt_some

/-- where it stands, counted from k; -1: nowhere -/
def plc : List Int → Int → Int → Int
  | [], _, _ => -1
  | x :: r, i, k => if x = i then k else plc r i (k + 1)
theorem plc_drop (l : List Int) (k : Nat) (x i : Int) (c : Int) (h : l[k]? = some x) : plc (l.drop k) i c = if x = i then c else plc (l.drop (k + 1)) i (c + 1) := by
  have hk := (List.getElem?_eq_some_iff.1 h).1
  rw [List.drop_eq_getElem_cons hk]
  have : l[k] = x := (List.getElem?_eq_some_iff.1 h).2
  rw [this]
  rfl
theorem plc_mem : ∀ (l : List Int) (i : Int) (k : Int), 0 ≤ k → (0 ≤ plc l i k ↔ i ∈ l)
  | [], i, k, _ => by simp [plc]
  | x :: r, i, k, hk => by
    simp only [plc, List.mem_cons]
    by_cases h : x = i
    · rw [if_pos h]; exact ⟨fun _ => .inl h.symm, fun _ => hk⟩
    · rw [if_neg h, plc_mem r i (k + 1) (by omega)]
      refine ⟨.inr, fun e => ?_⟩
      rcases e with e | e
      · exact absurd e.symm h
      · exact e
set_option maxRecDepth 20000 in
theorem place_any (w : World) (a : Option Addr) (n c : Nat) (l : List Int) (h : Ids w a n l) (hn : n ≤ 1000000000000) (i : Int) :
    Calls Tryz.prog 23 #[.slice a n c, .int .u64 i] w fun e w' => e = .returned (.int .i64 (plc l i 0)) ∧ w' = w := by
  have hll := h.1
  obtain ⟨E, hE⟩ : ∃ E, E = plc l i 0 := ⟨_, rfl⟩
  rw [← hE]
  go_enter Tryz.func23, Tryz.ntmps23
  go_wp2
  go_loopw [9] (fun v wr => ∃ k : Nat, k ≤ n ∧ v = .int .i64 (k : Int) ∧ Hid (E = plc (l.drop k) i (k : Int) ∧ wr = w)) (fun v _ => n - (intOf v).toNat)
  case atStart => exact ⟨0, Nat.zero_le _, rfl, hE, rfl⟩
  case round =>
    clear hE
    obtain ⟨k, hk, rfl, H⟩ := hrel
    have hwr := H.out.2
    subst hwr
    by_cases hlt : k < n
    · obtain ⟨x, hx⟩ : ∃ x, l[k]? = some x := ⟨_, List.getElem?_eq_getElem (by omega)⟩
      obtain ⟨b1, o1, rfl, hc1⟩ := h.2 (by omega)
      have q0 := hc1 k x hx
      have HD := H.out.1.trans (plc_drop l k x i (k : Int) hx)
      have i2 : (k : Int) < (n : Int) := by omega
      have i3 : ¬ n ≤ k := by omega
      clear hc1 hx H
      by_cases h0 : x = i
      · subst h0
        have e0 : E = (k : Int) := by rw [HD, if_pos rfl]
        clear HD
        subst e0
        go_wp2
        go_ret
        exact ⟨rfl, rfl⟩
      · have h0' : (x == i) = false := beq_eq_false_iff_ne.2 h0
        have HE : Hid (E = plc (l.drop (k + 1)) i ((k : Int) + 1)) := by rw [HD, if_neg h0]; exact rfl
        clear HD
        go_wp2
        go_roundw
        case rel => exact ⟨k + 1, by omega, by simp, by have := HE.out; simpa using this, by trivial⟩
        case measure => simp [intOf]; omega
    · obtain rfl : k = n := by omega
      have i2 : ¬ (k : Int) < (k : Int) := by omega
      have e0 : E = -1 := by rw [H.out.1, List.drop_of_length_le (by omega)]; rfl
      clear H
      subst e0
      go_wp2
      go_ret
      exact ⟨rfl, rfl⟩
end Go.Proofs.YtojpbemfbjkjjaaGreat
