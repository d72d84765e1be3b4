import Derived.Test.YtojpbemfbjkjjaaGreatL40
import Derived.Test.YtojpbemfbjkjjaaGreatL38
import Derived.Test.YtojpbemfbjkjjaaGreatL31
/- The walk of Between. -/
namespace Go.Proofs.YtojpbemfbjkjjaaGreat
open Go.RowKit Go.Maps

attribute [local go_sem] Oper.semAt_some

/-- what some heads have behind others -/
def btwG (os : List Ob) (have' want : List Int) : GR := (ordG os have' GS.none).then fun gs => (ordG os want gs).then fun g2 => .ok ⟨g2.been, g2.ord.drop gs.ord.length⟩
set_option maxRecDepth 100000 in
set_option maxHeartbeats 8000000 in
theorem between_any (w : World) (s d : Nat) (os : List Ob) (sz : Nat) (cut : Bool) (F : Nat → Prop) (hS : IsSt w s d os sz cut F) (hos : os.length ≤ 65536) (a : Option Addr) (n c : Nat) (l : List Int) (hl : Ids w a n l) (hr : ∀ x ∈ l, 0 ≤ x ∧ x ≤ 18446744073709551615) (hnc : n ≤ c) (hn : n ≤ 1000000000)
    (a2 : Option Addr) (n2 c2 : Nat) (l2 : List Int) (hl2 : Ids w a2 n2 l2) (hr2 : ∀ x ∈ l2, 0 ≤ x ∧ x ≤ 18446744073709551615) (hnc2 : n2 ≤ c2) (hn2 : n2 ≤ 1000000000) :
    Calls Tryz.prog 17 #[.pointer (some ⟨s, 0, none⟩), .slice a n c, .slice a2 n2 c2] w fun e w' => Below w.heap.size w w' ∧ LOut w (btwG os l l2) e w' := by
  have hrd := gread_any w s d os sz cut F hS hos a n c l hl hr hnc hn
  unfold btwG
  cases hR : ordG os l GS.none with
  | bad er =>
    rw [hR] at hrd
    clear hR hl hr hnc hl2 hr2 hnc2 hS
    go_enter Tryz.func17, Tryz.ntmps17
    go_wp2_with (go_at_call 30; refine hrd.mono ?_; clear hrd; rintro e w1 ⟨hB1, he, hne⟩; subst he; have hne2 : (er == 0) = false := beq_eq_false_iff_ne.2 hne)
    go_ret2
    exact ⟨hB1, rfl, hne⟩
  | ok gs =>
    rw [hR] at hrd
    have hb3 : B3 gs := (goL_grows hR).1 fun x => .inl rfl
    have hrest := restO_bound gs.been os hS.good
    have HI0 : Hid (IsSt w s d os sz cut F ∧ Ids w a2 n2 l2 ∧ (∀ x ∈ l2, 0 ≤ x ∧ x ≤ 18446744073709551615) ∧ n2 ≤ c2 ∧ n2 ≤ 1000000000 ∧ n ≤ 1000000000 ∧ B3 gs ∧ restO gs.been os ≤ os.length * 10 ∧ os.length ≤ 65536) := ⟨hS, hl2, hr2, hnc2, hn2, hn, hb3, hrest, hos⟩
    clear hR hl hr hnc hl2 hr2 hnc2 hS hn2 hn hb3 hrest hos
    show Calls _ _ _ _ fun e w' => _ ∧ LOut w ((ordG os l2 gs).then fun g2 => .ok ⟨g2.been, g2.ord.drop gs.ord.length⟩) e w'
    go_enter Tryz.func17, Tryz.ntmps17
    go_wp2_with fail
    refine hrd.mono ?_
    clear hrd
    rintro e w1 ⟨hB1, h, mb, ov, ms, K, cc, he, hN⟩
    subst he
    obtain ⟨hS, hl2, hr2, hnc2, hn2, hn, hb3, hrest, hos⟩ := HI0.out
    have hmo := hN.H.more w.heap.size hB1.size hN.new
    have hfo := follow_any w1 h s d mb ov os sz cut F gs.been cc ms _ (hS.below hB1) hmo (fun k hk hF => by have h1 := hS.lt k hF; have h2 := hN.new k hk; omega) a2 n2 c2 l2 (((HI.of_ids hl2).kept fun k hk => hB1.block k hk).wide fun k hk => .inr hk) hr2 hnc2 hb3 (n + 1 + os.length * 10 + (n2 + 1 + os.length * 10)) (by have := hN.cc; omega) (by have := hN.mc; omega) (by omega) hos
    rw [hN.ord] at hfo
    have hfo2 : Calls Tryz.prog 31 #[.pointer (some ⟨h, 0, none⟩), .slice a2 n2 c2] w1 fun e w' => Turn (HX h mb ov) w1 w' ∧ FOut w1 h s mb ov os (n + 1 + os.length * 10 + (n2 + 1 + os.length * 10)) (ordG os l2 gs) e w' := hfo
    clear hfo hmo
    have q2 := hN.H.c2
    obtain ⟨oa, oc, hov, hoc, _⟩ := row_shapeN hN.H.row
    have hlen : ms.length = gs.ord.length := by rw [← hN.ord, List.length_map]
    have hC : n + 1 + os.length * 10 + (n2 + 1 + os.length * 10) ≤ 1000000000000 := by omega
    generalize n + 1 + os.length * 10 + (n2 + 1 + os.length * 10) = C at *
    have HB1 : Hid (Below w.heap.size w w1 ∧ (∀ k, HX h mb ov k → w.heap.size ≤ k) ∧ C ≤ 1000000000000) := ⟨hB1, hN.new, hC⟩
    clear hS hl2 hr2 hnc2 hn2 hn hb3 hrest hos hB1 HI0 hN hC
    subst hov
    rw [hlen] at q2 hoc
    rw [hlen] at hfo2 HB1
    generalize hGL : gs.ord.length = GL at *
    have HGL : Hid (gs.ord.length = GL) := hGL
    clear hlen
    cases hR2 : ordG os l2 gs with
    | bad er =>
      rw [hR2] at hfo2
      have HR2 : Hid (ordG os l2 gs = .bad er) := hR2
      clear hR2
      go_wp2_with fail
      refine hfo2.mono ?_
      clear hfo2
      rintro e w2 ⟨hT, he, hne⟩
      subst he
      have hne2 : (er == 0) = false := beq_eq_false_iff_ne.2 hne
      have HB2 : Hid (Below w.heap.size w w2) := HB1.out.1.trans (hT.below HB1.out.1.size HB1.out.2.1)
      clear hT
      go_wp2
      go_ret2
      refine ⟨HB2.out, ?_⟩
      rw [HR2.out]
      exact ⟨rfl, hne⟩
    | ok g2 =>
      rw [hR2] at hfo2
      obtain ⟨t, ht⟩ := (goL_grows hR2).2
      have hle : GL ≤ g2.ord.length := by rw [ht, List.length_append, hGL]; omega
      have HR2 : Hid (ordG os l2 gs = .ok g2) := hR2
      clear hR2 ht hGL
      go_wp2_with fail
      refine hfo2.mono ?_
      clear hfo2
      rintro e w2 ⟨hT, he, ov2, ms2, K2, cc2, hH2, hid2, _, hmc2, _⟩
      subst he
      have HB2 : Hid (Below w.heap.size w w2) := HB1.out.1.trans (hT.below HB1.out.1.size HB1.out.2.1)
      have q3 := hH2.c2
      obtain ⟨oa2, oc2, hov2, hoc2, _⟩ := row_shapeN hH2.row
      subst hov2
      have hmm := row_mems hH2.row rfl
      have hlen2 : ms2.length = g2.ord.length := by rw [← hid2, List.length_map]
      have hdr : (ms2.drop GL).map Mb.id = g2.ord.drop GL := by rw [List.map_drop, hid2]
      have hm9 : ms2.length ≤ 1000000000000 := Nat.le_trans hmc2 HB1.out.2.2
      rw [← hlen2] at hle
      have HD : Hid ((ms2.drop GL).map Mb.id = g2.ord.drop GL ∧ ms2.length = g2.ord.length) := ⟨hdr, hlen2⟩
      have HMM : Hid (Mems w2 oa2 ms2.length ms2) := hmm
      clear hT hid2 hmc2 hdr hlen2 hmm
      generalize hML : ms2.length = ML at *
      have HML : Hid (ms2.length = ML) := hML
      have HOA : Hid (oa2 = none ∧ oc2 = 0 ∨ ∃ g, oa2 = some ⟨g, 0, none⟩) := by
        rcases hH2.row.2 with ⟨h0, _⟩ | ⟨g, cap, cur, h0, _⟩
        · cases h0; exact .inl ⟨rfl, rfl⟩
        · cases h0; exact .inr ⟨g, rfl⟩
      clear hH2
      clear hML
      have HEnd : Hid (∀ W' ad cp, Below w2.heap.size w2 W' → W'.ownsRow w2.heap.size 31 1 (.slice ad (ML - GL) cp) (ML - GL) (((ms2.drop GL).map Mb.id).map (Value.int .u64)) → Below w.heap.size w W' ∧ LOut w ((ordG os l2 gs).then fun g2 => .ok ⟨g2.been, g2.ord.drop gs.ord.length⟩) (.returned (.tuple #[.slice ad (ML - GL) cp, .int .i64 0])) W') := fun W' ad cp h1 h2 => by
        refine ⟨HB2.out.trans (h1.mono HB2.out.size), ?_⟩
        rw [HR2.out]
        have e : (g2.ord.drop gs.ord.length).length = ML - GL := by rw [List.length_drop, HGL.out, ← HD.out.2]
        refine ⟨ad, cp, ?_, ?_⟩
        · show _ = Ending.returned (.tuple #[.slice ad (g2.ord.drop gs.ord.length).length cp, .int .i64 0])
          rw [e]
        · show W'.ownsRow _ _ _ (.slice ad (g2.ord.drop gs.ord.length).length cp) (g2.ord.drop gs.ord.length).length ((g2.ord.drop gs.ord.length).map _)
          rw [e]
          rw [HGL.out, ← HD.out.1]
          exact row_low h2 HB2.out.size
      have j1 : (GL : Int) ≤ (ML : Int) := by omega
      have j2 : (ML : Int) ≤ (oc2 : Int) := by omega
      have j3 : (0 : Int) ≤ (GL : Int) := by omega
      by_cases hlt : GL < ML
      · obtain ⟨b1, o1, hoa2, _⟩ := HMM.out.2 (by omega)
        subst hoa2
        have hmd := HMM.out.drop GL hlt
        have hid := fun cp => ids_any w2 (some ⟨b1, o1 + GL * 6, none⟩) (ML - GL) cp (ms2.drop GL) hmd (by omega)
        clear hmd
        go_wp2_with fail
        refine (hid _).mono ?_
        clear hid
        rintro e w3 ⟨ad, cp, rfl, hrow3, hB3⟩
        have HZ : Hid _ := HEnd.out w3 ad cp hB3 hrow3
        clear hrow3 hB3
        go_wp2
        go_ret2
        exact HZ.out
      · obtain rfl : GL = ML := by omega
        have e0 : ms2.drop GL = [] := List.drop_of_length_le (by rw [HML.out]; exact Nat.le_refl _)
        have HEnd0 : Hid (∀ W' ad cp, Below w2.heap.size w2 W' → W'.ownsRow w2.heap.size 31 1 (.slice ad 0 cp) 0 (([] : List Int).map (Value.int .u64)) → Below w.heap.size w W' ∧ LOut w ((ordG os l2 gs).then fun g2 => .ok ⟨g2.been, g2.ord.drop gs.ord.length⟩) (.returned (.tuple #[.slice ad 0 cp, .int .i64 0])) W') := by
          have h1 := HEnd.out
          rw [e0, Nat.sub_self] at h1
          exact h1
        have hid := fun A cp => ids_any w2 A 0 cp [] ⟨rfl, fun h => by omega⟩ (by omega)
        clear e0 HEnd
        rcases HOA.out with ⟨hoa2, hc0⟩ | ⟨g, hoa2⟩
        · subst hoa2
          subst hc0
          obtain rfl : GL = 0 := by omega
          go_wp2_with fail
          refine (hid _ _).mono ?_
          clear hid
          rintro e w3 ⟨ad, cp, rfl, hrow3, hB3⟩
          have HZ : Hid _ := HEnd0.out w3 ad cp hB3 hrow3
          clear hrow3 hB3
          go_wp2
          go_ret2
          exact HZ.out
        · subst hoa2
          by_cases hcc : oc2 = GL
          · subst hcc
            go_wp2_with fail
            refine (hid _ _).mono ?_
            clear hid
            rintro e w3 ⟨ad, cp, rfl, hrow3, hB3⟩
            have HZ : Hid _ := HEnd0.out w3 ad cp hB3 hrow3
            clear hrow3 hB3
            go_wp2
            go_ret2
            exact HZ.out
          · have hcc2 : GL < oc2 := by omega
            have hcc3 : ¬ oc2 - GL = 0 := by omega
            go_wp2_with fail
            refine (hid _ _).mono ?_
            clear hid
            rintro e w3 ⟨ad, cp, rfl, hrow3, hB3⟩
            have HZ : Hid _ := HEnd0.out w3 ad cp hB3 hrow3
            clear hrow3 hB3
            go_wp2
            go_ret2
            exact HZ.out
end Go.Proofs.YtojpbemfbjkjjaaGreat

/- What Between tells of two lists of heads, plain; heads as a list of ids. -/
namespace Go.Proofs.YtojpbemfbjkjjaaGreat
open Go.RowKit Go.Maps

theorem btw_bad {os : List Ob} {l l2 : List Int} {e : Int} (h : ordG os l GS.none = .bad e) : btwG os l l2 = .bad e := by
  unfold btwG; rw [h]; rfl
theorem btw_bad2 {os : List Ob} {l l2 : List Int} {gs : GS} {e : Int} (h : ordG os l GS.none = .ok gs) (h2 : ordG os l2 GS.none = .bad e) : btwG os l l2 = .bad e := by
  obtain ⟨_, ha⟩ := btw_sim os l l2 gs h
  rw [h2] at ha
  unfold btwG
  rw [h]
  cases h3 : ordG os l2 gs with
  | bad f => rw [h3] at ha; have : e = f := ha; subst this; simp [h3]
  | ok t => rw [h3] at ha; exact ha.elim
theorem btw_ok {os : List Ob} {l l2 : List Int} {gs g3 : GS} (h : ordG os l GS.none = .ok gs) (h2 : ordG os l2 GS.none = .ok g3) : ∃ g2, btwG os l l2 = .ok g2 ∧ g2.ord = g3.ord.filter (fun y => decide (y ∉ gs.ord)) := by
  obtain ⟨_, ha⟩ := btw_sim os l l2 gs h
  rw [h2] at ha
  unfold btwG
  rw [h]
  cases h3 : ordG os l2 gs with
  | bad f => rw [h3] at ha; exact ha.elim
  | ok t =>
    rw [h3] at ha
    refine ⟨⟨t.been, t.ord.drop gs.ord.length⟩, by simp [h3], ?_⟩
    have h4 : Sim gs.ord g3 t := ha
    show t.ord.drop gs.ord.length = _
    rw [h4.ord, List.drop_left]
theorem btw_nil_bad {os : List Ob} {l2 : List Int} {e : Int} (h2 : ordG os l2 GS.none = .bad e) : btwG os [] l2 = .bad e := by
  have h0 : ordG os [] GS.none = .ok GS.none := rfl
  unfold btwG
  rw [h0]
  simp only [GR.ok_then, h2, GR.bad_then]
theorem btw_nil_ok {os : List Ob} {l2 : List Int} {g3 : GS} (h2 : ordG os l2 GS.none = .ok g3) : btwG os [] l2 = .ok g3 := by
  have h0 : ordG os [] GS.none = .ok GS.none := rfl
  unfold btwG
  rw [h0]
  have e : GS.none.ord.length = 0 := rfl
  simp only [GR.ok_then, h2, e, List.drop_zero]
/-- every id of an order is a commit: there are no more of them than objects -/
theorem ord_len {os : List Ob} {l : List Int} {gs : GS} (h : ordG os l GS.none = .ok gs) : gs.ord.length ≤ os.length := by
  obtain ⟨hI, _⟩ := btw_sim os l [] gs h
  have h1 := nodup_le gs.ord (oids os) hI.nd (fun x hx => by
    obtain ⟨i, hi⟩ := List.getElem?_of_mem hx
    obtain ⟨ps, hp, _⟩ := hI.topo i x hi
    exact findO_oids (by rw [hp]; rfl))
  simpa [oids] using h1
/-- the law's heads, as a row of ids -/
theorem heads_ids (w : World) (hb k ic : Nat) (ia : Option Addr) (st : BS) (hN : NI st) (hO : BOk st) (c2 : w.cell? ⟨hb, 2, none⟩ = some (.slice ia k ic)) (hids : Ids w ia k st.ids) (hk : k ≤ 1000000) (a : Option Addr) (n c : Nat) (l : List Int) (hl : Ints w a n l) (hn : n ≤ 9223372036854775807) (hlr : ∀ x ∈ l, -9223372036854775808 ≤ x ∧ x ≤ 9223372036854775807) (HS : List Int) (hHS : headsG st.ids l = HS) (m : Nat) (hm : HS.length = m) :
    (emptyI ∉ HS ∧ (∀ x ∈ HS, 0 ≤ x ∧ x ≤ 18446744073709551615) ∧ m ≤ 8) ∧
    Calls Tryz.prog 9 #[.pointer (some ⟨hb, 0, none⟩), .slice a n c] w fun e w' => ∃ ad cp, e = .returned (.slice ad m cp) ∧ Ids w' ad m HS ∧ m ≤ cp ∧ (ad = none → m = 0 ∧ cp = 0) ∧ Below w.heap.size w w' := by
  subst hHS
  subst hm
  refine ⟨⟨heads_empty hN.ids l, headsG_rng (fun i hi => (hO.rng i hi).2) l, headsG_len st.ids l⟩, (heads_any w hb k ic ia st.ids c2 hids hk a n c l hl hn hlr).mono ?_⟩
  rintro e w' ⟨ad, cp, rfl, hrow, hB⟩
  obtain ⟨_, _, ee, hnc, hnn⟩ := row_shapeN hrow
  cases ee
  obtain ⟨_, _, ee, hI⟩ := own_ids hrow
  cases ee
  exact ⟨_, _, rfl, hI, hnc, hnn, hB⟩
end Go.Proofs.YtojpbemfbjkjjaaGreat

/- The walk of Roots. -/
namespace Go.Proofs.YtojpbemfbjkjjaaGreat
open Go.RowKit Go.Maps

attribute [local go_sem] Oper.semAt_some

/-- those without parents -/
def rootsP : List (Int × List Int) → List Int
  | [] => []
  | m :: r => if m.2 = [] then m.1 :: rootsP r else rootsP r
theorem rootsP_append : ∀ (l k : List (Int × List Int)), rootsP (l ++ k) = rootsP l ++ rootsP k
  | [], k => rfl
  | m :: r, k => by
    simp only [List.cons_append, rootsP, rootsP_append r k]
    split <;> rfl
theorem rootsP_take (l : List (Int × List Int)) (k : Nat) (m : Int × List Int) (h : l[k]? = some m) : rootsP (l.take (k + 1)) = if m.2 = [] then rootsP (l.take k) ++ [m.1] else rootsP (l.take k) := by
  have hk := (List.getElem?_eq_some_iff.1 h).1
  have hx : l[k] = m := (List.getElem?_eq_some_iff.1 h).2
  rw [List.take_succ_eq_append_getElem hk, hx, rootsP_append]
  simp only [rootsP]
  split
  · rfl
  · rw [List.append_nil]
theorem rootsP_len : ∀ l : List (Int × List Int), (rootsP l).length ≤ l.length
  | [] => Nat.le_refl _
  | m :: r => by
    have := rootsP_len r
    simp only [rootsP]
    split <;> simp <;> omega
def rootsG (os : List Ob) (l : List Int) : List Int := rootsP (pairsO os l)
/-- a list of ids made out of an order, or the error -/
def RtOut (w : World) (R : GR) (f : List Int → List Int) (e : Ending) (w' : World) : Prop := match R with
  | .bad er => e = .returned (.tuple #[.slice none 0 0, .int .i64 er]) ∧ er ≠ 0
  | .ok gs => ∃ ad cp, e = .returned (.tuple #[.slice ad (f gs.ord).length cp, .int .i64 0]) ∧ w'.ownsRow w.heap.size 31 1 (.slice ad (f gs.ord).length cp) (f gs.ord).length ((f gs.ord).map (Value.int .u64))
set_option maxRecDepth 100000 in
set_option maxHeartbeats 8000000 in
theorem roots_any (w : World) (s d : Nat) (os : List Ob) (sz : Nat) (cut : Bool) (F : Nat → Prop) (hS : IsSt w s d os sz cut F) (hos : os.length ≤ 65536) (a : Option Addr) (n c : Nat) (l : List Int) (hl : Ids w a n l) (hr : ∀ x ∈ l, 0 ≤ x ∧ x ≤ 18446744073709551615) (hnc : n ≤ c) (hn : n ≤ 1000000000) :
    Calls Tryz.prog 18 #[.pointer (some ⟨s, 0, none⟩), .slice a n c] w fun e w' => Below w.heap.size w w' ∧ RtOut w (ordG os l GS.none) (rootsG os) e w' := by
  have hrd := gread_any w s d os sz cut F hS hos a n c l hl hr hnc hn
  generalize ordG os l GS.none = R at *
  have hC : n + 1 + os.length * 10 ≤ 1000000000000 := by omega
  generalize n + 1 + os.length * 10 = C at *
  have HC : Hid (C ≤ 1000000000000) := hC
  clear hS hos hl hr hnc hn hC
  cases R with
  | bad er =>
    go_enter Tryz.func18, Tryz.ntmps18
    go_wp2_with (go_at_call 30; refine hrd.mono ?_; clear hrd; rintro e w1 ⟨hB1, he, hne⟩; subst he; have hne2 : (er == 0) = false := beq_eq_false_iff_ne.2 hne)
    go_ret2
    exact ⟨hB1, rfl, hne⟩
  | ok gs =>
    obtain ⟨i0, hi, hz0, hz1, hz2⟩ := info_parts infoIdG
    go_enter Tryz.func18, Tryz.ntmps18
    go_wp2_with (go_at_call 30
                 refine hrd.mono ?_
                 clear hrd
                 rintro e w1 ⟨hB1, h, mb, ov, ms, K, cc, he, hN⟩
                 subst he
                 have c2 := hN.H.c2
                 obtain ⟨oa, oc, hov, _⟩ := row_shapeN hN.H.row
                 subst hov
                 have HB1 : Hid (Below w.heap.size w w1) := hB1
                 have HM : Hid (Mems w1 oa ms.length ms ∧ (∀ m ∈ ms, m.ps.length = m.pn)) := ⟨row_mems hN.H.row rfl, fun m hm => (hN.H.mem m hm).par.get.1⟩
                 have HP : Hid (ms.map Mb.pair = pairsO os gs.ord ∧ ms.length ≤ C) := ⟨hN.pairs, hN.mc⟩
                 clear hN hB1
                 generalize hML : ms.length = ML at *
                 have HML : Hid (ms.length = ML) := hML
                 clear hML)
    have HML2 : Hid (ML ≤ 1000000000000) := by have h1 := HP.out.2; have h2 := HC.out; show _ ≤ _; omega
    obtain ⟨L, hL⟩ : ∃ L, L = rootsG os gs.ord := ⟨_, rfl⟩
    have HL : Hid (L = rootsP (ms.map Mb.pair)) := by rw [HP.out.1]; exact hL
    have HLG : Hid (rootsG os gs.ord = L) := hL.symm
    clear c2 hL
    go_loopg [8, 25] ML (fun g v i wr => ∃ (k m : Nat) (ad : Option Addr) (cp : Nat), k + g = ML ∧ k ≤ ML ∧ m ≤ k ∧ i = .int .i64 (k : Int) ∧ v = .slice ad m cp ∧ Hid (m = (rootsP ((ms.map Mb.pair).take k)).length ∧ wr.ownsRow w1.heap.size 31 1 (.slice ad m cp) m ((rootsP ((ms.map Mb.pair).take k)).map (Value.int .u64)) ∧ Below w1.heap.size w1 wr))
    case atStart => exact ⟨0, 0, none, 0, by omega, Nat.zero_le _, Nat.zero_le _, rfl, rfl, rfl, World.ownsRow_nil _ _ _ _, Below.refl _ _⟩
    case round =>
      obtain ⟨k, m, ad, cp, hkg, hk, hmk, rfl, rfl, H⟩ := hrel
      cases gk with
      | zero =>
        obtain rfl : k = ML := by omega
        have i2 : ¬ (k : Int) < (k : Int) := by omega
        have HF : Hid (Below w.heap.size w wr ∧ RtOut w (.ok gs) (rootsG os) (.returned (.tuple #[.slice ad m cp, .int .i64 0])) wr) := by
          obtain ⟨h1, h2, h3⟩ := H.out
          rw [List.take_of_length_le (by rw [List.length_map, HML.out]; exact Nat.le_refl _), ← HL.out, ← HLG.out] at h1 h2
          refine ⟨HB1.out.trans (h3.mono HB1.out.size), ad, cp, ?_, ?_⟩
          · rw [← h1]
          · rw [← h1]; exact row_low h2 HB1.out.size
        clear H
        go_wp2
        go_ret2
        exact HF.out
      | succ gk =>
        have hlt : k < ML := by omega
        obtain ⟨mm, hx⟩ : ∃ mm, ms[k]? = some mm := ⟨_, List.getElem?_eq_getElem (by rw [HML.out]; exact hlt)⟩
        obtain ⟨hm1, hrow, hB⟩ := H.out
        obtain ⟨b1, o1, hoa, hc1⟩ := HM.out.1.2 (by omega)
        subst hoa
        obtain ⟨t0, t1, t2, t3, t4, t5⟩ := hc1 k mm hx
        have hbb := hB.block b1 (World.block_lt_of_cell? w1 _ t0)
        have q0 : wr.cell? ⟨b1, o1 + k * 6, none⟩ = _ := (World.cell?_of_block (by exact hbb)).trans t0
        have q1 : wr.cell? ⟨b1, o1 + k * 6 + 1, none⟩ = _ := (World.cell?_of_block (by exact hbb)).trans t1
        have q2 : wr.cell? ⟨b1, o1 + k * 6 + 2, none⟩ = _ := (World.cell?_of_block (by exact hbb)).trans t2
        have q3 : wr.cell? ⟨b1, o1 + k * 6 + 3, none⟩ = _ := (World.cell?_of_block (by exact hbb)).trans t3
        have q4 : wr.cell? ⟨b1, o1 + k * 6 + 4, none⟩ = _ := (World.cell?_of_block (by exact hbb)).trans t4
        have q5 : wr.cell? ⟨b1, o1 + k * 6 + 5, none⟩ = _ := (World.cell?_of_block (by exact hbb)).trans t5
        have hpl := HM.out.2 mm (List.mem_of_getElem? hx)
        have hst := rootsP_take (ms.map Mb.pair) k (mm.id, mm.ps) (by rw [List.getElem?_map, hx]; rfl)
        have i2 : (k : Int) < (ML : Int) := by omega
        have i3 : ¬ ML ≤ k := by omega
        have i9 : (ML : Int) ≤ 9223372036854775807 := by have := HML2.out; omega
        obtain ⟨mid, mt, mpa, mpn, mpc, mau, md, mtx, mps⟩ := mm
        simp only at q0 q1 q2 q3 q4 q5 hst hpl
        have HJ : Hid (k + 1 + gk = ML ∧ k + 1 ≤ ML) := ⟨by omega, by omega⟩
        by_cases hz : mpn = 0
        · subst hz
          have hps : mps = [] := List.eq_nil_of_length_eq_zero hpl
          rw [if_pos hps] at hst
          have hs1 : w1.heap.size ≤ wr.heap.size := hB.size
          have hr1 := (hrow.alloc (.cells #[.int .u64 mid, .int .u64 mt, .slice mpa 0 mpc, .string mau, .int .i64 md, .string mtx] 86)).alloc (.cells #[.int .u64 mid] 31)
          have HB2 : Hid (Below w1.heap.size w1 ((wr.alloc (.cells #[.int .u64 mid, .int .u64 mt, .slice mpa 0 mpc, .string mau, .int .i64 md, .string mtx] 86)).alloc (.cells #[.int .u64 mid] 31)) ∧ w1.heap.size ≤ ((wr.alloc (.cells #[.int .u64 mid, .int .u64 mt, .slice mpa 0 mpc, .string mau, .int .i64 md, .string mtx] 86)).alloc (.cells #[.int .u64 mid] 31)).heap.size) := ⟨(hB.alloc hB.size _).alloc (by have := hB.size; simp; omega) _, by simp; omega⟩
          have HCN : Hid (∀ j u, [Value.int .u64 mid][j]? = some u → ((wr.alloc (.cells #[.int .u64 mid, .int .u64 mt, .slice mpa 0 mpc, .string mau, .int .i64 md, .string mtx] 86)).alloc (.cells #[.int .u64 mid] 31)).cell? ((⟨wr.heap.size + 1, 0, none⟩ : Addr).add j) = some u) := by
            have := cell_one_new (wr.alloc (.cells #[.int .u64 mid, .int .u64 mt, .slice mpa 0 mpc, .string mau, .int .i64 md, .string mtx] 86)) (.int .u64 mid) 31
            rw [World.size_alloc] at this
            exact this
          have HST : Hid (rootsP ((ms.map Mb.pair).take (k + 1)) = rootsP ((ms.map Mb.pair).take k) ++ [mid] ∧ m = (rootsP ((ms.map Mb.pair).take k)).length) := ⟨hst, hm1⟩
          have hm2 : m ≤ 1000000000000 := by have := HML2.out; omega
          have HMK : Hid (m + 1 ≤ k + 1) := by show _ ≤ _; omega
          clear hc1 hx t0 t1 t2 t3 t4 t5 hbb H hB hrow hst hm1 hps hpl hs1
          go_wp2_with (at_builtin; (refine wpList_append_own_at _ rfl _ _ 27 rfl w1.heap.size 31 i0 _ 1 8 Tryz.underlying27 hi hz0 hz1 hz2 rfl (by decide) _ m _ rfl hr1 ⟨_, 0, none⟩ 1 1 [.int .u64 mid] rfl rfl HCN.out (by simp [Value.oneCell']) (by unfold maxLen; omega) (by omega) HB2.out.2 ?_; intro v' w5 hown5 hgr5 _ hat5; have H5 : Hid (w5.ownsRow w1.heap.size 31 1 v' (m + 1) ((rootsP ((ms.map Mb.pair).take k)).map (Value.int .u64) ++ [.int .u64 mid])) := hown5; obtain ⟨ad5, cp5, hv5, _⟩ := row_shapeN hown5; clear hown5; subst hv5; have HB5 : Hid (Below w1.heap.size w1 w5) := HB2.out.1.trans (below_gr1 hr1 HB2.out.2 hgr5); clear hgr5 hat5))
          go_roundg gk
          case measure => omega
          case rel => exact ⟨k + 1, m + 1, ad5, cp5, HJ.out.1, HJ.out.2, HMK.out, by simp, rfl, by rw [HST.out.1, List.length_append, ← HST.out.2]; rfl, by rw [HST.out.1, List.map_append]; exact H5.out, HB5.out⟩
        · have hps : mps ≠ [] := fun e => hz (by rw [← hpl, e]; rfl)
          rw [if_neg hps] at hst
          have HN : Hid (m = (rootsP ((ms.map Mb.pair).take (k + 1))).length ∧ (wr.alloc (.cells #[.int .u64 mid, .int .u64 mt, .slice mpa mpn mpc, .string mau, .int .i64 md, .string mtx] 86)).ownsRow w1.heap.size 31 1 (.slice ad m cp) m ((rootsP ((ms.map Mb.pair).take (k + 1))).map (Value.int .u64)) ∧ Below w1.heap.size w1 (wr.alloc (.cells #[.int .u64 mid, .int .u64 mt, .slice mpa mpn mpc, .string mau, .int .i64 md, .string mtx] 86))) := by
            rw [hst]
            exact ⟨hm1, hrow.alloc _, hB.alloc hB.size _⟩
          have z1 : ((mpn : Int) == 0) = false := by simp; omega
          have z2 : ¬ (mpn : Int) = 0 := by omega
          have HMK : Hid (m ≤ k + 1) := by show _ ≤ _; omega
          clear hc1 hx t0 t1 t2 t3 t4 t5 hbb H hB hrow hst hm1 hps hpl
          go_wp2
          go_roundg gk
          case measure => omega
          case rel => exact ⟨k + 1, m, ad, cp, HJ.out.1, HJ.out.2, HMK.out, by simp, rfl, HN.out⟩
end Go.Proofs.YtojpbemfbjkjjaaGreat

/- Plain facts for GraphParts: heads behind heads; commits of a history without parents. -/
namespace Go.Proofs.YtojpbemfbjkjjaaGreat
open Go.RowKit Go.Maps

def errR : GR → Int
  | .bad e => e
  | .ok _ => 0
def lstR : GR → List Int
  | .bad _ => []
  | .ok g => g.ord
theorem btw_calls {w0 w : World} {os : List Ob} {l l2 : List Int} {v1 v2 v3 : Value} {Er : Int} (hB : Below w0.heap.size w0 w) (hc : Calls Tryz.prog 17 #[v1, v2, v3] w fun e w' => Below w.heap.size w w' ∧ LOut w (btwG os l l2) e w') (he : errR (btwG os l l2) = Er) :
    Calls Tryz.prog 17 #[v1, v2, v3] w fun e w' => ∃ v, e = .returned v ∧ (∃ ga gn gc, v = .tuple #[.slice ga gn gc, .int .i64 Er] ∧ Ids w' ga gn (lstR (btwG os l l2))) ∧ Below w0.heap.size w0 w' := by
  refine hc.mono ?_
  rintro e w' ⟨hB2, hL⟩
  subst he
  cases hR : btwG os l l2 with
  | bad er => rw [hR] at hL; exact ⟨_, hL.1, ⟨_, _, _, rfl, ⟨rfl, fun h => by omega⟩⟩, hB.trans (hB2.mono hB.size)⟩
  | ok g =>
    rw [hR] at hL
    obtain ⟨ad, cp, he, hr⟩ := hL
    obtain ⟨_, _, ee, hI⟩ := own_ids hr
    cases ee
    exact ⟨_, he, ⟨_, _, _, rfl, hI⟩, hB.trans (hB2.mono hB.size)⟩
theorem goL_app (v : Int → GS → GR) : ∀ (l m : List Int) (s : GS), goL v (l ++ m) s = (goL v l s).then (goL v m)
  | [], m, s => rfl
  | x :: r, m, s => by
    simp only [List.cons_append, goL]
    cases v x s with
    | bad e => rfl
    | ok s1 => exact goL_app v r m s1
theorem ordG_app (os : List Ob) (l m : List Int) (s : GS) : ordG os (l ++ m) s = (ordG os l s).then (ordG os m) := goL_app _ l m s
theorem appG_bad {os : List Ob} {l m : List Int} {e : Int} (h : ordG os l GS.none = .bad e) : ordG os (l ++ m) GS.none = .bad e := by rw [ordG_app, h]; rfl
theorem appG_bad2 {os : List Ob} {l m : List Int} {gs : GS} {e : Int} (h : ordG os l GS.none = .ok gs) (h2 : ordG os m GS.none = .bad e) : ordG os (l ++ m) GS.none = .bad e := by
  obtain ⟨_, ha⟩ := btw_sim os l m gs h
  rw [h2] at ha
  rw [ordG_app, h]
  show ordG os m gs = _
  cases h3 : ordG os m gs with
  | bad f => rw [h3] at ha; have : e = f := ha; subst this; rfl
  | ok t => rw [h3] at ha; exact ha.elim
theorem appG_ok {os : List Ob} {l m : List Int} {gs g3 : GS} (h : ordG os l GS.none = .ok gs) (h2 : ordG os m GS.none = .ok g3) : ∃ g, ordG os (l ++ m) GS.none = .ok g := by
  obtain ⟨_, ha⟩ := btw_sim os l m gs h
  rw [h2] at ha
  rw [ordG_app, h]
  show ∃ g, ordG os m gs = _
  cases h3 : ordG os m gs with
  | bad f => rw [h3] at ha; exact ha.elim
  | ok t => exact ⟨t, rfl⟩
theorem parts_err (os : List Ob) (l m : List Int) : errR (btwG os l m) = errR (ordG os (l ++ m) GS.none) := by
  unfold btwG
  rw [ordG_app]
  cases ordG os l GS.none with
  | bad e => rfl
  | ok gs =>
    simp only [GR.ok_then]
    cases ordG os m gs <;> rfl
/-- an order's commits, as the document's nodes tell them -/
theorem node_par {st : BS} (h : NI st) (ns : List Nd) (hn : ns.map Nd.told = st.nodes) {l : List Int} {gs : GS} (ho : ordG st.os l GS.none = .ok gs) : ∀ i ∈ gs.ord, ∃ ps, parsN ns i = some ps ∧ parsO st.os i = some ps := by
  intro i hi
  obtain ⟨hI, _⟩ := btw_sim st.os l [] gs ho
  obtain ⟨j, hj⟩ := List.getElem?_of_mem hi
  obtain ⟨ps, hp, _⟩ := hI.topo j i hj
  refine ⟨ps, ?_, hp⟩
  have hne : i ≠ emptyI := by
    intro e
    subst e
    unfold parsO at hp
    rw [h.has] at hp
    cases hp
  rw [parsN_look, hn, h.look i hne]
  unfold parsO at hp
  cases hf : findO st.os i with
  | none => rw [hf] at hp; cases hp
  | some o => rw [hf] at hp; exact hp
def rootN (ns : List Nd) (l : List Int) : List Int := l.filter fun i => decide ((parsN ns i).getD [] = [])
theorem roots_first {os : List Ob} {ns : List Nd} : ∀ (l : List Int), (∀ i ∈ l, ∃ ps, parsN ns i = some ps ∧ parsO os i = some ps) → rootsG os l = rootN ns l
  | [], _ => rfl
  | i :: r, h => by
    obtain ⟨ps, h1, h2⟩ := h i (by simp)
    have ih := roots_first r (fun j hj => h j (by simp [hj]))
    unfold rootsG pairsO at ih ⊢
    unfold rootN at ih ⊢
    simp only [List.map_cons, rootsP, h2, Option.getD_some, List.filter_cons, h1]
    by_cases e : ps = []
    · simp [e, ih]
    · simp [e, ih]
theorem filter_take (p : Int → Bool) (l : List Int) (k : Nat) (x : Int) (h : l[k]? = some x) : (l.take (k + 1)).filter p = if p x then (l.take k).filter p ++ [x] else (l.take k).filter p := by
  have hk := (List.getElem?_eq_some_iff.1 h).1
  rw [List.take_succ_eq_append_getElem hk, List.filter_append]
  have : l[k] = x := (List.getElem?_eq_some_iff.1 h).2
  rw [this]
  cases hp : p x <;> simp [List.filter, hp]
end Go.Proofs.YtojpbemfbjkjjaaGreat
