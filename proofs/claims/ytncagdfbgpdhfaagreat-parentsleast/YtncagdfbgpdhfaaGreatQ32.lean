import Derived.Test.YtncagdfbgpdhfaaGreatQ31
import Derived.Laws.MakeOwn
import Derived.Deep.LoopGhost
import Derived.Deep.Cut
import Derived.Laws.AppendOwnNone
import Derived.Test.YtncagdfbgpdhfaaGreatQ29
/- The walk of the document's From. -/
namespace Go.Proofs.YtncagdfbgpdhfaaGreat
open Go.RowKit Go.Maps

attribute [local go_sem] Oper.semAt_some

/-- nodes that lie ahead of all that a call makes -/
structure NEnv (w0 : World) (na : Option Addr) (N : Nat) (ns : List Nd) : Prop where
  at_ : ∀ W, Below w0.heap.size w0 W → Nds W na N ns ∧ ∀ x ∈ ns, Ids W x.pa x.pn x.ps
  len : N ≤ 1000
  par : ∀ x ∈ ns, x.pn ≤ 8
structure OrdOk (ns : List Nd) (ord on : List Int) : Prop where
  n1 : ord.Nodup
  s1 : ∀ x ∈ ord, (parsN ns x).isSome = true
  n2 : on.Nodup
  s2 : ∀ x ∈ on, (parsN ns x).isSome = true
  dis : ∀ x ∈ on, x ∉ ord
theorem OrdOk.len {ns : List Nd} {ord on : List Int} (h : OrdOk ns ord on) : ord.length ≤ ns.length ∧ on.length ≤ ns.length := by
  have h1 := nodup_le ord (ns.map Nd.id) h.n1 (fun x hx => parsN_mem ns x (h.s1 x hx))
  have h2 := nodup_le on (ns.map Nd.id) h.n2 (fun x hx => parsN_mem ns x (h.s2 x hx))
  rw [List.length_map] at h1 h2
  exact ⟨h1, h2⟩
theorem OrdOk.push {ns : List Nd} {ord on : List Int} (h : OrdOk ns ord on) (x : Int) (h1 : x ∉ on) (h2 : x ∉ ord) (h3 : (parsN ns x).isSome = true) : OrdOk ns ord (on ++ [x]) :=
  ⟨h.n1, h.s1, by
    rw [List.nodup_append]
    exact ⟨h.n2, by simp, fun a ha b hb => by simp at hb; subst hb; intro e; subst e; exact h1 ha⟩, fun y hy => by
    rcases List.mem_append.1 hy with hy | hy
    · exact h.s2 y hy
    · simp at hy; subst hy; exact h3, fun y hy => by
    rcases List.mem_append.1 hy with hy | hy
    · exact h.dis y hy
    · simp at hy; subst hy; exact h2⟩
theorem OrdOk.place {ns : List Nd} {ord on : List Int} {x : Int} (h : OrdOk ns ord (on ++ [x])) (h1 : x ∉ on) : OrdOk ns (ord ++ [x]) on :=
  ⟨by
    rw [List.nodup_append]
    exact ⟨h.n1, by simp, fun a ha b hb => by simp at hb; subst hb; intro e; subst e; exact h.dis a (by simp) ha⟩, fun y hy => by
    rcases List.mem_append.1 hy with hy | hy
    · exact h.s1 y hy
    · simp at hy; subst hy; exact h.s2 y (by simp), by
    have := h.n2
    rw [List.nodup_append] at this
    exact this.1, fun y hy => h.s2 y (by simp [hy]), fun y hy hm => by
    rcases List.mem_append.1 hm with hm | hm
    · exact h.dis y (by simp [hy]) hm
    · simp at hm; subst hm; exact h1 hy⟩
/-- how From ends -/
def FrOut (w0 W : World) (ns : List Nd) (ov : Value) (on : List Int) (R : GR) (e : Ending) (W' : World) : Prop := match R with
  | .bad er => e = .returned (.tuple #[.slice none 0 0, .int .i64 er]) ∧ er ≠ 0
  | .ok s' => ∃ (ord' : List Int) (ad : Option Addr) (cp : Nat), s' = stN ord' on ∧ OrdOk ns ord' on ∧ e = .returned (.tuple #[.slice ad ord'.length cp, .int .i64 0]) ∧ W'.ownsRow w0.heap.size 31 1 (.slice ad ord'.length cp) ord'.length (ord'.map (Value.int .u64)) ∧ ∀ g, (Value.slice ad ord'.length cp).ownBlock = some g → ov.ownBlock = some g ∨ W.heap.size ≤ g
theorem errN_ne : ∀ (l : List Nd) (i : Int), errN l i ≠ 0
  | [], i => by simp [errN]
  | x :: r, i => by
    simp only [errN]
    split
    · omega
    · exact errN_ne r i
/-- the path copied so far -/
structure CpB (W wr : World) (on : List Int) (k : Nat) (v : Value) : Prop where
  bel : Below W.heap.size W wr
  row : wr.ownsRow W.heap.size 31 1 v k ((on.take k).map (Value.int .u64))
/-- what stands while the parents are gone through -/
structure LI (w0 W wr : World) (ns : List Nd) (ov : Value) (ord on : List Int) (oa : Option Addr) (oc : Nat) (ba : Option Addr) (bc : Nat) : Prop where
  turn : Turn (fun z => ov.ownBlock = some z) W wr
  below : Below w0.heap.size w0 wr
  row : wr.ownsRow w0.heap.size 31 1 (.slice oa ord.length oc) ord.length (ord.map (Value.int .u64))
  path : wr.ownsRow W.heap.size 31 1 (.slice ba on.length bc) on.length (on.map (Value.int .u64))
  ok : OrdOk ns ord on
  blk : ∀ g, (Value.slice oa ord.length oc).ownBlock = some g → ov.ownBlock = some g ∨ W.heap.size ≤ g
  apart : ∀ g, (Value.slice oa ord.length oc).ownBlock = some g → (Value.slice ba on.length bc).ownBlock ≠ some g
theorem LI.step {w0 W wr w3 : World} {ns : List Nd} {ov : Value} {ord on ord' : List Int} {oa ba ad : Option Addr} {oc bc cp : Nat} (h : LI w0 W wr ns ov ord on oa oc ba bc) (ht : Turn (fun z => (Value.slice oa ord.length oc).ownBlock = some z) wr w3) (hok : OrdOk ns ord' on) (hrow : w3.ownsRow w0.heap.size 31 1 (.slice ad ord'.length cp) ord'.length (ord'.map (Value.int .u64))) (hb : ∀ g, (Value.slice ad ord'.length cp).ownBlock = some g → (Value.slice oa ord.length oc).ownBlock = some g ∨ wr.heap.size ≤ g) : LI w0 W w3 ns ov ord' on ad cp ba bc := by
  refine ⟨h.turn.trans ht fun i hi hg => ?_, h.below.trans (ht.below h.below.size fun z hz => (h.row.lt z hz).1), hrow, ?_, hok, fun g hg => ?_, fun g hg hp => ?_⟩
  · rcases h.blk i hg with h1 | h1
    · exact h1
    · omega
  · refine h.path.kept (row := (Value.slice oa ord.length oc).ownBlock) ⟨ht.os, ht.tape, ht.output, ht.size, fun k hk hn => ht.block k hk (fun e => hn e.symm)⟩ ?_
    cases hq : (Value.slice oa ord.length oc).ownBlock with
    | none =>
      cases hq2 : (Value.slice ba on.length bc).ownBlock with
      | none => exact .inl rfl
      | some y => exact .inr (by simp)
    | some y => exact .inr (h.apart y hq)
  · rcases hb g hg with h1 | h1
    · exact h.blk g h1
    · exact .inr (Nat.le_trans h.turn.size h1)
  · rcases hb g hg with h1 | h1
    · exact h.apart g h1 hp
    · have := (h.path.lt g hp).2; omega
theorem LI.start {w0 W w5 : World} {ns : List Nd} {ord on : List Int} {id : Int} {oa ba : Option Addr} {oc bc : Nat} (hB : Below w0.heap.size w0 W) (hrow : W.ownsRow w0.heap.size 31 1 (.slice oa ord.length oc) ord.length (ord.map (Value.int .u64))) (hok : OrdOk ns ord (on ++ [id])) (h5 : Below W.heap.size W w5) (hp : w5.ownsRow W.heap.size 31 1 (.slice ba (on ++ [id]).length bc) (on ++ [id]).length ((on ++ [id]).map (Value.int .u64))) : LI w0 W w5 ns (.slice oa ord.length oc) ord (on ++ [id]) oa oc ba bc :=
  ⟨Turn.of_below _ h5, hB.trans (h5.mono hB.size), hrow.kept (row := none) ⟨h5.os, h5.tape, h5.output, h5.size, fun k hk _ => h5.block k hk⟩ (by cases (Value.slice oa ord.length oc).ownBlock <;> simp), hp, hok, fun g hg => .inl hg, fun g hg hq => by have h1 := (hrow.lt g hg).2; have h2 := (hp.lt g hq).1; omega⟩
theorem CpB.one {W wr w7 : World} {on : List Int} {k : Nat} {x : Int} {v v' : Value} {o : Obj} (h : CpB W wr on k v) (hx : on[k]? = some x) (ho : w7.ownsRow W.heap.size 31 1 v' (k + 1) ((on.take k).map (Value.int .u64) ++ [.int .u64 x])) (hg : (wr.alloc o).grownBy w7 v.ownBlock) : CpB W w7 on (k + 1) v' := by
  have hs : W.heap.size ≤ (wr.alloc o).heap.size := by have := h.bel.size; rw [World.size_alloc]; omega
  refine ⟨(h.bel.alloc h.bel.size o).trans (below_gr1 (h.row.alloc o) hs hg), ?_⟩
  have hk := (List.getElem?_eq_some_iff.1 hx).1
  have hx' : on[k] = x := (List.getElem?_eq_some_iff.1 hx).2
  rw [List.take_succ_eq_append_getElem hk, hx', List.map_append]
  exact ho
theorem visit_ring {P : Int → Option (List Int)} {ge : Int → Int} {f : Nat} {p : Int} {s : GS} (hf : 0 < f) (h : s.been p = 1) : visit P ge f p s = .bad 210 := by
  cases f with
  | zero => omega
  | succ f => simp [visit, h]
theorem from_fin {w0 W wr w6 : World} {ns : List Nd} {ord2 on xps : List Int} {id : Int} {f q OL2 : Nat} {oa2 ba5 a6 : Option Addr} {oc2 bc5 c6 : Nat} {ov : Value} {E : GR} {o : Obj} (hid : id ∉ on) (hpl : xps.length = q) (hl2 : ord2.length = OL2) (hL : LI w0 W wr ns ov ord2 (on ++ [id]) oa2 oc2 ba5 bc5) (hE : E = (goL (visit (parsN ns) (errN ns) f) (xps.drop q) (stN ord2 (on ++ [id]))).then fun s' => .ok (s'.plc id)) (h1 : w6.ownsRow w0.heap.size 31 1 (.slice a6 (OL2 + 1) c6) (OL2 + 1) (ord2.map (Value.int .u64) ++ [.int .u64 id])) (h2 : (wr.alloc o).grownBy w6 (Value.slice oa2 OL2 oc2).ownBlock) (h3 : (Value.slice a6 (OL2 + 1) c6).ownBlock = (Value.slice oa2 OL2 oc2).ownBlock ∨ (Value.slice a6 (OL2 + 1) c6).ownBlock = some (wr.alloc o).heap.size) : Turn (fun z => ov.ownBlock = some z) W w6 ∧ FrOut w0 W ns ov on E (.returned (.tuple #[.slice a6 (OL2 + 1) c6, .int .i64 0])) w6 := by
  subst hl2
  rw [List.drop_of_length_le (by omega)] at hE
  have hE2 : E = .ok (stN (ord2 ++ [id]) on) := by rw [hE, ← stN_plc ord2 on id hid]; rfl
  have hT : Turn (fun z => (Value.slice oa2 ord2.length oc2).ownBlock = some z) wr w6 :=
    (Turn.of_below (fun z => (Value.slice oa2 ord2.length oc2).ownBlock = some z) ((Below.refl _ wr).alloc (Nat.le_refl _) o)).trans (Turn.of_grownBy (Fp := fun z => (Value.slice oa2 ord2.length oc2).ownBlock = some z) h2 (fun k hk => .inl hk)) (fun _ _ h => h)
  refine ⟨hL.turn.trans hT fun i hi h => ?_, ?_⟩
  · rcases hL.blk i h with h5 | h5
    · exact h5
    · omega
  rw [hE2]
  refine ⟨ord2 ++ [id], a6, c6, rfl, hL.ok.place hid, by rw [List.length_append]; rfl, by rw [List.length_append, List.map_append]; exact h1, fun g hg => ?_⟩
  rw [List.length_append] at hg
  rcases h3 with h | h
  · exact hL.blk g (by rw [← h]; exact hg)
  · refine .inr (Nat.le_trans hL.turn.size ?_)
    have e : (Value.slice a6 (ord2.length + 1) c6).ownBlock = some g := hg
    rw [h, World.size_alloc] at e
    cases e
    exact Nat.le_succ _
set_option maxRecDepth 100000 in
set_option maxHeartbeats 8000000 in
theorem from_any (w0 : World) (na : Option Addr) (N nc : Nat) (ns : List Nd) (hE : NEnv w0 na N ns) (hN : ns.length = N) (F0 : Nat) (hF : N < F0) :
    ∀ (f : Nat) (W : World) (_ : Below w0.heap.size w0 W) (id : Int) (ord on : List Int) (_ : id ∉ on) (oa ba : Option Addr) (oc bc : Nat) (_ : W.ownsRow w0.heap.size 31 1 (.slice oa ord.length oc) ord.length (ord.map (Value.int .u64))) (_ : Ids W ba on.length on) (_ : OrdOk ns ord on) (_ : f + on.length = F0),
    Calls Tryz.prog 38 #[.slice na N nc, .int .u64 id, .slice oa ord.length oc, .slice ba on.length bc] W fun e W' => Turn (fun z => (Value.slice oa ord.length oc).ownBlock = some z) W W' ∧ FrOut w0 W ns (.slice oa ord.length oc) on (visit (parsN ns) (errN ns) f id (stN ord on)) e W' := by
  intro f
  induction f with
  | zero =>
    intro W hB id ord on hid oa ba oc bc hrow hon hok hf
    have := hok.len.2
    omega
  | succ f ih =>
    intro W hB id ord on hid oa ba oc bc hrow hon hok hf
    have hlen := hok.len
    have hN1 := hE.len
    obtain ⟨x1, x2, x3, hIo⟩ := own_ids hrow
    cases x3
    have hh1 := has11_any W oa ord.length oc ord hIo (by omega) id
    by_cases hio : id ∈ ord
    · have hc : ord.contains id = true := by simpa using hio
      have hv : visit (parsN ns) (errN ns) (f + 1) id (stN ord on) = .ok (stN ord on) := by simp [visit, stN, hid, hio]
      rw [hv]
      rw [hc] at hh1
      have HR : Hid (W.ownsRow w0.heap.size 31 1 (.slice oa ord.length oc) ord.length (ord.map (Value.int .u64)) ∧ OrdOk ns ord on) := ⟨hrow, hok⟩
      clear hrow hok hv hlen ih hIo hon
      generalize hOL : ord.length = OL at *
      have HOL : Hid (ord.length = OL) := hOL
      clear hOL
      go_enter Tryz.func38, Tryz.ntmps38
      go_wp2_with (go_at_call 32; refine hh1.mono ?_; clear hh1; rintro e W1 ⟨rfl, h1⟩; subst h1)
      go_ret2
      exact ⟨Turn.refl _ _, ord, oa, oc, rfl, HR.out.2, by rw [HOL.out]; rfl, by rw [HOL.out]; exact HR.out.1, fun g hg => .inl (by rw [HOL.out] at hg; exact hg)⟩
    · have hc : ord.contains id = false := by simpa using hio
      rw [hc] at hh1
      have hfd := find11_any W na N nc ns (hE.at_ W hB).1 (by omega) id
      by_cases hfi : fiN ns id 0 < 0
      · obtain ⟨hp, her⟩ := fiN_none ns id 0 hfi
        have hv : visit (parsN ns) (errN ns) (f + 1) id (stN ord on) = .bad 4 := by simp [visit, stN, hid, hio, hp, her]
        rw [hv]
        clear hv hp her hok hrow hlen ih hIo hon
        generalize fiN ns id 0 = fi at *
        generalize ord.length = OL at *
        generalize on.length = NL at *
        go_enter Tryz.func38, Tryz.ntmps38
        go_wp2_with first
          | (go_at_call 32; refine hh1.mono ?_; clear hh1; rintro e W1 ⟨rfl, h1⟩; subst h1)
          | (go_at_call 37; refine hfd.mono ?_; clear hfd; rintro e W2 ⟨rfl, h2⟩; subst h2)
        go_ret2
        exact ⟨Turn.refl _ _, rfl, by decide⟩
      · obtain ⟨j, x, hj, hx, hpx, herr⟩ := fiN_some ns id 0 hfi
        rw [Nat.zero_add] at hj
        have hjl := (List.getElem?_eq_some_iff.1 hx).1
        obtain ⟨b1, o1, hnae, hcn⟩ := (hE.at_ W hB).1.2 (by omega)
        have q0 := hcn j x hx
        have hfd' : Calls Tryz.prog 37 #[.slice na N nc, .int .u64 id] W fun e w' => e = .returned (.int .i64 (j : Int)) ∧ w' = W := by rw [← hj]; exact hfd
        clear hfd
        have hfd := hfd'
        clear hfd'
        have i1 : ¬ (j : Int) < 0 := by omega
        have i2 : (j : Int) < (N : Int) := by omega
        have i3 : (0 : Int) ≤ (j : Int) := by omega
        have i4 : ¬ N ≤ j := by omega
        cases hxo : x.other with
        | true =>
          have hp : parsN ns id = none := by rw [hpx, hxo]; rfl
          have hv : visit (parsN ns) (errN ns) (f + 1) id (stN ord on) = .bad 170 := by simp [visit, stN, hid, hio, hp, herr]
          rw [hv]
          subst hnae
          have q2 := q0.2.2
          rw [hxo] at q2
          clear hv hp hok hrow hlen ih hcn q0 hj hfi hpx herr hIo hon
          generalize ord.length = OL at *
          generalize on.length = NL at *
          go_enter Tryz.func38, Tryz.ntmps38
          go_wp2_with first
            | (go_at_call 32; refine hh1.mono ?_; clear hh1; rintro e W1 ⟨rfl, h1⟩; subst h1)
            | (go_at_call 37; refine hfd.mono ?_; clear hfd; rintro e W2 ⟨rfl, h2⟩; subst h2)
          go_ret2
          exact ⟨Turn.refl _ _, rfl, by decide⟩
        | false =>
          have hp : parsN ns id = some x.ps := by rw [hpx, hxo]; rfl
          obtain ⟨E, hEv⟩ : ∃ E, E = visit (parsN ns) (errN ns) (f + 1) id (stN ord on) := ⟨_, rfl⟩
          rw [← hEv]
          have hv : E = (goL (visit (parsN ns) (errN ns) f) x.ps (stN ord (on ++ [id]))).then fun s' => .ok (s'.plc id) := by
            rw [hEv, ← stN_opn]
            simp [visit, stN, hid, hio, hp]
          have HNd : Hid (∀ W', Below w0.heap.size w0 W' → (W'.cell? ⟨b1, o1 + j * 3 + 1, none⟩ = some (.slice x.pa x.pn x.pc) ∧ W'.cell? ⟨b1, o1 + j * 3 + 2, none⟩ = some (.bool false)) ∧ Ids W' x.pa x.pn x.ps) := fun W' hW' => by
            obtain ⟨h1, h2⟩ := hE.at_ W' hW'
            obtain ⟨b2, o2, e2, hc2⟩ := h1.2 (by omega)
            rw [hnae] at e2
            cases e2
            have h3 := hc2 j x hx
            rw [hxo] at h3
            exact ⟨h3.2, h2 x (List.mem_of_getElem? hx)⟩
          have hpn := hE.par x (List.mem_of_getElem? hx)
          have hPL : x.ps.length = x.pn := ((hE.at_ W hB).2 x (List.mem_of_getElem? hx)).1
          subst hnae
          obtain ⟨⟨q1, q2⟩, _⟩ := HNd.out W hB
          obtain ⟨i0, hi, hz0, hz1, hz2⟩ := info_parts infoIdG
          obtain ⟨w3, hm3, ho3, hg3⟩ := run_make_own (P := Tryz.prog) W W.heap.size 28 31 i0 (.int .u64 0) 1 Tryz.underlying28 hi hz0 hz1 .i64 .i64 (on.length + 1) (by rw [hz2]; omega) (by unfold maxLen; omega) (Nat.le_refl _)
          have HC3 : Hid (CpB W w3 on 0 (.slice (some ⟨W.heap.size, 0, none⟩) 0 (on.length + 1))) := ⟨⟨hg3.os, hg3.tape, hg3.output, hg3.size, fun k hk => hg3.block k hk (by simp)⟩, ho3⟩
          rw [show (((on.length + 1 : Nat)) : Int) = (on.length : Int) + 1 by omega] at hm3
          have hNL0 : (0 : Int) ≤ (on.length : Int) + 1 := by omega
          have hok1 : OrdOk ns ord (on ++ [id]) := hok.push id hid hio (by rw [hp]; rfl)
          have HS : Hid (∀ (w5 : World) (ba5 : Option Addr) (bc5 : Nat), Below W.heap.size W w5 → w5.ownsRow W.heap.size 31 1 (.slice ba5 (on ++ [id]).length bc5) (on ++ [id]).length ((on ++ [id]).map (Value.int .u64)) → LI w0 W w5 ns (.slice oa ord.length oc) ord (on ++ [id]) oa oc ba5 bc5) := fun w5 ba5 bc5 h5 hp5 => LI.start hB hrow hok1 h5 hp5
          have HOv : Hid (∀ g, (Value.slice oa ord.length oc).ownBlock = some g → w0.heap.size ≤ g) := fun g hg => (hrow.lt g hg).1
          have HW0 : Hid (w0.heap.size ≤ W.heap.size) := hB.size
          have HON : Hid (Ids W ba on.length on) := hon
          have HID : Hid (id ∉ on ∧ f + on.length + 1 = F0) := ⟨hid, by omega⟩
          have HIH : Hid _ := ih
          have HV : Hid (E = (goL (visit (parsN ns) (errN ns) f) x.ps (stN ord (on ++ [id]))).then fun s' => .ok (s'.plc id)) := hv
          have hNLb : on.length ≤ 1000 := by omega
          have hOLb : ord.length ≤ 1000 := by omega
          generalize hNL : on.length = NL at *
          generalize hOL : ord.length = OL at *
          have HNL : Hid (on.length = NL) := hNL
          have HOL : Hid (ord.length = OL) := hOL
          clear hok hrow hlen ih hcn q0 hj hfi hpx herr hIo hon hok1 hv hEv hNL hOL hid hf hg3 ho3 hx hp hxo
          generalize x.pa = xa at *
          generalize x.pn = xn at *
          generalize x.pc = xc at *
          generalize x.ps = xps at *
          go_enter Tryz.func38, Tryz.ntmps38
          go_wp2_with first
            | (go_at_call 32; refine hh1.mono ?_; clear hh1; rintro e W1 ⟨rfl, h1⟩; subst h1)
            | (go_at_call 37; refine hfd.mono ?_; clear hfd; rintro e W2 ⟨rfl, h2⟩; subst h2)
          clear hm3 q1 q2
          go_loopg [11, 12] NL (fun g v i wr => ∃ (k : Nat) (va : Option Addr) (vc : Nat), k + g = NL ∧ k ≤ NL ∧ v = .slice va k vc ∧ i = .int .i64 (k : Int) ∧ Hid (CpB W2 wr on k (.slice va k vc)))
          case atStart => exact ⟨0, _, _, by omega, Nat.zero_le _, rfl, rfl, HC3⟩
          case round =>
            clear HC3
            obtain ⟨k, va, vc, hkg, hk, rfl, rfl, H⟩ := hrel
            have hsz := H.out.bel.size
            cases gk with
            | zero =>
              obtain rfl : k = NL := by omega
              have j1 : ¬ (k : Int) < (k : Int) := by omega
              have hr1 := H.out.row.alloc (.cells #[.int .u64 id] 31)
              have HSZ : Hid (W2.heap.size ≤ (wr.alloc (.cells #[.int .u64 id] 31)).heap.size) := by show _ ≤ _; rw [World.size_alloc]; omega
              have HL0 : Hid (∀ (w5 : World) (ba5 : Option Addr) (bc5 : Nat), w5.ownsRow W2.heap.size 31 1 (.slice ba5 (k + 1) bc5) (k + 1) ((on.take k).map (Value.int .u64) ++ [.int .u64 id]) → (wr.alloc (.cells #[.int .u64 id] 31)).grownBy w5 (Value.slice va k vc).ownBlock → LI w0 W2 w5 ns (.slice oa OL oc) ord (on ++ [id]) oa oc ba5 bc5) := fun w5 ba5 bc5 h5 hg5 => by
                have e1 : on.take k = on := List.take_of_length_le (by rw [HNL.out]; exact Nat.le_refl _)
                have e2 : (on ++ [id]).length = k + 1 := by rw [List.length_append, HNL.out]; rfl
                rw [e1] at h5
                have h6 := HS.out w5 ba5 bc5 ((H.out.bel.alloc H.out.bel.size _).trans (below_gr1 hr1 HSZ.out hg5)) (by rw [e2, List.map_append]; exact h5)
                exact h6
              clear H HS
              go_wp2_with
                (at_builtin
                 refine wpList_append_own_at _ rfl _ _ 28 rfl W2.heap.size 31 i0 _ 1 8 Tryz.underlying28 hi hz0 hz1 hz2 rfl (by decide) _ k _ rfl hr1 ⟨_, 0, none⟩ 1 1 [.int .u64 id] rfl rfl (cell_one_new _ _ _) (by simp [Value.oneCell']) (by unfold maxLen; omega) (by omega) HSZ.out ?_
                 intro v5 w5 hown5 hgr5 _ _
                 obtain ⟨ba5, bc5, hv5, _⟩ := row_shapeN hown5
                 subst hv5
                 have HL5 : Hid (LI w0 W2 w5 ns (.slice oa OL oc) ord (on ++ [id]) oa oc ba5 bc5) := HL0.out w5 ba5 bc5 hown5 hgr5
                 clear hown5 hgr5 hr1 HL0)
              clear HSZ hi hz0 hz1 hz2
              go_loopg [2, 13] xn (fun g v i wr => ∃ (q : Nat) (ord2 : List Int) (OL2 : Nat) (oa2 : Option Addr) (oc2 : Nat), q + g = xn ∧ q ≤ xn ∧ OL2 ≤ 1000 ∧ v = .slice oa2 OL2 oc2 ∧ i = .int .i64 (q : Int) ∧ Hid (ord2.length = OL2 ∧ LI w0 W2 wr ns (.slice oa OL oc) ord2 (on ++ [id]) oa2 oc2 ba5 bc5 ∧ E = (goL (visit (parsN ns) (errN ns) f) (xps.drop q) (stN ord2 (on ++ [id]))).then fun s' => .ok (s'.plc id)))
              case atStart => exact ⟨0, ord, OL, oa, oc, by omega, Nat.zero_le _, hOLb, rfl, rfl, HOL.out, HL5.out, HV.out⟩
              case round =>
                clear HL5 HV
                obtain ⟨q, ord2, OL2, oa2, oc2, hqg, hq, hO2, rfl, rfl, H⟩ := hrel
                obtain ⟨⟨q1, _⟩, hip⟩ := HNd.out wr H.out.2.1.below
                cases gk with
                | zero =>
                  obtain rfl : q = xn := by omega
                  have j3 : ¬ (q : Int) < (q : Int) := by omega
                  obtain ⟨i0, hi, hz0, hz1, hz2⟩ := info_parts infoIdG
                  have hr1 : (wr.alloc (.cells #[.int .u64 id] 31)).ownsRow w0.heap.size 31 1 (.slice oa2 OL2 oc2) OL2 (ord2.map (Value.int .u64)) := by
                    have h1 := H.out.2.1.row.alloc (.cells #[.int .u64 id] 31)
                    rw [H.out.1] at h1
                    exact h1
                  have HSZ : Hid (w0.heap.size ≤ (wr.alloc (.cells #[.int .u64 id] 31)).heap.size) := by show _ ≤ _; rw [World.size_alloc]; have := H.out.2.1.below.size; omega
                  have HF : Hid (∀ (w6 : World) (a6 : Option Addr) (c6 : Nat), w6.ownsRow w0.heap.size 31 1 (.slice a6 (OL2 + 1) c6) (OL2 + 1) (ord2.map (Value.int .u64) ++ [.int .u64 id]) → (wr.alloc (.cells #[.int .u64 id] 31)).grownBy w6 (Value.slice oa2 OL2 oc2).ownBlock → ((Value.slice a6 (OL2 + 1) c6).ownBlock = (Value.slice oa2 OL2 oc2).ownBlock ∨ (Value.slice a6 (OL2 + 1) c6).ownBlock = some (wr.alloc (.cells #[.int .u64 id] 31)).heap.size) → Turn (fun z => (Value.slice oa OL oc).ownBlock = some z) W2 w6 ∧ FrOut w0 W2 ns (.slice oa OL oc) on E (.returned (.tuple #[.slice a6 (OL2 + 1) c6, .int .i64 0])) w6) := fun w6 a6 c6 h1 h2 h3 => by
                    obtain ⟨hl2, hLI, hEE⟩ := H.out
                    exact from_fin HID.out.1 hPL hl2 hLI hEE h1 h2 h3
                  clear H hip
                  go_wp2_with
                    (at_builtin
                     refine wpList_append_own_at _ rfl _ _ 28 rfl w0.heap.size 31 i0 _ 1 8 Tryz.underlying28 hi hz0 hz1 hz2 rfl (by decide) _ OL2 _ rfl hr1 ⟨_, 0, none⟩ 1 1 [.int .u64 id] rfl rfl (cell_one_new _ _ _) (by simp [Value.oneCell']) (by unfold maxLen; omega) (by omega) HSZ.out ?_
                     intro v6 w6 hown6 hgr6 _ hat6
                     obtain ⟨a6, c6, hv6, _⟩ := row_shapeN hown6
                     subst hv6
                     have H6 := HF.out w6 a6 c6 hown6 hgr6 hat6
                     have HH6 : Hid _ := H6
                     clear hown6 hgr6 hat6 hr1 HF H6)
                  go_ret2
                  exact HH6.out
                | succ gk =>
                  have hql : q < xn := by omega
                  obtain ⟨p, hp⟩ : ∃ p, xps[q]? = some p := ⟨_, List.getElem?_eq_getElem (by omega)⟩
                  obtain ⟨pb, po, hxa, hcp⟩ := hip.2 (by omega)
                  subst hxa
                  have q3 := hcp q p hp
                  have j3 : (q : Int) < (xn : Int) := by omega
                  have j4 : ¬ xn ≤ q := by omega
                  obtain ⟨hl2, hLI, hEE⟩ := H.out
                  have hle1 : (on ++ [id]).length = k + 1 := by rw [List.length_append, HNL.out]; rfl
                  obtain ⟨x1, x2, x3, hIb⟩ := own_ids hLI.path
                  cases x3
                  rw [hle1] at hIb
                  have hh2 := has11_any wr ba5 (k + 1) bc5 (on ++ [id]) hIb (by omega) p
                  have hkN : k + 1 ≤ N := by have := hLI.ok.len.2; rw [hle1] at this; omega
                  have hf0 : 0 < f := by have := HID.out.2; omega
                  have hdr : xps.drop q = p :: xps.drop (q + 1) := by
                    have hk1 := (List.getElem?_eq_some_iff.1 hp).1
                    rw [List.drop_eq_getElem_cons hk1, (List.getElem?_eq_some_iff.1 hp).2]
                  rw [hdr] at hEE
                  by_cases hin : p ∈ on ++ [id]
                  · have hc2 : (on ++ [id]).contains p = true := by simpa using hin
                    rw [hc2] at hh2
                    have hvr : visit (parsN ns) (errN ns) f p (stN ord2 (on ++ [id])) = .bad 210 := visit_ring hf0 (by simp only [stN, if_pos hin])
                    have hE2 : E = .bad 210 := by rw [hEE, goL, hvr]; rfl
                    have HT : Hid (Turn (fun z => (Value.slice oa OL oc).ownBlock = some z) W2 wr) := hLI.turn
                    clear H hip hcp hp hLI hEE hIb hvr hdr hin hc2 HIH
                    subst hE2
                    go_wp2_with (go_at_call 32; refine hh2.mono ?_; clear hh2; rintro e W3 ⟨rfl, h3⟩; subst h3)
                    go_ret2
                    exact ⟨HT.out, rfl, by decide⟩
                  · have hc2 : (on ++ [id]).contains p = false := by simpa using hin
                    rw [hc2] at hh2
                    have hcall := HIH.out wr hLI.below p ord2 (on ++ [id]) hin oa2 ba5 oc2 bc5 hLI.row (by rw [hle1]; exact hIb) hLI.ok (by rw [hle1]; have := HID.out.2; omega)
                    rw [hl2, hle1] at hcall
                    cases hR : visit (parsN ns) (errN ns) f p (stN ord2 (on ++ [id])) with
                    | bad er =>
                      have hE2 : E = .bad er := by rw [hEE, goL, hR]; rfl
                      rw [hR] at hcall
                      have HT : Hid (∀ w7, Turn (fun z => (Value.slice oa2 OL2 oc2).ownBlock = some z) wr w7 → Turn (fun z => (Value.slice oa OL oc).ownBlock = some z) W2 w7) := fun w7 h7 => hLI.turn.trans h7 fun i hi hg => by
                        rcases hLI.blk i (by rw [hl2]; exact hg) with h8 | h8
                        · exact h8
                        · omega
                      clear H hip hcp hp hLI hEE hIb hdr hin hc2 HIH hR
                      subst hE2
                      go_wp2_with first
                        | (go_at_call 32; refine hh2.mono ?_; clear hh2; rintro e W3 ⟨rfl, h3⟩; subst h3)
                        | (go_at_call 38; refine hcall.mono ?_; clear hcall; rintro e W4 ⟨ht4, he4, hne4⟩; subst he4; have HT4 : Hid _ := HT.out W4 ht4; have hb4 : (er == 0) = false := beq_eq_false_iff_ne.2 hne4; have HNE : Hid (er ≠ 0) := hne4; clear ht4)
                      go_ret2
                      exact ⟨HT4.out, rfl, HNE.out⟩
                    | ok s4 =>
                      rw [hR] at hcall
                      have HT : Hid (∀ w7 ord7 a7 c7, Turn (fun z => (Value.slice oa2 OL2 oc2).ownBlock = some z) wr w7 → s4 = stN ord7 (on ++ [id]) → OrdOk ns ord7 (on ++ [id]) → w7.ownsRow w0.heap.size 31 1 (.slice a7 ord7.length c7) ord7.length (ord7.map (Value.int .u64)) → (∀ g, (Value.slice a7 ord7.length c7).ownBlock = some g → (Value.slice oa2 OL2 oc2).ownBlock = some g ∨ wr.heap.size ≤ g) → ord7.length ≤ 1000 ∧ LI w0 W2 w7 ns (.slice oa OL oc) ord7 (on ++ [id]) a7 c7 ba5 bc5 ∧ E = (goL (visit (parsN ns) (errN ns) f) (xps.drop (q + 1)) (stN ord7 (on ++ [id]))).then fun s' => .ok (s'.plc id)) := fun w7 ord7 a7 c7 h1 h2 h3 h4 h5 => by
                        refine ⟨?_, hLI.step (by rw [hl2]; exact h1) h3 h4 (by rw [hl2]; exact h5), ?_⟩
                        · have := h3.len.1; omega
                        · rw [hEE, goL, hR, h2]; rfl
                      have HQ : Hid (q + 1 + gk = xn ∧ q + 1 ≤ xn) := ⟨by omega, by omega⟩
                      clear H hip hcp hp hLI hEE hIb hdr hin hc2 HIH hR
                      go_wp2_with first
                        | (go_at_call 32; refine hh2.mono ?_; clear hh2; rintro e W3 ⟨rfl, h3⟩; subst h3)
                        | (go_at_call 38; refine hcall.mono ?_; clear hcall; rintro e W4 ⟨ht4, ord7, a7, c7, hs7, hk7, he4, hr7, hg7⟩; subst he4; have HT4 := HT.out W4 ord7 a7 c7 ht4 hs7 hk7 hr7 hg7; have HH4 : Hid _ := HT4; generalize hO7 : ord7.length = OL7 at *; have HO7 : Hid (ord7.length = OL7) := hO7; clear ht4 hs7 hk7 hr7 hg7 HT HT4 hO7)
                      go_roundg gk
                      case measure => omega
                      case rel => exact ⟨q + 1, ord7, OL7, a7, c7, HQ.out.1, HQ.out.2, HH4.out.1, rfl, by simp, HO7.out, HH4.out.2.1, HH4.out.2.2⟩
            | succ gk =>
              have hlt : k < NL := by omega
              obtain ⟨y, hy⟩ : ∃ y, on[k]? = some y := ⟨_, List.getElem?_eq_getElem (by rw [HNL.out]; exact hlt)⟩
              obtain ⟨b2, o2, hba, hc2⟩ := HON.out.2 (by omega)
              subst hba
              have q3 := (H.out.bel.cell (p := ⟨b2, o2 + k, none⟩) (World.block_lt_of_cell? W2 _ (hc2 k y hy))).trans (hc2 k y hy)
              have j1 : (k : Int) < (NL : Int) := by omega
              have j2 : ¬ NL ≤ k := by omega
              have hr1 := H.out.row.alloc (.cells #[.int .u64 y] 31)
              have HSZ : Hid (W2.heap.size ≤ (wr.alloc (.cells #[.int .u64 y] 31)).heap.size) := by show _ ≤ _; rw [World.size_alloc]; omega
              have HY : Hid (on[k]? = some y ∧ k + 1 + gk = NL ∧ k + 1 ≤ NL) := ⟨hy, by omega, by omega⟩
              clear hc2 hy
              go_wp2_with
                (at_builtin
                 refine wpList_append_own_at _ rfl _ _ 28 rfl W2.heap.size 31 i0 _ 1 8 Tryz.underlying28 hi hz0 hz1 hz2 rfl (by decide) _ k _ rfl hr1 ⟨_, 0, none⟩ 1 1 [.int .u64 y] rfl rfl (cell_one_new _ _ _) (by simp [Value.oneCell']) (by unfold maxLen; omega) (by omega) HSZ.out ?_
                 intro v5 w5 hown5 hgr5 _ _
                 obtain ⟨va5, vc5, hv5, _⟩ := row_shapeN hown5
                 subst hv5
                 have H5 : Hid (CpB W2 w5 on (k + 1) (.slice va5 (k + 1) vc5)) := H.out.one HY.out.1 hown5 hgr5
                 clear hown5 hgr5 hr1)
              go_roundg gk
              case measure => omega
              case rel => exact ⟨k + 1, va5, vc5, HY.out.2.1, HY.out.2.2, rfl, by simp, H5⟩
end Go.Proofs.YtncagdfbgpdhfaaGreat

/- Ids appended to a row of one's own; the document's Parents. -/
namespace Go.Proofs.YtncagdfbgpdhfaaGreat
open Go.RowKit Go.Maps

attribute [local go_sem] Oper.semAt_some

theorem wpList_app_ids {wr : World} {ops : Array Oper} {rest : List Oper} {o : Oper} {a : Act} {Q : Exit → Act → World → Prop}
    (hgd : o.guard = none) (s x : Operand) (hop : o.op = Op.call { callee := Callee.builtin Builtin.append, args := #[s, x], argTypes := #[28, 28] })
    (base n m c : Nat) (v : Value) (k l : List Int) (ad : Option Addr) (hs : a.eval s = v) (hx : a.eval x = .slice ad m c)
    (hown : wr.ownsRow base 31 1 v n (k.map (Value.int .u64))) (hb : Ids wr ad m l) (hnil : ad = none → m = 0 ∧ c = 0) (hm : n + m ≤ 1000000) (hbase : base ≤ wr.heap.size)
    (hK : ∀ ad' c' w', n + m ≤ c' → w'.ownsRow base 31 1 (.slice ad' (n + m) c') (n + m) ((k ++ l).map (Value.int .u64)) → Below base wr w' → wpList Tryz.prog ops Q rest (a.put o.dst (.slice ad' (n + m) c')) w') :
    wpList Tryz.prog ops Q (o :: rest) a wr := by
  obtain ⟨i0, hi, hz0, hz1, hz2⟩ := info_parts infoIdG
  cases ad with
  | none =>
    obtain ⟨rfl, rfl⟩ := hnil rfl
    have hl : l = [] := List.eq_nil_of_length_eq_zero hb.1
    subst hl
    obtain ⟨ad', c', rfl, hc', _⟩ := row_shapeN hown
    refine wpList_append_own_none hgd s x 28 hop base 31 i0 1 Tryz.underlying28 hi _ n _ hs hown hx ?_
    have := hK ad' c' wr (by omega) (by simpa using hown) (Below.refl _ _)
    simpa using this
  | some ad =>
    refine wpList_append_own_at _ hgd s x 28 hop base 31 i0 _ 1 8 Tryz.underlying28 hi hz0 hz1 hz2 rfl (by omega) v n _ hs hown ad m c (l.map (Value.int .u64)) hx (by rw [List.length_map, hb.1]; omega) ?_ (fun u hu => by obtain ⟨y, _, rfl⟩ := List.mem_map.1 hu; rfl) (by unfold maxLen; omega) (by omega) hbase ?_
    · intro j u hj
      rw [List.getElem?_map] at hj
      cases hy : l[j]? with
      | none => rw [hy] at hj; cases hj
      | some y =>
        rw [hy] at hj
        cases hj
        have hjl : j < l.length := (List.getElem?_eq_some_iff.1 hy).1
        have hl := hb.1
        obtain ⟨b, off, hx', hc⟩ := hb.2 (by omega)
        obtain rfl := Option.some.inj hx'
        rw [Addr.add_lit]
        exact hc j y hy
    · intro v' w' h1 h2 _ _
      obtain ⟨ad', c', rfl, hc', _⟩ := row_shapeN h1
      exact hK ad' c' w' hc' (by rw [List.map_append]; exact h1) ((Below.refl base wr).grown h2 hbase (fun k hk => (hown.lt k hk).1))
/-- one id appended, out of a block that is new -/
theorem wpList_app_id {wr : World} {ops : Array Oper} {rest : List Oper} {o : Oper} {a : Act} {Q : Exit → Act → World → Prop} (z : Int) (fz : Nat × Nat)
    (hgd : o.guard = none) (s x : Operand) (hop : o.op = Op.call { callee := Callee.builtin Builtin.append, args := #[s, x], argTypes := #[28, 28] })
    (base n : Nat) (v : Value) (k : List Int) (hs : a.eval s = v) (hx : a.eval x = .slice (some ⟨wr.heap.size, 0, none⟩) 1 1)
    (hown : wr.ownsRow base 31 1 v n (k.map (Value.int .u64))) (hm : n + 1 ≤ 1000000) (hbase : base ≤ wr.heap.size)
    (hK : ∀ ad' c' w', n + 1 ≤ c' → w'.ownsRow base 31 1 (.slice ad' (n + 1) c') (n + 1) ((k ++ [z]).map (Value.int .u64)) → Below base wr w' → wpList Tryz.prog ops Q rest (a.put o.dst (.slice ad' (n + 1) c')) w') :
    wpList Tryz.prog ops Q (o :: rest) a (wr.alloc (.cells #[.int .u64 z] 31 fz)) := by
  refine wpList_app_ids hgd s x hop base n 1 1 v k [z] _ hs hx (hown.alloc _) ?_ (by intro h; cases h) hm (by simp; omega) ?_
  · have hb := World.alloc_heap_new wr (.cells #[.int .u64 z] 31 fz)
    generalize wr.alloc (.cells #[.int .u64 z] 31 fz) = W' at hb
    refine ⟨rfl, fun _ => ⟨_, _, rfl, fun j y hj => ?_⟩⟩
    match j, hj with
    | 0, hj => simp at hj; subst hj; simp [World.cell?, hb]
  · intro ad' c' w' h1 h2 h3
    exact hK ad' c' w' h1 h2 (((Below.refl base wr).alloc hbase _).trans h3)
/-- an empty list made in place owns nothing -/
theorem row_empty (w : World) (base : Nat) (hb : base ≤ w.heap.size) : (w.alloc (.cells #[] 31)).ownsRow base 31 1 (.slice (some ⟨w.heap.size, 0, none⟩) 0 0) 0 [] :=
  World.ownsRow_made w #[] 0 hb (by unfold maxLen; omega) rfl
end Go.Proofs.YtncagdfbgpdhfaaGreat

/- A row of ints of the call's own, read and set in place. -/
namespace Go.Proofs.YtncagdfbgpdhfaaGreat
open Go.RowKit Go.Maps

attribute [local go_sem] Oper.semAt_some

theorem infoIntG : (Tryz.prog.info? 3).map (fun i => (i.zero, i.size, i.bytes)) = some (some (.int .i64 0), 1, 8) := by kernel_rfl
theorem below_drewG {n0 : Nat} {w W : World} (h : Below n0 w W) : Below n0 w W.drew := ⟨h.os, h.tape, h.output, h.size, h.block⟩
/-- a row of ints in block g, new since w0 -/
structure IR (w0 w : World) (g : Nat) (ds : List Int) : Prop where
  bel : Below w0.heap.size w0 w
  new : w0.heap.size ≤ g
  row : w.heap[g]? = some (.cells (ds.map (Value.int .i64)).toArray 3 (0, 0))
theorem IR.cell {w0 w : World} {g : Nat} {ds : List Int} (h : IR w0 w g ds) {k : Nat} {v : Int} (hk : ds[k]? = some v) : w.cell? ⟨g, k, none⟩ = some (.int .i64 v) ∧ w.frozen? ⟨g, k, none⟩ = false := by
  refine ⟨?_, by simp [World.frozen?, h.row]⟩
  simp only [World.cell?, h.row]
  rw [← Array.getElem?_toList]
  simp [hk]
theorem IR.drew {w0 w : World} {g : Nat} {ds : List Int} (h : IR w0 w g ds) : IR w0 w.drew g ds := ⟨below_drewG h.bel, h.new, h.row⟩
theorem IR.drewN {w0 w : World} {g : Nat} {ds : List Int} (h : IR w0 w g ds) (n : Nat) : IR w0 (w.drewN n) g ds := ⟨below_drewN h.bel n, h.new, h.row⟩
theorem IR.set {w0 w : World} {g : Nat} {ds : List Int} (h : IR w0 w g ds) (k : Nat) (v : Int) : IR w0 (w.setCell ⟨g, k, none⟩ (.int .i64 v)) g (ds.set k v) := by
  refine ⟨h.bel.trans ((turn_setCell w g k (.int .i64 v)).below h.bel.size (fun z hz => by have := h.new; omega)), h.new, ?_⟩
  simp [World.setCell, Array.getElem?_modify, h.row, List.map_set]
theorem IR.ids {w0 w : World} {g : Nat} {ds : List Int} (h : IR w0 w g ds) {a : Option Addr} {n : Nat} {l : List Int} (hi : Ids w0 a n l) : Ids w a n l := hi.kept h.bel
theorem made_ints (n : Nat) : madeCells (Value.int .i64 0).cells n = ((List.replicate n (0 : Int)).map (Value.int .i64)).toArray := by
  apply Array.toList_inj.1
  simp [madeCells, Value.cells, Nat.mod_one, List.map_const']
/-- make of ints -/
theorem wpList_make_ints (w : World) {ops : Array Oper} {rest : List Oper} {o : Oper} {a : Act} {Q : Exit → Act → World → Prop}
    (hg : o.guard = none) (l c : Operand) (hop : o.op = Op.makeSlice 23 l c)
    (kl kc : IntKind) (n : Nat) (L C : Int) (hl : a.eval l = .int kl L) (hc : a.eval c = .int kc C) (hL : L = (n : Int)) (hC : C = (n : Int)) (b2 : n ≤ 1000000)
    (hK : ∀ w1, IR w w1 w.heap.size (List.replicate n 0) → wpList Tryz.prog ops Q rest (a.put o.dst (.slice (some ⟨w.heap.size, 0, none⟩) n n)) w1) :
    wpList Tryz.prog ops Q (o :: rest) a w := by
  obtain ⟨i0, hi, hz0, hz1, hz2⟩ := info_parts infoIntG
  refine wpList_plain hg fun K hK' => ?_
  have hrun := run_make (P := Tryz.prog) w 23 3 i0 (.int .i64 0) Tryz.underlying23 hi hz0 kl kc L C (by omega) (by omega) (by rw [hz2]; omega) (by omega)
  subst hL
  subst hC
  simp only [hz1, Nat.mul_one, Int.toNat_natCast] at hrun
  unfold Oper.wp
  simp [execOp, hop, hl, hc, hrun, Result.andThen]
  refine hK' _ _ (hK _ ⟨(Below.refl _ _).alloc (Nat.le_refl _) _, Nat.le_refl _, ?_⟩)
  rw [heap_alloc_new, made_ints]
end Go.Proofs.YtncagdfbgpdhfaaGreat
