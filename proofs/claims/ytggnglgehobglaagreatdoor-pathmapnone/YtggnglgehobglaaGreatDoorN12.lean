import Derived.Test.YtggnglgehobglaaGreatDoorN11
import Derived.Test.YtggnglgehobglaaGreatDoorN03
import Derived.Test.YtggnglgehobglaaGreatDoorN06
import Derived.Laws.StructEq
/- Rules, their lines and texts, over bytes. -/
namespace Go.Proofs.YtggnglgehobglaaGreatDoor

/-- a rule: its kind, From, To -/
abbrev Ru := Int × List UInt8 × List UInt8
def noR : Ru := (0, [], [])
def okR (r : Ru) : Bool := isP r.2.1 && isP r.2.2 && (decide (r.1 = 3) || ((decide (r.1 = 1) || decide (r.1 = 2)) && decide (r.2.2 = [])))
/-- the word of a path, not quoted yet -/
def wdP (p : List UInt8) : List UInt8 := if p = [] then [47] else p
def wsR (r : Ru) : List (List UInt8) := if r.1 = 1 then [[107, 101, 101, 112], wdP r.2.1] else if r.1 = 2 then [[100, 114, 111, 112], wdP r.2.1] else [[109, 111, 118, 101], wdP r.2.1, wdP r.2.2]
def lineR (r : Ru) : List UInt8 := lineL (wsR r)
/-- the kind of a first word, and how many words that asks -/
def kindW (s : List UInt8) : Int × Nat := if s = [107, 101, 101, 112] then (1, 2) else if s = [100, 114, 111, 112] then (2, 2) else if s = [109, 111, 118, 101] then (3, 3) else (0, 0)
def pathW (s : List UInt8) : Option (List UInt8) := if s = [47] then some [] else if s = [] ∨ isP s = false then none else some s
/-- the rule of words -/
def ruleW (ws : List (List UInt8)) : Option Ru :=
  if ws.length = (kindW (ws.getD 0 [])).2 then
    (pathW (ws.getD 1 [])).bind fun f => (pathW (ws.getD ((kindW (ws.getD 0 [])).2 - 1) [])).map fun t => ((kindW (ws.getD 0 [])).1, f, if (kindW (ws.getD 0 [])).1 = 3 then t else [])
  else none
/-- what a line says: what is wrong and where, nothing, or a rule -/
def lineG (l : List UInt8) : Except (Nat × Nat) (Option Ru) :=
  match wordsL l 0 with
  | .error p => .error (150, p)
  | .ok [] => .ok none
  | .ok (w :: r) => match ruleW (w :: r) with
    | none => .error (230, 0)
    | some x => .ok (some x)
/-- what is read of lines, behind some rules, from a place on -/
def readG : List (List UInt8) → List Ru → Nat → Except (Nat × Nat) (List Ru)
  | [], rs, _ => .ok rs
  | l :: ls, rs, b => match lineG l with
    | .error (e, p) => .error (e, b + p)
    | .ok none => readG ls rs (b + l.length + 1)
    | .ok (some r) => if rs.length = 64 then .error (3, b) else readG ls (rs ++ [r]) (b + l.length + 1)
def readT (t : List UInt8) : Except (Nat × Nat) (List Ru) := if 131072 < t.length then .error (3, 0) else readG (linesL t) [] 0

theorem kindW_cases (s : List UInt8) : kindW s = (1, 2) ∨ kindW s = (2, 2) ∨ kindW s = (3, 3) ∨ kindW s = (0, 0) := by
  unfold kindW
  split
  · exact .inl rfl
  · split
    · exact .inr (.inl rfl)
    · split
      · exact .inr (.inr (.inl rfl))
      · exact .inr (.inr (.inr rfl))
theorem pathW_isP {s p : List UInt8} (h : pathW s = some p) : isP p = true := by
  unfold pathW at h
  split at h
  · cases h; exact isP_nil
  · split at h
    · cases h
    · rename_i h2
      cases h
      cases e : isP s with
      | true => rfl
      | false => exact absurd (.inr e) h2
theorem pathW_wd {p : List UInt8} (h : isP p = true) : pathW (wdP p) = some p := by
  unfold wdP
  by_cases e : p = []
  · rw [if_pos e, e]; rfl
  · rw [if_neg e]
    unfold pathW
    have hs : p ≠ [47] := fun e' => by
      rw [e'] at h
      exact absurd h (by decide)
    rw [if_neg hs, if_neg (by rintro (h1 | h1); exact e h1; rw [h] at h1; cases h1)]
theorem ruleW_len {ws : List (List UInt8)} {r : Ru} (h : ruleW ws = some r) : 2 ≤ ws.length ∧ (r.1 = 1 ∨ r.1 = 2 ∨ r.1 = 3) := by
  unfold ruleW at h
  split at h
  · rename_i hl
    obtain ⟨f, hf, h⟩ := Option.bind_eq_some_iff.1 h
    obtain ⟨t, ht, h⟩ := Option.map_eq_some_iff.1 h
    rcases kindW_cases (ws.getD 0 []) with e | e | e | e
    · rw [e] at hl h; exact ⟨by omega, by rw [← h]; simp⟩
    · rw [e] at hl h; exact ⟨by omega, by rw [← h]; simp⟩
    · rw [e] at hl h; simp only at hl; exact ⟨by omega, by rw [← h]; simp⟩
    · rw [e] at hl
      have : ws = [] := List.eq_nil_of_length_eq_zero hl
      rw [this] at e
      have e0 : pathW (([] : List (List UInt8)).getD 1 []) = none := by decide
      rw [this, e0] at hf
      cases hf
  · cases h
theorem ruleW_ok {ws : List (List UInt8)} {r : Ru} (h : ruleW ws = some r) : okR r = true := by
  have hk := (ruleW_len h).2
  unfold ruleW at h
  split at h
  · obtain ⟨f, hf, h⟩ := Option.bind_eq_some_iff.1 h
    obtain ⟨t, ht, h⟩ := Option.map_eq_some_iff.1 h
    unfold okR
    rw [← h] at hk ⊢
    simp only at hk ⊢
    rw [pathW_isP hf]
    rcases hk with e | e | e
    · rw [e]; simp [isP_nil]
    · rw [e]; simp [isP_nil]
    · rw [e]; simp [pathW_isP ht]
  · cases h
theorem ruleW_ne {ws : List (List UInt8)} {r : Ru} (h : ruleW ws = some r) : r.1 ≠ 0 := by
  rcases (ruleW_len h).2 with e | e | e <;> rw [e] <;> decide
/-- a rule's words say the rule -/
theorem ruleW_ws {r : Ru} (h : okR r = true) : ruleW (wsR r) = some r := by
  obtain ⟨k, f, t⟩ := r
  unfold okR at h
  simp only [Bool.and_eq_true, Bool.or_eq_true, decide_eq_true_eq] at h
  obtain ⟨⟨hf, ht⟩, h⟩ := h
  rcases h with rfl | ⟨rfl | rfl, rfl⟩
  · show ruleW [[109, 111, 118, 101], wdP f, wdP t] = _
    unfold ruleW
    rw [if_pos (by rfl)]
    show (pathW (wdP f)).bind _ = _
    rw [pathW_wd hf]
    show (pathW (wdP t)).map _ = _
    rw [pathW_wd ht]
    rfl
  · show ruleW [[107, 101, 101, 112], wdP f] = _
    unfold ruleW
    rw [if_pos (by rfl)]
    show (pathW (wdP f)).bind (fun f' => (pathW (wdP f)).map _) = _
    rw [pathW_wd hf]
    rfl
  · show ruleW [[100, 114, 111, 112], wdP f] = _
    unfold ruleW
    rw [if_pos (by rfl)]
    show (pathW (wdP f)).bind (fun f' => (pathW (wdP f)).map _) = _
    rw [pathW_wd hf]
    rfl
theorem lineG_ws {l : List UInt8} {r : Ru} (hl : wordsL l 0 = .ok (wsR r)) (h : okR r = true) : lineG l = .ok (some r) := by
  have hr := ruleW_ws h
  unfold lineG
  rw [hl]
  cases hw : wsR r with
  | nil =>
    have := (ruleW_len hr).1
    rw [hw] at this
    exact absurd this (by decide)
  | cons a b =>
    show (match ruleW (a :: b) with | none => _ | some x => _) = _
    rw [← hw, hr]
theorem lineG_line {r : Ru} (h : okR r = true) : lineG (lineR r) = .ok (some r) := lineG_ws (wordsL_line _) h
theorem lineG_ok {l : List UInt8} {r : Ru} (h : lineG l = .ok (some r)) : okR r = true ∧ ∃ ws, wordsL l 0 = .ok ws ∧ ruleW ws = some r := by
  unfold lineG at h
  split at h
  · cases h
  · cases h
  · rename_i a b hw
    split at h
    · cases h
    · rename_i x hx
      cases h
      exact ⟨ruleW_ok hx, _, hw, hx⟩

/-- reading behind some rules: rules that are read ahead -/
theorem readG_ok : ∀ (ls : List (List UInt8)) (rs : List Ru) (b : Nat) (out : List Ru), readG ls rs b = .ok out → (∀ r ∈ rs, okR r = true) → rs.length ≤ 64 → (∀ r ∈ out, okR r = true) ∧ out.length ≤ 64
  | [], rs, b, out, h, hr, hl => by cases h; exact ⟨hr, hl⟩
  | l :: ls, rs, b, out, h, hr, hl => by
    unfold readG at h
    split at h
    · cases h
    · exact readG_ok ls rs _ out h hr hl
    · rename_i r he
      split at h
      · cases h
      · rename_i h64
        refine readG_ok ls (rs ++ [r]) _ out h ?_ ?_
        · intro x hx
          rcases List.mem_append.1 hx with hx | hx
          · exact hr x hx
          · rw [List.mem_singleton.1 hx]; exact (lineG_ok he).1
        · rw [List.length_append]; simp; omega
theorem readT_ok {t : List UInt8} {out : List Ru} (h : readT t = .ok out) : (∀ r ∈ out, okR r = true) ∧ out.length ≤ 64 := by
  unfold readT at h
  split at h
  · cases h
  · exact readG_ok _ _ _ _ h (by simp) (by simp)

theorem okq_ten : ∀ (k : Nat) (l : List UInt8), l.length ≤ k → okq l = true → (10 : UInt8) ∉ l
  | 0, l, h, _ => by
    have : l = [] := List.length_eq_zero_iff.1 (by omega)
    rw [this]; simp
  | k + 1, l, h, ho => by
    by_cases e : l = []
    · rw [e]; simp
    · rw [okq_go l e] at ho
      simp only [Bool.and_eq_true, Bool.not_eq_true', Bool.or_eq_false_iff] at ho
      obtain ⟨⟨h1, _⟩, h2⟩ := ho
      have h10 : (dec l).1 ≠ 10 := fun e' => by rw [e'] at h1; exact absurd h1 (by decide)
      have hd := drop_lt l e
      have ih := okq_ten k (l.drop (dec l).2) (by omega) h2
      rw [← List.take_append_drop (dec l).2 l, List.mem_append]
      rintro (hm | hm)
      · exact piece_ten l e h10 hm
      · exact ih hm
theorem plainF_ten : ∀ (k : Nat) (l : List UInt8), l.length ≤ k → plainF l = true → (10 : UInt8) ∉ l
  | 0, l, h, _ => by
    have : l = [] := List.length_eq_zero_iff.1 (by omega)
    rw [this]; simp
  | k + 1, l, h, ho => by
    by_cases e : l = []
    · rw [e]; simp
    · rw [plainF_go l e] at ho
      simp only [Bool.and_eq_true, Bool.not_eq_true', badw, Bool.or_eq_false_iff] at ho
      obtain ⟨⟨⟨_, h1⟩, _⟩, h2⟩ := ho
      have h10 : (dec l).1 ≠ 10 := fun e' => by rw [e'] at h1; exact absurd h1 (by decide)
      have hd := drop_lt l e
      have ih := plainF_ten k (l.drop (dec l).2) (by omega) h2
      rw [← List.take_append_drop (dec l).2 l, List.mem_append]
      rintro (hm | hm)
      · exact piece_ten l e h10 hm
      · exact ih hm
theorem quote_ten (s : List UInt8) : (10 : UInt8) ∉ quoteL s := okq_ten _ _ (Nat.le_refl _) (okq_quote s)
theorem word_ten (s : List UInt8) : (10 : UInt8) ∉ wordL s := by
  unfold wordL
  split
  · rename_i h
    unfold plainL at h
    simp only [Bool.and_eq_true] at h
    exact plainF_ten _ _ (Nat.le_refl _) h.2
  · exact quote_ten s
theorem tail_ten (ws : List (List UInt8)) : (10 : UInt8) ∉ tailL ws := by
  unfold tailL
  intro h
  obtain ⟨w, _, hw⟩ := List.mem_flatMap.1 h
  rcases List.mem_cons.1 hw with e | e
  · exact absurd e (by decide)
  · exact word_ten w e
theorem line_ten (ws : List (List UInt8)) : (10 : UInt8) ∉ lineL ws := by
  cases ws with
  | nil => simp [lineL]
  | cons w r =>
    rw [lineL, List.mem_append]
    rintro (h | h)
    · exact word_ten w h
    · exact tail_ten r h
/-- lines without a byte 10, with one behind each, are these lines -/
theorem lines_back : ∀ (ls : List (List UInt8)) (t : List UInt8), (∀ l ∈ ls, (10 : UInt8) ∉ l) → linesL (backL ls ++ t) = ls ++ linesL t
  | [], t, _ => rfl
  | l :: ls, t, h => by
    have ih := lines_back ls t (fun x hx => h x (by simp [hx]))
    have e : backL (l :: ls) ++ t = l ++ (10 :: (backL ls ++ t)) := by simp [backL]
    unfold linesL
    rw [e, cutN_run l [] _ (h l (by simp)), List.nil_append, cutN, if_pos rfl]
    show l :: linesL (backL ls ++ t) = _
    rw [ih]; rfl
theorem lines_one (l : List UInt8) (h : (10 : UInt8) ∉ l) (hl : l ≠ []) : linesL l = [l] := by
  have e := cutN_run l [] [] h
  rw [List.append_nil, List.nil_append] at e
  unfold linesL
  rw [e, cutN, if_neg hl]
/-- the text of rules -/
def textR (rs : List Ru) : List UInt8 := backL (rs.map lineR)
theorem textR_snoc (rs : List Ru) (r : Ru) : textR (rs ++ [r]) = textR rs ++ (lineR r ++ [10]) := by
  unfold textR; rw [List.map_append]; exact backL_snoc _ _
theorem lines_text (rs : List Ru) (t : List UInt8) : linesL (textR rs ++ t) = rs.map lineR ++ linesL t :=
  lines_back _ t (fun l hl => by
    obtain ⟨r, _, rfl⟩ := List.mem_map.1 hl
    exact line_ten _)
theorem readG_rules : ∀ (rs : List Ru) (ls : List (List UInt8)) (ahead : List Ru) (b : Nat), (∀ r ∈ rs, okR r = true) → ahead.length + rs.length ≤ 64 →
    readG (rs.map lineR ++ ls) ahead b = readG ls (ahead ++ rs) (b + (textR rs).length)
  | [], ls, ahead, b, _, _ => by simp [textR, backL]
  | r :: rs, ls, ahead, b, hr, hl => by
    rw [List.length_cons] at hl
    show readG (lineR r :: (rs.map lineR ++ ls)) ahead b = _
    rw [readG, lineG_line (hr r (by simp))]
    show (if ahead.length = 64 then _ else _) = _
    rw [if_neg (by omega), readG_rules rs ls (ahead ++ [r]) _ (fun x hx => hr x (by simp [hx])) (by rw [List.length_append]; simp; omega)]
    have e : (textR (r :: rs)).length = (lineR r).length + 1 + (textR rs).length := by simp [textR, backL]; omega
    rw [e, List.append_assoc]
    show readG ls (ahead ++ r :: rs) _ = _
    congr 1
    omega
theorem wdP_len {p : List UInt8} (h : isP p = true) : (wdP p).length ≤ 200 := by
  unfold wdP
  split
  · decide
  · exact ((isP_iff p).1 h).1
theorem lineR_len {r : Ru} (h : okR r = true) : (lineR r).length ≤ 1625 := by
  unfold okR at h
  simp only [Bool.and_eq_true] at h
  obtain ⟨⟨hf, ht⟩, _⟩ := h
  have h1 := wdP_len hf
  have h2 := wdP_len ht
  have := lineL_len (wsR r)
  unfold lineR
  have hw : ((wsR r).map List.length).sum ≤ 404 ∧ (wsR r).length ≤ 3 := by
    unfold wsR
    split
    · simp; omega
    · split
      · simp; omega
      · simp; omega
  omega
theorem textR_len : ∀ (rs : List Ru), (∀ r ∈ rs, okR r = true) → (textR rs).length ≤ 1626 * rs.length
  | [], _ => by simp [textR, backL]
  | r :: rs, h => by
    have e : (textR (r :: rs)).length = (lineR r).length + 1 + (textR rs).length := by simp [textR, backL]; omega
    have := textR_len rs (fun x hx => h x (by simp [hx]))
    have := lineR_len (h r (by simp))
    rw [e, List.length_cons]; omega
theorem lineR_ne (r : Ru) : lineR r ≠ [] := by
  intro e
  have h := wordsL_line (wsR r)
  rw [show lineL (wsR r) = [] from e, wordsL_nil] at h
  have h2 : [] = wsR r := Except.ok.inj h
  unfold wsR at h2
  split at h2
  · cases h2
  · split at h2 <;> cases h2
/-- rules that are printed are read as they are -/
theorem readT_text (rs : List Ru) (h : ∀ r ∈ rs, okR r = true) (hl : rs.length ≤ 64) : readT (textR rs) = .ok rs := by
  have h1 := textR_len rs h
  unfold readT
  rw [if_neg (by omega)]
  have e := lines_text rs []
  rw [List.append_nil] at e
  rw [e, readG_rules rs _ [] 0 h (by simpa using hl)]
  rfl
/-- one more than may be -/
theorem readT_more (rs : List Ru) (r : Ru) (h : ∀ x ∈ rs, okR x = true) (hl : rs.length = 64) (hr : okR r = true) : readT (textR rs ++ lineR r) = .error (3, (textR rs).length) := by
  have h1 := textR_len rs h
  have h2 := lineR_len hr
  unfold readT
  rw [if_neg (by rw [List.length_append]; omega), lines_text rs (lineR r), lines_one (lineR r) (line_ten _) (lineR_ne r), readG_rules rs _ [] 0 h (by simpa using (Nat.le_of_eq hl))]
  rw [readG, lineG_line hr]
  show (if ([] ++ rs).length = 64 then _ else _) = _
  rw [List.nil_append, if_pos hl, Nat.zero_add]
end Go.Proofs.YtggnglgehobglaaGreatDoor

/- A rule in memory, and rules held against each other. -/
namespace Go.Proofs.YtggnglgehobglaaGreatDoor
open Go.RowKit Go.Shelf

attribute [local go_sem] Oper.semAt_some

abbrev rv (k : Int) (f t : ByteArray) : Value := .agg #[.int .i64 k, .string f, .string t]
/-- the value of a rule -/
abbrev ruV (r : Ru) : Value := rv r.1 (mk r.2.1) (mk r.2.2)
theorem eqR (w : World) (k k' : Int) (f f' t t' : ByteArray) : (binOp .eql 31 (rv k f t) (rv k' f' t')).run Tryz.prog w = .ok (.bool (k == k' && (f.toList == f'.toList && t.toList == t'.toList))) w := by
  have u3 := Tryz.underlying3
  have u9 := Tryz.underlying9
  have hS : Tryz.prog.underlying 31 = some (.struct (Tryz.prog.fieldsOf 31)) := by kernel_rfl
  have hp : Tryz.prog.stoodInHeld 31 = false := by kernel_rfl
  rw [run_eql_struct, show (10000 : Nat) = 9999 + 1 from rfl, run_equalIn_agg w 9999 31 _ _ hS hp]
  simp only [Program.fieldsOf, Tryz.underlying31]
  go_simp
  cases h1 : (k == k') <;> cases h2 : (f.toList == f'.toList) <;> cases h3 : (t.toList == t'.toList) <;> simp_all
theorem neR (w : World) (k k' : Int) (f f' t t' : ByteArray) : (binOp .neq 31 (rv k f t) (rv k' f' t')).run Tryz.prog w = .ok (.bool (!(k == k' && (f.toList == f'.toList && t.toList == t'.toList)))) w := by
  have h := eqR w k k' f f' t t'
  rw [run_eql_struct] at h
  rw [run_neq_struct]
  generalize (Op.equalIn 10000 31 (rv k f t) (rv k' f' t')).run Tryz.prog w = r at *
  cases r with
  | ok b w1 =>
    simp only [Result.andThen] at h ⊢
    cases h
    rfl
  | halt x w1 => cases h
theorem eqS (w : World) (a b c d : Int) : (binOp .eql 48 (.agg #[.int .i64 a, .int .i64 b]) (.agg #[.int .i64 c, .int .i64 d])).run Tryz.prog w = .ok (.bool (a == c && b == d)) w := by
  have u3 := Tryz.underlying3
  have u9 := Tryz.underlying25
  have hS : Tryz.prog.underlying 48 = some (.struct (Tryz.prog.fieldsOf 48)) := by kernel_rfl
  have hp : Tryz.prog.stoodInHeld 48 = false := by kernel_rfl
  rw [run_eql_struct, show (10000 : Nat) = 9999 + 1 from rfl, run_equalIn_agg w 9999 48 _ _ hS hp]
  simp only [Program.fieldsOf, Tryz.underlying48]
  go_simp
  cases h1 : (a == c) <;> cases h2 : (b == d) <;> simp_all

def BoxR (W : World) (g : Nat) (k : Int) (f t : ByteArray) : Prop := W.heap[g]? = some (.cells #[.int .i64 k, .string f, .string t] 31 (0, 0))
theorem BoxR.lt {W : World} {g : Nat} {k : Int} {f t : ByteArray} (h : BoxR W g k f t) : g < W.heap.size := (Array.getElem?_eq_some_iff.1 h).1
theorem BoxR.new (W : World) (k : Int) (f t : ByteArray) : BoxR (W.alloc (.cells #[.int .i64 k, .string f, .string t] 31)) W.heap.size k f t := World.alloc_heap_new W _
theorem BoxR.below {W W' : World} {B g : Nat} {k : Int} {f t : ByteArray} (h : BoxR W g k f t) (hB : Below B W W') (hg : g < B) : BoxR W' g k f t := (hB.block g hg).trans h
theorem BoxR.cell {W : World} {g : Nat} {k : Int} {f t : ByteArray} (h : BoxR W g k f t) : W.cell? ⟨g, 0, none⟩ = some (.int .i64 k) ∧ W.cell? ⟨g, 1, none⟩ = some (.string f) ∧ W.cell? ⟨g, 2, none⟩ = some (.string t) := by
  unfold BoxR at h
  refine ⟨?_, ?_, ?_⟩ <;> simp [World.cell?, h]
theorem BoxR.frozen {W : World} {g : Nat} {k : Int} {f t : ByteArray} (h : BoxR W g k f t) : W.frozen? ⟨g, 0, none⟩ = false ∧ W.frozen? ⟨g, 1, none⟩ = false ∧ W.frozen? ⟨g, 2, none⟩ = false := by
  unfold BoxR at h
  refine ⟨?_, ?_, ?_⟩ <;> simp [World.frozen?, h]
theorem BoxR.all {W : World} {g : Nat} {k : Int} {f t : ByteArray} (h : BoxR W g k f t) (k' : Int) (f' t' : ByteArray) : BoxR (((W.setCell ⟨g, 0, none⟩ (.int .i64 k')).setCell ⟨g, 1, none⟩ (.string f')).setCell ⟨g, 2, none⟩ (.string t')) g k' f' t' := by
  have h' := h
  unfold BoxR at h'
  simp [BoxR, World.setCell, Array.getElem?_modify, h', Array.setIfInBounds]
theorem BoxR.set0 {W : World} {g : Nat} {k : Int} {f t : ByteArray} (h : BoxR W g k f t) (k' : Int) : BoxR (W.setCell ⟨g, 0, none⟩ (.int .i64 k')) g k' f t := by
  have h' := h
  unfold BoxR at h'
  simp [BoxR, World.setCell, Array.getElem?_modify, h', Array.setIfInBounds]
theorem BoxR.set1 {W : World} {g : Nat} {k : Int} {f t : ByteArray} (h : BoxR W g k f t) (f' : ByteArray) : BoxR (W.setCell ⟨g, 1, none⟩ (.string f')) g k f' t := by
  have h' := h
  unfold BoxR at h'
  simp [BoxR, World.setCell, Array.getElem?_modify, h', Array.setIfInBounds]
theorem BoxR.set2 {W : World} {g : Nat} {k : Int} {f t : ByteArray} (h : BoxR W g k f t) (t' : ByteArray) : BoxR (W.setCell ⟨g, 2, none⟩ (.string t')) g k f t' := by
  have h' := h
  unfold BoxR at h'
  simp [BoxR, World.setCell, Array.getElem?_modify, h', Array.setIfInBounds]
theorem BoxR.other {W : World} {g j i : Nat} {k : Int} {f t : ByteArray} (h : BoxR W g k f t) (hk : g ≠ j) (u : Value) : BoxR (W.setCell ⟨j, i, none⟩ u) g k f t :=
  (Below.heap_setCell _ _ _ _ hk).trans h
theorem str_empty (s : ByteArray) : s.toList.isEmpty = decide (bs s = []) := by
  rw [toList_bs]
  cases bs s <;> rfl
end Go.Proofs.YtggnglgehobglaaGreatDoor
