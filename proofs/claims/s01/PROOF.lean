import PyProof.Rows.All
import KE.OsGo
import PySem.Challenge.RW_carriage_s01_answers
set_option Elab.async false
namespace My
section mathematics
open PyKs214

/-- the turn that two signals tell -/
def tn (a b : Int) : Int := if a = 0 then (if b = 0 then 0 else 1) else (if b = 0 then 3 else 2)

theorem whole_id (c : List (List Int)) : whole c = c := by
  unfold whole
  split <;> rfl
theorem map_whole (cs : List (List (List Int))) : cs.map whole = cs := by
  have : whole = id := funext whole_id
  rw [this, List.map_id]

theorem place_iff (x : Int) : Ks214.isPlace x = true ↔ -1073741824 ≤ x ∧ x ≤ 1073741824 := by
  unfold Ks214.isPlace
  rw [Bool.and_eq_true, decide_eq_true_eq, decide_eq_true_eq]
  unfold Ks214.FAR
  exact Iff.rfl
theorem is_place {x : Int} (h1 : -1073741824 ≤ x) (h2 : x ≤ 1073741824) : Ks214.isPlace x = true := (place_iff x).mpr ⟨h1, h2⟩
theorem no_place {x : Int} (h : x < -1073741824 ∨ 1073741824 < x) : Ks214.isPlace x = false := by
  cases e : Ks214.isPlace x with
  | false => rfl
  | true =>
    have := (place_iff x).mp e
    omega

structure Rel (s : Ks214.Abs) (k : Bool) (t p l g : Int) : Prop where
  turn : t = (s.turn : Int)
  four : s.turn < 4
  known : s.at_ = if k then some p else none
  least : l = s.least
  most : g = s.most

structure Told (ns : List Int) (b : Int) (out : List Int) (k : Bool) (t p l g : Int) : Prop where
  is : ∃ (f : Nat) (cs : List (List (List Int))) (begun : Bool) (s : Ks214.Abs),
    PyFlat.calls shape f (ns.drop b.toNat) = some cs ∧ PyKs214.answers ns = out ++ PyFlat.told (PyFlat.played Ks214Neutral.step s cs) ∧
    Ks214Neutral.askedFrom begun s cs = true ∧ (∀ c ∈ cs, Ks214Neutral.asked1 c = true) ∧ (begun = true → Rel s k t p l g)

theorem told_start {ns : List Int} (h : answers_asked ns = true) (k : Bool) (t p l g : Int) : Told ns 0 [] k t p l g := by
  have e : PyKs214.answers ns = match calls ns with | none => [] | some cs => PyFlat.told (PyFlat.played Ks214Neutral.step Ks214Neutral.start cs) := rfl
  unfold answers_asked at h
  cases h1 : calls ns with
  | none => rw [h1] at h; exact absurd h Bool.false_ne_true
  | some cs =>
    rw [h1] at h e
    simp only [Ks214Neutral.asked, Ks214Neutral.orderly, Bool.and_eq_true, List.all_eq_true] at h
    obtain ⟨_, ⟨⟨⟨⟨ha, _⟩, _⟩, ho⟩, _⟩⟩ := h
    unfold calls at h1
    cases h2 : PyFlat.calls shape ns.length ns with
    | none => rw [h2] at h1; exact nomatch h1
    | some cs2 =>
      rw [h2] at h1
      simp only [map_whole, Option.some.injEq] at h1
      subst h1
      exact ⟨⟨ns.length, cs2, false, Ks214Neutral.start, h2, e, ho, ha, fun h => nomatch h⟩⟩

theorem calls_nil {f : Nat} {cs : List (List (List Int))} (h : PyFlat.calls shape f [] = some cs) : cs = [] := by
  cases f <;> (simp [PyFlat.calls] at h; exact h)

/-- behind the last call -/
theorem told_end {ns : List Int} {b : Int} {out : List Int} {k : Bool} {t p l g : Int} (T : Told ns b out k t p l g) (h : ¬ b < (ns.length : Int)) : out = answers ns := by
  obtain ⟨f, cs, bg, s, h1, h2, -, -, -⟩ := T.is
  rw [List.drop_eq_nil_of_le (by omega)] at h1
  rw [calls_nil h1] at h2
  rw [h2]
  simp [PyFlat.told, PyFlat.played]

/-- what the next call is -/
def Next (r : List Int) : Prop :=
  (∃ a c d rest, r = 0 :: a :: c :: d :: rest ∧ 0 ≤ a ∧ a ≤ 4294967295 ∧ 0 ≤ c ∧ c ≤ 4294967295 ∧ -2147483648 ≤ d ∧ d ≤ 2147483647) ∨
  (∃ a c rest, r = 1 :: a :: c :: rest ∧ 0 ≤ a ∧ a ≤ 4294967295 ∧ 0 ≤ c ∧ c ≤ 4294967295) ∨
  (∃ rest, r = 2 :: rest)

theorem calls_cons {f : Nat} {x : Int} {r : List Int} {cs : List (List (List Int))} (h : PyFlat.calls shape f (x :: r) = some cs) :
    (∃ f' a c d rest cs', x = 0 ∧ r = a :: c :: d :: rest ∧ cs = [[0, a, c, d]] :: cs' ∧ PyFlat.calls shape f' rest = some cs') ∨
    (∃ f' a c rest cs', x = 1 ∧ r = a :: c :: rest ∧ cs = [[1, a, c]] :: cs' ∧ PyFlat.calls shape f' rest = some cs') ∨
    (∃ f' cs', x = 2 ∧ cs = [[2]] :: cs' ∧ PyFlat.calls shape f' r = some cs') := by
  cases f with
  | zero => simp [PyFlat.calls] at h
  | succ f =>
    simp only [PyFlat.calls] at h
    by_cases x0 : x = 0
    · subst x0
      match r, h with
      | [], h => simp [PyFlat.call, shape] at h
      | [_], h => simp [PyFlat.call, shape] at h
      | [_, _], h => simp [PyFlat.call, shape] at h
      | a :: c :: d :: rest, h =>
        have hl : ¬ (rest.length + 1 + 1 + 1 < 3) := by omega
        simp only [PyFlat.call, shape, if_pos, List.length_cons, hl, if_false, PyFlat.rows, List.drop_succ_cons, List.drop_zero, List.take_succ_cons, List.take_zero] at h
        cases h2 : PyFlat.calls shape f rest with
        | none => rw [show PyFlat.calls _ f rest = none from h2] at h; exact nomatch h
        | some cs' =>
          rw [show PyFlat.calls _ f rest = some cs' from h2] at h
          simp only [Option.some.injEq] at h
          exact .inl ⟨f, a, c, d, rest, cs', rfl, rfl, h.symm, h2⟩
    · by_cases x1 : x = 1
      · subst x1
        match r, h with
        | [], h => simp [PyFlat.call, shape] at h
        | [_], h => simp [PyFlat.call, shape] at h
        | a :: c :: rest, h =>
          have hl : ¬ (rest.length + 1 + 1 < 2) := by omega
          have n1 : ¬ ((1 : Int) = 0) := by decide
          simp only [PyFlat.call, shape, n1, if_false, if_pos, List.length_cons, hl, PyFlat.rows, List.drop_succ_cons, List.drop_zero, List.take_succ_cons, List.take_zero] at h
          cases h2 : PyFlat.calls shape f rest with
          | none => rw [show PyFlat.calls _ f rest = none from h2] at h; exact nomatch h
          | some cs' =>
            rw [show PyFlat.calls _ f rest = some cs' from h2] at h
            simp only [Option.some.injEq] at h
            exact .inr (.inl ⟨f, a, c, rest, cs', rfl, rfl, h.symm, h2⟩)
      · by_cases x2 : x = 2
        · subst x2
          have n1 : ¬ ((2 : Int) = 0) := by decide
          have n2 : ¬ ((2 : Int) = 1) := by decide
          have hl : ¬ (r.length < 0) := by omega
          simp only [PyFlat.call, shape, n1, n2, if_false, if_pos, hl, PyFlat.rows, List.drop_zero, List.take_zero] at h
          cases h2 : PyFlat.calls shape f r with
          | none => rw [show PyFlat.calls _ f r = none from h2] at h; exact nomatch h
          | some cs' =>
            rw [show PyFlat.calls _ f r = some cs' from h2] at h
            simp only [Option.some.injEq] at h
            exact .inr (.inr ⟨f, cs', rfl, h.symm, h2⟩)
        · simp [PyFlat.call, shape, x0, x1, x2] at h

theorem told_next {ns : List Int} {b : Int} {out : List Int} {k : Bool} {t p l g : Int} (T : Told ns b out k t p l g) (h0 : 0 ≤ b) (h : b < (ns.length : Int)) : Next (ns.drop b.toNat) := by
  obtain ⟨f, cs, bg, s, h1, -, -, h3, -⟩ := T.is
  cases e : ns.drop b.toNat with
  | nil =>
    have := List.drop_eq_nil_iff.mp e
    omega
  | cons x r =>
    rw [e] at h1
    rcases calls_cons h1 with ⟨f', a, c, d, rest, cs', rfl, rfl, rfl, -⟩ | ⟨f', a, c, rest, cs', rfl, rfl, rfl, -⟩ | ⟨f', cs', rfl, rfl, -⟩
    · have := h3 _ (List.mem_cons_self)
      simp only [Ks214Neutral.asked1, Ks214Neutral.natural, Ks214Neutral.whole32, Bool.and_eq_true, decide_eq_true_eq] at this
      exact .inl ⟨a, c, d, rest, rfl, by omega, by omega, by omega, by omega, by omega, by omega⟩
    · have := h3 _ (List.mem_cons_self)
      simp only [Ks214Neutral.asked1, Ks214Neutral.natural, Bool.and_eq_true, decide_eq_true_eq] at this
      exact .inr (.inl ⟨a, c, rest, rfl, by omega, by omega, by omega, by omega⟩)
    · exact .inr (.inr ⟨r, rfl⟩)

theorem drop_on {ns r : List Int} {b : Int} (h0 : 0 ≤ b) (n : Nat) (e : (ns.drop b.toNat).drop n = r) : ns.drop (b + n).toNat = r := by
  rw [← e, List.drop_drop]
  congr 1
  omega

theorem told_cons (x : List Int) (l : List (List Int)) : PyFlat.told (x :: l) = (x.length : Int) :: x ++ PyFlat.told l := by
  simp [PyFlat.told]

/-- one call more: what it answers in the specification's state -/
theorem told_more {ns : List Int} {b b' : Int} {out : List Int} {k k' : Bool} {t p l g t' p' l' g' : Int} {rest : List Int} {ans : List Int} {c : List (List Int)}
    (T : Told ns b out k t p l g) (hb : ns.drop b'.toNat = rest)
    (hc : ∀ f cs, PyFlat.calls shape f (ns.drop b.toNat) = some cs → ∃ f' cs', cs = c :: cs' ∧ PyFlat.calls shape f' rest = some cs')
    (h : ∀ (bg : Bool) (s : Ks214.Abs), (bg = true → Rel s k t p l g) → (bg || Ks214Neutral.num c 0 0 == 0) = true → (Ks214Neutral.step s c).2 = ans ∧ ((bg || (Ks214Neutral.num c 0 0 == 0 && (Ks214Neutral.step s c).2.headD (-1) == 0)) = true → Rel (Ks214Neutral.step s c).1 k' t' p' l' g')) :
    Told ns b' (out ++ ((ans.length : Int) :: ans)) k' t' p' l' g' := by
  obtain ⟨f, cs, bg, s, h1, h2, h3, h4, h5⟩ := T.is
  obtain ⟨f', cs', rfl, h6⟩ := hc f cs h1
  simp only [Ks214Neutral.askedFrom, Bool.and_eq_true] at h3
  obtain ⟨⟨-, h7⟩, h8⟩ := h3
  obtain ⟨h9, h10⟩ := h bg s h5 h7
  refine ⟨⟨f', cs', _, _, hb ▸ h6, ?_, h8, fun c hc => h4 c (List.mem_cons_of_mem _ hc), h10⟩⟩
  rw [h2, PyFlat.played, told_cons, h9]
  simp

theorem is0 {ns : List Int} {b a c d : Int} {rest : List Int} (e : ns.drop b.toNat = 0 :: a :: c :: d :: rest) (f cs) (h : PyFlat.calls shape f (ns.drop b.toNat) = some cs) : ∃ f' cs', cs = [[0, a, c, d]] :: cs' ∧ PyFlat.calls shape f' rest = some cs' := by
  rw [e] at h
  rcases calls_cons h with ⟨f', a, c, d, rest, cs', -, hr, rfl, h6⟩ | ⟨f', a, c, rest, cs', hx, _⟩ | ⟨f', cs', hx, _⟩
  · injection hr with h1 hr
    injection hr with h2 hr
    injection hr with h3 hr
    subst h1 h2 h3 hr
    exact ⟨f', cs', rfl, h6⟩
  · exact absurd hx (by decide)
  · exact absurd hx (by decide)
theorem is1 {ns : List Int} {b a c : Int} {rest : List Int} (e : ns.drop b.toNat = 1 :: a :: c :: rest) (f cs) (h : PyFlat.calls shape f (ns.drop b.toNat) = some cs) : ∃ f' cs', cs = [[1, a, c]] :: cs' ∧ PyFlat.calls shape f' rest = some cs' := by
  rw [e] at h
  rcases calls_cons h with ⟨f', a, c, d, rest, cs', hx, _⟩ | ⟨f', a, c, rest, cs', -, hr, rfl, h6⟩ | ⟨f', cs', hx, _⟩
  · exact absurd hx (by decide)
  · injection hr with h1 hr
    injection hr with h2 hr
    subst h1 h2 hr
    exact ⟨f', cs', rfl, h6⟩
  · exact absurd hx (by decide)
theorem is2 {ns : List Int} {b : Int} {rest : List Int} (e : ns.drop b.toNat = 2 :: rest) (f cs) (h : PyFlat.calls shape f (ns.drop b.toNat) = some cs) : ∃ f' cs', cs = [[2]] :: cs' ∧ PyFlat.calls shape f' rest = some cs' := by
  rw [e] at h
  rcases calls_cons h with ⟨f', a, c, d, rest, cs', hx, _⟩ | ⟨f', a, c, rest, cs', hx, _⟩ | ⟨f', cs', -, rfl, h6⟩
  · exact absurd hx (by decide)
  · exact absurd hx (by decide)
  · exact ⟨f', cs', rfl, h6⟩

theorem step0 (s : Ks214.Abs) (a c d : Int) : Ks214Neutral.step s [[0, a, c, d]] = if Ks214.okStart a.toNat c.toNat d then (Ks214.start a.toNat c.toNat d, [0]) else (s, [-22]) := by
  show Ks214Neutral.sa (Ks214.act s (.start a.toNat c.toNat d)) = _
  simp only [Ks214.act]
  split <;> rfl
theorem step2 (s : Ks214.Abs) : Ks214Neutral.step s [[2]] = (s, match s.at_ with | some x => [0, x, s.least, s.most] | none => [-5]) := by
  show Ks214Neutral.sa (Ks214.act s .where_) = _
  simp only [Ks214.act, Ks214Neutral.sa]
  split <;> simp_all [Ks214.say]
theorem step1_bad (s : Ks214.Abs) {a c : Int} (h : 1 < a ∨ 1 < c) : Ks214Neutral.step s [[1, a, c]] = (s, [-22]) := by
  show Ks214Neutral.sa (Ks214.act s (.signals a.toNat c.toNat)) = _
  simp only [Ks214.act]
  rw [if_pos (by omega)]
  rfl
theorem step1 (s : Ks214.Abs) {a c : Int} (h1 : a ≤ 1) (h2 : c ≤ 1) : Ks214Neutral.step s [[1, a, c]] = ((s.signals a.toNat c.toNat).1, [match (s.signals a.toNat c.toNat).2 with | some n => ((n : Nat) : Int) | none => -5]) := by
  show Ks214Neutral.sa (Ks214.act s (.signals a.toNat c.toNat)) = _
  simp only [Ks214.act]
  rw [if_neg (by omega)]
  simp only [Ks214Neutral.sa]
  cases (s.signals a.toNat c.toNat).2 <;> rfl

theorem tn_eq {a c : Int} (h0 : 0 ≤ a) (h1 : 0 ≤ c) : ((Ks214.turnOf a.toNat c.toNat : Nat) : Int) = tn a c := by
  unfold Ks214.turnOf tn
  by_cases ha : a = 0
  · subst ha
    by_cases hc : c = 0
    · subst hc; rfl
    · rw [if_pos (by rfl), if_neg (by omega), if_pos rfl, if_neg hc]; rfl
  · by_cases hc : c = 0
    · subst hc
      rw [if_neg (by omega), if_pos (by rfl), if_neg ha, if_pos rfl]; rfl
    · rw [if_neg (by omega), if_neg (by omega), if_neg ha, if_neg hc]; rfl
theorem turn_four (a c : Nat) : Ks214.turnOf a c < 4 := by
  unfold Ks214.turnOf
  split <;> split <;> decide

section turns
variable {ns : List Int} {b : Int} {out : List Int} {k : Bool} {t p l g : Int} {rest : List Int}

theorem turn_start_bad {a c d : Int} (T : Told ns b out k t p l g) (h0 : 0 ≤ b) (e : ns.drop b.toNat = 0 :: a :: c :: d :: rest) (h : 1 < a ∨ 1 < c ∨ d < -1073741824 ∨ 1073741824 < d) :
    Told ns (b + 4) (out ++ [1, -22]) k t p l g := by
  refine told_more (ans := [-22]) T (drop_on h0 4 (by rw [e]; rfl)) (is0 e) fun bg s R h1 => ?_
  have hn : Ks214.okStart a.toNat c.toNat d = false := by
    by_cases hd : d < -1073741824 ∨ 1073741824 < d
    · simp only [Ks214.okStart, no_place hd, Bool.and_false]
    · have : ¬ (a.toNat ≤ 1 ∧ c.toNat ≤ 1) := by omega
      simp only [Ks214.okStart, Bool.and_eq_false_iff, decide_eq_false_iff_not]
      exact .inl (Decidable.not_and_iff_or_not.mp this)
  rw [step0, hn]
  refine ⟨rfl, fun h2 => R ?_⟩
  simpa using h2

theorem turn_start {a c d t' : Int} (T : Told ns b out k t p l g) (h0 : 0 ≤ b) (e : ns.drop b.toNat = 0 :: a :: c :: d :: rest) (ht : t' = tn a c) (ha0 : 0 ≤ a) (ha : a ≤ 1) (hc0 : 0 ≤ c) (hc : c ≤ 1) (hd : -1073741824 ≤ d) (hd2 : d ≤ 1073741824) :
    Told ns (b + 4) (out ++ [1, 0]) true t' d d d := by
  refine told_more (ans := [0]) T (drop_on h0 4 (by rw [e]; rfl)) (is0 e) fun bg s R h1 => ?_
  have hn : Ks214.okStart a.toNat c.toNat d = true := by
    simp only [Ks214.okStart, is_place hd hd2, Bool.and_true, Bool.and_eq_true, decide_eq_true_eq]
    omega
  rw [step0, hn]
  exact ⟨rfl, fun h2 => ⟨by rw [ht]; exact (tn_eq ha0 hc0).symm, turn_four _ _, rfl, rfl, rfl⟩⟩

theorem turn_where (T : Told ns b out true t p l g) (h0 : 0 ≤ b) (e : ns.drop b.toNat = 2 :: rest) :
    Told ns (b + 1) (out ++ [4, 0, p, l, g]) true t p l g := by
  refine told_more (ans := [0, p, l, g]) T (drop_on h0 1 (by rw [e]; rfl)) (is2 e) fun bg s R h1 => ?_
  have hb : bg = true := by simpa [Ks214Neutral.num, Ks214Neutral.at_] using h1
  have R := R hb
  rw [step2, R.known]
  refine ⟨?_, fun _ => R⟩
  rw [R.least, R.most]
  rfl

theorem turn_where_not (T : Told ns b out false t p l g) (h0 : 0 ≤ b) (e : ns.drop b.toNat = 2 :: rest) :
    Told ns (b + 1) (out ++ [1, -5]) false t p l g := by
  refine told_more (ans := [-5]) T (drop_on h0 1 (by rw [e]; rfl)) (is2 e) fun bg s R h1 => ?_
  have hb : bg = true := by simpa [Ks214Neutral.num, Ks214Neutral.at_] using h1
  have R := R hb
  rw [step2, R.known]
  exact ⟨rfl, fun _ => R⟩

theorem turn_sig_bad {a c : Int} (T : Told ns b out k t p l g) (h0 : 0 ≤ b) (e : ns.drop b.toNat = 1 :: a :: c :: rest) (h : 1 < a ∨ 1 < c) :
    Told ns (b + 3) (out ++ [1, -22]) k t p l g := by
  refine told_more (ans := [-22]) T (drop_on h0 3 (by rw [e]; rfl)) (is1 e) fun bg s R h1 => ?_
  have hb : bg = true := by simpa [Ks214Neutral.num, Ks214Neutral.at_] using h1
  have R := R hb
  rw [step1_bad s h]
  exact ⟨rfl, fun _ => R⟩

theorem turn_sig_not {a c : Int} (T : Told ns b out false t p l g) (h0 : 0 ≤ b) (e : ns.drop b.toNat = 1 :: a :: c :: rest) (ha : a ≤ 1) (hc : c ≤ 1) :
    Told ns (b + 3) (out ++ [1, -5]) false t p l g := by
  refine told_more (ans := [-5]) T (drop_on h0 3 (by rw [e]; rfl)) (is1 e) fun bg s R h1 => ?_
  have hb : bg = true := by simpa [Ks214Neutral.num, Ks214Neutral.at_] using h1
  have R := R hb
  rw [step1 s ha hc]
  have hs : s.signals a.toNat c.toNat = (s, none) := by
    simp only [Ks214.Abs.signals, R.known]
    rfl
  rw [hs]
  exact ⟨rfl, fun _ => R⟩

theorem fm (x : Int) : Int.fmod x 4 = x % 4 := Int.fmod_eq_emod_of_nonneg _ (by decide)

/-- how far the turns are apart -/
theorem apart {s : Ks214.Abs} {a c : Int} (R : Rel s true t p l g) (ha : 0 ≤ a) (hc : 0 ≤ c) : (((Ks214.turnOf a.toNat c.toNat + 4 - s.turn) % 4 : Nat) : Int) = Int.fmod (tn a c - t) 4 := by
  rw [fm, ← tn_eq ha hc, R.turn]
  have := R.four
  have := turn_four a.toNat c.toNat
  omega

theorem turn_sig_same {a c : Int} (T : Told ns b out true t p l g) (h0 : 0 ≤ b) (e : ns.drop b.toNat = 1 :: a :: c :: rest) (ha0 : 0 ≤ a) (ha : a ≤ 1) (hc0 : 0 ≤ c) (hc : c ≤ 1) (h : Int.fmod (tn a c - t) 4 = 0) :
    Told ns (b + 3) (out ++ [1, 0]) true t p l g := by
  refine told_more (ans := [0]) T (drop_on h0 3 (by rw [e]; rfl)) (is1 e) fun bg s R h1 => ?_
  have hb : bg = true := by simpa [Ks214Neutral.num, Ks214Neutral.at_] using h1
  have R := R hb
  rw [step1 s ha hc]
  have hd := apart R ha0 hc0
  rw [h] at hd
  have hs : s.signals a.toNat c.toNat = (s, some 0) := by
    simp only [Ks214.Abs.signals, R.known, if_true]
    rw [if_pos (by omega)]
  rw [hs]
  exact ⟨rfl, fun _ => R⟩

theorem turn_sig_lost {a c : Int} (T : Told ns b out true t p l g) (h0 : 0 ≤ b) (e : ns.drop b.toNat = 1 :: a :: c :: rest) (ha0 : 0 ≤ a) (ha : a ≤ 1) (hc0 : 0 ≤ c) (hc : c ≤ 1) (h1 : Int.fmod (tn a c - t) 4 ≠ 0) (h2 : Int.fmod (tn a c - t) 4 ≠ 1) (h3 : Int.fmod (tn a c - t) 4 ≠ 3) :
    Told ns (b + 3) (out ++ [1, -5]) false t p l g := by
  refine told_more (ans := [-5]) T (drop_on h0 3 (by rw [e]; rfl)) (is1 e) fun bg s R hh => ?_
  have hb : bg = true := by simpa [Ks214Neutral.num, Ks214Neutral.at_] using hh
  have R := R hb
  rw [step1 s ha hc]
  have hd := apart R ha0 hc0
  have hs : s.signals a.toNat c.toNat = ({ s with at_ := none }, none) := by
    simp only [Ks214.Abs.signals, R.known, if_true]
    rw [if_neg (by omega), if_neg (by omega), if_neg (by omega)]
  rw [hs]
  exact ⟨rfl, fun _ => ⟨R.turn, R.four, rfl, R.least, R.most⟩⟩

theorem turn_sig_on {a c t' : Int} (T : Told ns b out true t p l g) (h0 : 0 ≤ b) (e : ns.drop b.toNat = 1 :: a :: c :: rest) (ht : t' = tn a c) (ha0 : 0 ≤ a) (ha : a ≤ 1) (hc0 : 0 ≤ c) (hc : c ≤ 1) (h1 : Int.fmod (tn a c - t) 4 = 1) (hp : -1073741824 ≤ p + 1) (hp2 : p + 1 ≤ 1073741824) :
    Told ns (b + 3) (out ++ [1, 1]) true t' (p + 1) (min l (p + 1)) (max g (p + 1)) := by
  refine told_more (ans := [1]) T (drop_on h0 3 (by rw [e]; rfl)) (is1 e) fun bg s R hh => ?_
  have hb : bg = true := by simpa [Ks214Neutral.num, Ks214Neutral.at_] using hh
  have R := R hb
  rw [step1 s ha hc]
  have hd := apart R ha0 hc0
  have hs : s.signals a.toNat c.toNat = (⟨Ks214.turnOf a.toNat c.toNat, some (p + 1), min s.least (p + 1), max s.most (p + 1)⟩, some 1) := by
    simp only [Ks214.Abs.signals, R.known, if_true, Ks214.Abs.to, is_place hp hp2]
    rw [if_neg (by omega), if_pos (by omega)]
    rfl
  rw [hs]
  exact ⟨rfl, fun _ => ⟨by rw [ht]; exact (tn_eq ha0 hc0).symm, turn_four _ _, rfl, by rw [R.least], by rw [R.most]⟩⟩
theorem turn_sig_back {a c t' : Int} (T : Told ns b out true t p l g) (h0 : 0 ≤ b) (e : ns.drop b.toNat = 1 :: a :: c :: rest) (ht : t' = tn a c) (ha0 : 0 ≤ a) (ha : a ≤ 1) (hc0 : 0 ≤ c) (hc : c ≤ 1) (h1 : Int.fmod (tn a c - t) 4 = 3) (hp : -1073741824 ≤ p - 1) (hp2 : p - 1 ≤ 1073741824) :
    Told ns (b + 3) (out ++ [1, 2]) true t' (p - 1) (min l (p - 1)) (max g (p - 1)) := by
  refine told_more (ans := [2]) T (drop_on h0 3 (by rw [e]; rfl)) (is1 e) fun bg s R hh => ?_
  have hb : bg = true := by simpa [Ks214Neutral.num, Ks214Neutral.at_] using hh
  have R := R hb
  rw [step1 s ha hc]
  have hd := apart R ha0 hc0
  have hs : s.signals a.toNat c.toNat = (⟨Ks214.turnOf a.toNat c.toNat, some (p - 1), min s.least (p - 1), max s.most (p - 1)⟩, some 2) := by
    simp only [Ks214.Abs.signals, R.known, if_true, Ks214.Abs.to, is_place hp hp2]
    rw [if_neg (by omega), if_neg (by omega), if_pos (by omega)]
    rfl
  rw [hs]
  exact ⟨rfl, fun _ => ⟨by rw [ht]; exact (tn_eq ha0 hc0).symm, turn_four _ _, rfl, by rw [R.least], by rw [R.most]⟩⟩
theorem turn_sig_on_lost {a c : Int} (T : Told ns b out true t p l g) (h0 : 0 ≤ b) (e : ns.drop b.toNat = 1 :: a :: c :: rest) (ha0 : 0 ≤ a) (ha : a ≤ 1) (hc0 : 0 ≤ c) (hc : c ≤ 1) (h1 : Int.fmod (tn a c - t) 4 = 1) (hp : p + 1 < -1073741824 ∨ 1073741824 < p + 1) :
    Told ns (b + 3) (out ++ [1, -5]) false t p l g := by
  refine told_more (ans := [-5]) T (drop_on h0 3 (by rw [e]; rfl)) (is1 e) fun bg s R hh => ?_
  have hb : bg = true := by simpa [Ks214Neutral.num, Ks214Neutral.at_] using hh
  have R := R hb
  rw [step1 s ha hc]
  have hd := apart R ha0 hc0
  have hs : s.signals a.toNat c.toNat = ({ s with at_ := none }, none) := by
    simp only [Ks214.Abs.signals, R.known, if_true, Ks214.Abs.to, no_place hp]
    rw [if_neg (by omega), if_pos (by omega)]
    rfl
  rw [hs]
  exact ⟨rfl, fun _ => ⟨R.turn, R.four, rfl, R.least, R.most⟩⟩
theorem turn_sig_back_lost {a c : Int} (T : Told ns b out true t p l g) (h0 : 0 ≤ b) (e : ns.drop b.toNat = 1 :: a :: c :: rest) (ha0 : 0 ≤ a) (ha : a ≤ 1) (hc0 : 0 ≤ c) (hc : c ≤ 1) (h1 : Int.fmod (tn a c - t) 4 = 3) (hp : p - 1 < -1073741824 ∨ 1073741824 < p - 1) :
    Told ns (b + 3) (out ++ [1, -5]) false t p l g := by
  refine told_more (ans := [-5]) T (drop_on h0 3 (by rw [e]; rfl)) (is1 e) fun bg s R hh => ?_
  have hb : bg = true := by simpa [Ks214Neutral.num, Ks214Neutral.at_] using hh
  have R := R hb
  rw [step1 s ha hc]
  have hd := apart R ha0 hc0
  have hs : s.signals a.toNat c.toNat = ({ s with at_ := none }, none) := by
    simp only [Ks214.Abs.signals, R.known, if_true, Ks214.Abs.to, no_place hp]
    rw [if_neg (by omega), if_neg (by omega), if_pos (by omega)]
    rfl
  rw [hs]
  exact ⟨rfl, fun _ => ⟨R.turn, R.four, rfl, R.least, R.most⟩⟩
end turns
end mathematics
end My
namespace My
section words
variable {ns : List Int} {b : Int} {out : List Int} {k : Bool} {t p l g : Int} {rest : List Int} {a c d x : Int}

/-- the def are_signals -/
def sigs (a c : Int) : Bool := if a ≤ 1 then decide (c ≤ 1) else decide (a ≤ 1)
/-- the def is_place -/
def plcs (d : Int) : Bool := if -1073741824 ≤ d then decide (d ≤ 1073741824) else decide (-1073741824 ≤ d)
/-- two signals, as the walk tells the test -/
abbrev Sig (a c : Int) (v : Bool) : Prop := sigs a c = v
/-- a place, as the walk tells the test -/
abbrev Plc (d : Int) (v : Bool) : Prop := plcs d = v

theorem sig_yes (h : Sig a c true) : a ≤ 1 ∧ c ≤ 1 := by
  by_cases ha : a ≤ 1
  · rw [Sig, sigs, if_pos ha] at h
    exact ⟨ha, of_decide_eq_true h⟩
  · rw [Sig, sigs, if_neg ha] at h
    exact absurd (of_decide_eq_true h) ha
theorem sig_no (h : Sig a c false) : 1 < a ∨ 1 < c := by
  by_cases ha : a ≤ 1
  · rw [Sig, sigs, if_pos ha] at h
    have := of_decide_eq_false h
    omega
  · omega
theorem plc_yes (h : Plc d true) : -1073741824 ≤ d ∧ d ≤ 1073741824 := by
  by_cases ha : -1073741824 ≤ d
  · rw [Plc, plcs, if_pos ha] at h
    exact ⟨ha, of_decide_eq_true h⟩
  · rw [Plc, plcs, if_neg ha] at h
    exact absurd (of_decide_eq_true h) ha
theorem plc_no (h : Plc d false) : d < -1073741824 ∨ 1073741824 < d := by
  by_cases ha : -1073741824 ≤ d
  · rw [Plc, plcs, if_pos ha] at h
    have := of_decide_eq_false h
    omega
  · omega

/-- the loop's word -/
abbrev W (ns : List Int) (b : Int) (out : List Int) (k : Bool) (t p l g : Int) : Prop := 0 ≤ b ∧ b ≤ (ns.length : Int) ∧ (out.length : Int) ≤ 5 * b ∧ Told ns b out k t p l g

theorem w_of {j : Int} {ms : List Int} {k' : Bool} {t' p' l' g' : Int} (h0 : 0 ≤ b) (hl : (out.length : Int) ≤ 5 * b) (hj : 0 ≤ j) (hb : b + j ≤ (ns.length : Int)) (hm : (ms.length : Int) ≤ 5 * j) (T : Told ns (b + j) (out ++ ms) k' t' p' l' g') : W ns (b + j) (out ++ ms) k' t' p' l' g' :=
  ⟨by omega, hb, by rw [List.length_append]; omega, T⟩

theorem w0_sig (T : Told ns b out k t p l g) (e : ns.drop b.toNat = 0 :: a :: c :: d :: rest) (h : Sig a c false) (hb : b + 4 ≤ (ns.length : Int)) (h0 : 0 ≤ b) (hl : (out.length : Int) ≤ 5 * b) : W ns (b + 4) (out ++ [1, -22]) k t p l g := by
  refine w_of h0 hl (by decide) hb (by decide) (turn_start_bad T h0 e ?_)
  have := sig_no h
  omega
theorem w0_plc (T : Told ns b out k t p l g) (e : ns.drop b.toNat = 0 :: a :: c :: d :: rest) (h : Plc d false) (hb : b + 4 ≤ (ns.length : Int)) (h0 : 0 ≤ b) (hl : (out.length : Int) ≤ 5 * b) : W ns (b + 4) (out ++ [1, -22]) k t p l g := by
  refine w_of h0 hl (by decide) hb (by decide) (turn_start_bad T h0 e ?_)
  have := plc_no h
  omega
theorem w0_ok (T : Told ns b out k t p l g) (e : ns.drop b.toNat = 0 :: a :: c :: d :: rest) (h : Sig a c true) (hp : Plc d true) (hx : x = tn a c) (hb : b + 4 ≤ (ns.length : Int)) (h0 : 0 ≤ b) (hl : (out.length : Int) ≤ 5 * b) (ha : 0 ≤ a) (hc : 0 ≤ c) : W ns (b + 4) (out ++ [1, 0]) true x d d d :=
  w_of h0 hl (by decide) hb (by show (2 : Int) ≤ 5 * 4; decide) (turn_start T h0 e hx ha (sig_yes h).1 hc (sig_yes h).2 (plc_yes hp).1 (plc_yes hp).2)
theorem w2_yes (T : Told ns b out k t p l g) (e : ns.drop b.toNat = 2 :: rest) (hk : k = true) (hb : b + 1 ≤ (ns.length : Int)) (h0 : 0 ≤ b) (hl : (out.length : Int) ≤ 5 * b) : W ns (b + 1) (out ++ [4, 0, p, l, g]) k t p l g := by
  subst hk
  exact w_of h0 hl (by decide) hb (by show (5 : Int) ≤ 5 * 1; decide) (turn_where T h0 e)
theorem w2_no (T : Told ns b out k t p l g) (e : ns.drop b.toNat = 2 :: rest) (hk : k = false) (hb : b + 1 ≤ (ns.length : Int)) (h0 : 0 ≤ b) (hl : (out.length : Int) ≤ 5 * b) : W ns (b + 1) (out ++ [1, -5]) k t p l g := by
  subst hk
  exact w_of h0 hl (by decide) hb (by show (2 : Int) ≤ 5 * 1; decide) (turn_where_not T h0 e)
theorem w1_sig (T : Told ns b out k t p l g) (e : ns.drop b.toNat = 1 :: a :: c :: rest) (h : Sig a c false) (hb : b + 3 ≤ (ns.length : Int)) (h0 : 0 ≤ b) (hl : (out.length : Int) ≤ 5 * b) : W ns (b + 3) (out ++ [1, -22]) k t p l g :=
  w_of h0 hl (by decide) hb (by decide) (turn_sig_bad T h0 e (sig_no h))
theorem w1_no (T : Told ns b out k t p l g) (e : ns.drop b.toNat = 1 :: a :: c :: rest) (h : Sig a c true) (hk : k = false) (hb : b + 3 ≤ (ns.length : Int)) (h0 : 0 ≤ b) (hl : (out.length : Int) ≤ 5 * b) : W ns (b + 3) (out ++ [1, -5]) k t p l g := by
  subst hk
  exact w_of h0 hl (by decide) hb (by decide) (turn_sig_not T h0 e (sig_yes h).1 (sig_yes h).2)
theorem w1_same (T : Told ns b out k t p l g) (e : ns.drop b.toNat = 1 :: a :: c :: rest) (h : Sig a c true) (hk : k = true) (hx : x = tn a c) (hd : Int.fmod (x - t) 4 = 0) (hb : b + 3 ≤ (ns.length : Int)) (h0 : 0 ≤ b) (hl : (out.length : Int) ≤ 5 * b) (ha : 0 ≤ a) (hc : 0 ≤ c) : W ns (b + 3) (out ++ [1, 0]) k t p l g := by
  subst hk hx
  exact w_of h0 hl (by decide) hb (by show (2 : Int) ≤ 5 * 3; decide) (turn_sig_same T h0 e ha (sig_yes h).1 hc (sig_yes h).2 hd)
theorem w1_two (T : Told ns b out k t p l g) (e : ns.drop b.toNat = 1 :: a :: c :: rest) (h : Sig a c true) (hk : k = true) (hx : x = tn a c) (hd0 : Int.fmod (x - t) 4 ≠ 0) (hd1 : Int.fmod (x - t) 4 ≠ 1) (hd3 : Int.fmod (x - t) 4 ≠ 3) (hb : b + 3 ≤ (ns.length : Int)) (h0 : 0 ≤ b) (hl : (out.length : Int) ≤ 5 * b) (ha : 0 ≤ a) (hc : 0 ≤ c) : W ns (b + 3) (out ++ [1, -5]) false t p l g := by
  subst hk hx
  exact w_of h0 hl (by decide) hb (by show (2 : Int) ≤ 5 * 3; decide) (turn_sig_lost T h0 e ha (sig_yes h).1 hc (sig_yes h).2 hd0 hd1 hd3)
theorem min_ite (l p : Int) : (if p < l then p else l) = min l p := by
  split <;> omega
theorem max_ite (g p : Int) : (if p > g then p else g) = max g p := by
  split <;> omega
theorem w1_on (T : Told ns b out k t p l g) (e : ns.drop b.toNat = 1 :: a :: c :: rest) (h : Sig a c true) (hk : k = true) (hx : x = tn a c) (hd : Int.fmod (x - t) 4 = 1) (hp : Plc (p + 1) true) (hb : b + 3 ≤ (ns.length : Int)) (h0 : 0 ≤ b) (hl : (out.length : Int) ≤ 5 * b) (ha : 0 ≤ a) (hc : 0 ≤ c) : W ns (b + 3) (out ++ [1, 1]) k x (p + 1) (if p + 1 < l then p + 1 else l) (if p + 1 > g then p + 1 else g) := by
  subst hk
  rw [min_ite, max_ite]
  exact w_of h0 hl (by decide) hb (by show (2 : Int) ≤ 5 * 3; decide) (turn_sig_on T h0 e hx ha (sig_yes h).1 hc (sig_yes h).2 (hx ▸ hd) (plc_yes hp).1 (plc_yes hp).2)
theorem w1_back (T : Told ns b out k t p l g) (e : ns.drop b.toNat = 1 :: a :: c :: rest) (h : Sig a c true) (hk : k = true) (hx : x = tn a c) (hd : Int.fmod (x - t) 4 = 3) (hp : Plc (p - 1) true) (hb : b + 3 ≤ (ns.length : Int)) (h0 : 0 ≤ b) (hl : (out.length : Int) ≤ 5 * b) (ha : 0 ≤ a) (hc : 0 ≤ c) : W ns (b + 3) (out ++ [1, 2]) k x (p - 1) (if p - 1 < l then p - 1 else l) (if p - 1 > g then p - 1 else g) := by
  subst hk
  rw [min_ite, max_ite]
  exact w_of h0 hl (by decide) hb (by show (2 : Int) ≤ 5 * 3; decide) (turn_sig_back T h0 e hx ha (sig_yes h).1 hc (sig_yes h).2 (hx ▸ hd) (plc_yes hp).1 (plc_yes hp).2)
theorem w1_onlost (T : Told ns b out k t p l g) (e : ns.drop b.toNat = 1 :: a :: c :: rest) (h : Sig a c true) (hk : k = true) (hx : x = tn a c) (hd : Int.fmod (x - t) 4 = 1) (hp : Plc (p + 1) false) (hb : b + 3 ≤ (ns.length : Int)) (h0 : 0 ≤ b) (hl : (out.length : Int) ≤ 5 * b) (ha : 0 ≤ a) (hc : 0 ≤ c) : W ns (b + 3) (out ++ [1, -5]) false t p l g := by
  subst hk hx
  exact w_of h0 hl (by decide) hb (by show (2 : Int) ≤ 5 * 3; decide) (turn_sig_on_lost T h0 e ha (sig_yes h).1 hc (sig_yes h).2 hd (plc_no hp))
theorem w1_backlost (T : Told ns b out k t p l g) (e : ns.drop b.toNat = 1 :: a :: c :: rest) (h : Sig a c true) (hk : k = true) (hx : x = tn a c) (hd : Int.fmod (x - t) 4 = 3) (hp : Plc (p - 1) false) (hb : b + 3 ≤ (ns.length : Int)) (h0 : 0 ≤ b) (hl : (out.length : Int) ≤ 5 * b) (ha : 0 ≤ a) (hc : 0 ≤ c) : W ns (b + 3) (out ++ [1, -5]) false t p l g := by
  subst hk hx
  exact w_of h0 hl (by decide) hb (by show (2 : Int) ≤ 5 * 3; decide) (turn_sig_back_lost T h0 e ha (sig_yes h).1 hc (sig_yes h).2 hd (plc_no hp))
end words
end My
open PySem PySem.W PyProof.Rows
namespace My
theorem w_start {ns : List Int} (h : PySem.Challenge.rw_carriage_s01_answers.pre [ofPy (PyData.list (List.map PyData.int ns))] = true) :
    (0 : Int) ≤ 0 ∧ (0 : Int) ≤ (ns.length : Int) ∧ ((([] : List Int).length : Nat) : Int) ≤ 5 * 0 ∧ Told ns 0 [] false 0 0 0 0 := by
  obtain ⟨e, -, -, -⟩ := os_dec_ints (os_pre_isSome h)
  have h2 : PyKs214.answers_asked ns = true := os_pre_asked h e
  exact ⟨by decide, by omega, by decide, told_start h2 _ _ _ _ _⟩

section
variable {prog : Program} {w : World} {A : Around} {E : Value → Shared → Prop} {s : Shared} {value slice : PySem.Expr} {l : Addr} {vs : List Value} {ns : List Int} {Q : Value → Shared → Prop}

theorem ints_head {vs : List Value} {ns rest : List Int} {x : Int} {n : Nat} (hI : IntsAre vs ns) (e : ns.drop n = x :: rest) : ∃ t, vs[n]? = some (Value.int x t) := by
  refine hI.get n x ?_
  have h := congrArg (fun z : List Int => z[0]?) e
  simpa using h

/-- the number of the next call, a way for each -/
theorem step_item {k : Int} {u : Tok} {out : List Int} {kn : Bool} {t p le g : Int} (hl : s.heap.IsList l vs.toArray) (hI : IntsAre vs ns) (T : Told ns k out kn t p le g) (h0 : 0 ≤ k) (h1 : k < (ns.length : Int)) (h2 : k < 2 ^ 63)
    (q0 : ∀ a c d rest v, ns.drop k.toNat = 0 :: a :: c :: d :: rest → 0 ≤ a → a ≤ 4294967295 → 0 ≤ c → c ≤ 4294967295 → -2147483648 ≤ d → d ≤ 2147483647 → k + 4 ≤ (ns.length : Int) → Q (.int 0 v) s)
    (q1 : ∀ a c rest v, ns.drop k.toNat = 1 :: a :: c :: rest → 0 ≤ a → a ≤ 4294967295 → 0 ≤ c → c ≤ 4294967295 → k + 3 ≤ (ns.length : Int) → Q (.int 1 v) s)
    (q2 : ∀ rest v, ns.drop k.toNat = 2 :: rest → k + 1 ≤ (ns.length : Int) → Q (.int 2 v) s)
    (hs : subscripted slice false (.ref l) (.int k u) = operate [.ref l, .int k u] (getItem (.ref l) (.int k u))) :
    wpAny (model prog w) A (subscriptTail value slice (.ref l) (.int k u)) Q E s := by
  have hlen : ∀ r, ns.drop k.toNat = r → k + r.length = (ns.length : Int) := by
    intro r e
    have := congrArg List.length e
    rw [List.length_drop] at this
    omega
  rcases told_next T h0 h1 with ⟨a, c, d, rest, e, b1, b2, b3, b4, b5, b6⟩ | ⟨a, c, rest, e, b1, b2, b3, b4⟩ | ⟨rest, e⟩
  · obtain ⟨v, hv⟩ := ints_head hI e
    have := hlen _ e
    simp only [List.length_cons] at this
    exact tail_any hl.typeIs slot_list_getitem.lookup (wpAny_getItem_list hl h0 h2 (by simpa using hv) (q0 a c d rest v e b1 b2 b3 b4 b5 b6 (by omega))) hs
  · obtain ⟨v, hv⟩ := ints_head hI e
    have := hlen _ e
    simp only [List.length_cons] at this
    exact tail_any hl.typeIs slot_list_getitem.lookup (wpAny_getItem_list hl h0 h2 (by simpa using hv) (q1 a c rest v e b1 b2 b3 b4 (by omega))) hs
  · obtain ⟨v, hv⟩ := ints_head hI e
    have := hlen _ e
    simp only [List.length_cons] at this
    exact tail_any hl.typeIs slot_list_getitem.lookup (wpAny_getItem_list hl h0 h2 (by simpa using hv) (q2 rest v e (by omega))) hs

variable {h₀ : Heap} {L : Addr} {m : Str → Option Value} {news : List (Addr × Obj)} {vl vu : Value} {x y : Int}

theorem cut_of {ms rest : List Int} (hI : IntsAre vs ns) (h0 : 0 ≤ x) (e : ns.drop x.toNat = ms ++ rest) (ey : y = x + (ms.length : Int)) : IntsAre (slicePick vs.toArray (some x) (some y) none).toList ms := by
  have h := kmk_run hI h0 (show 0 ≤ y by omega)
  rw [e] at h
  have hl := congrArg List.length e
  rw [List.length_drop, List.length_append] at hl
  by_cases hm : ms = []
  · subst hm
    have hz : min y.toNat ns.length - x.toNat = 0 := by
      simp only [List.length_nil] at ey
      omega
    rw [hz, List.take_zero] at h
    exact h
  · have : ms.length ≠ 0 := fun h => hm (List.length_eq_zero_iff.mp h)
    rw [show min y.toNat ns.length - x.toNat = ms.length by omega, List.take_left] at h
    exact h

/-- the next call, cut out: its numbers written -/
theorem step_cut {ms rest : List Int} (F : Fr h₀ L s.heap m) (N : News h₀ L s.heap news) (hl : s.heap.IsList l vs.toArray) (pl : IsPart vl (some x)) (pu : IsPart vu (some y)) (hI : IntsAre vs ns) (h0 : 0 ≤ x) (e : ns.drop x.toNat = ms ++ rest) (ey : y = x + (ms.length : Int))
    (h : ∀ D ws h', IntsAre ws ms → Fr h₀ L h' m → News h₀ L h' ((D, listOf (List.toArray ws) 0) :: news) → (∀ p ∈ news, p.1 < D) → Q (.ref D) { s with heap := h' })
    (hs : subscripted slice false (.ref l) (.ref s.heap.objs.size) = operate [.ref s.heap.objs.size, .ref l] (getItem (.ref l) (.ref s.heap.objs.size))) (ht : ∀ r, letTemporaryGo value (.ref l) r = pure ()) (hz : vs.toArray.size ≤ sizeLine) :
    wpAny (model prog w) A (subscriptTail value slice (.ref l) (.ref s.heap.objs.size)) Q E { s with heap := s.heap.push { cls := .type "slice", data := .fields #[vl, vu, .none] } } :=
  kmk_slice_ints F N hl pl pu hI (cut_of hI h0 e ey) rfl (fun D ws h' F' N' lt hI' _ _ => h D ws h' hI' F' N' lt) hs ht hz

theorem step_cut4 {a b c d : Int} {rest : List Int} (F : Fr h₀ L s.heap m) (N : News h₀ L s.heap news) (hl : s.heap.IsList l vs.toArray) (pl : IsPart vl (some x)) (pu : IsPart vu (some y)) (hI : IntsAre vs ns) (h0 : 0 ≤ x) (e : ns.drop x.toNat = a :: b :: c :: d :: rest) (ey : y = x + 4)
    (h : ∀ D h' t0 t1 t2 t3, Fr h₀ L h' m → News h₀ L h' ((D, listOf #[.int a t0, .int b t1, .int c t2, .int d t3] 0) :: news) → (∀ p ∈ news, p.1 < D) → Q (.ref D) { s with heap := h' })
    (hs : subscripted slice false (.ref l) (.ref s.heap.objs.size) = operate [.ref s.heap.objs.size, .ref l] (getItem (.ref l) (.ref s.heap.objs.size))) (ht : ∀ r, letTemporaryGo value (.ref l) r = pure ()) (hz : vs.toArray.size ≤ sizeLine) :
    wpAny (model prog w) A (subscriptTail value slice (.ref l) (.ref s.heap.objs.size)) Q E { s with heap := s.heap.push { cls := .type "slice", data := .fields #[vl, vu, .none] } } := by
  refine step_cut (ms := [a, b, c, d]) F N hl pl pu hI h0 e ey (fun D ws h' hw F' N' lt => ?_) hs ht hz
  obtain ⟨t0, w0, rfl, hw0⟩ := hw.cons_inv
  obtain ⟨t1, w1, rfl, hw1⟩ := hw0.cons_inv
  obtain ⟨t2, w2, rfl, hw2⟩ := hw1.cons_inv
  obtain ⟨t3, w3, rfl, hw3⟩ := hw2.cons_inv
  obtain rfl := hw3.nil_inv
  exact h D h' t0 t1 t2 t3 F' N' lt
theorem step_cut3 {a b c : Int} {rest : List Int} (F : Fr h₀ L s.heap m) (N : News h₀ L s.heap news) (hl : s.heap.IsList l vs.toArray) (pl : IsPart vl (some x)) (pu : IsPart vu (some y)) (hI : IntsAre vs ns) (h0 : 0 ≤ x) (e : ns.drop x.toNat = a :: b :: c :: rest) (ey : y = x + 3)
    (h : ∀ D h' t0 t1 t2, Fr h₀ L h' m → News h₀ L h' ((D, listOf #[.int a t0, .int b t1, .int c t2] 0) :: news) → (∀ p ∈ news, p.1 < D) → Q (.ref D) { s with heap := h' })
    (hs : subscripted slice false (.ref l) (.ref s.heap.objs.size) = operate [.ref s.heap.objs.size, .ref l] (getItem (.ref l) (.ref s.heap.objs.size))) (ht : ∀ r, letTemporaryGo value (.ref l) r = pure ()) (hz : vs.toArray.size ≤ sizeLine) :
    wpAny (model prog w) A (subscriptTail value slice (.ref l) (.ref s.heap.objs.size)) Q E { s with heap := s.heap.push { cls := .type "slice", data := .fields #[vl, vu, .none] } } := by
  refine step_cut (ms := [a, b, c]) F N hl pl pu hI h0 e ey (fun D ws h' hw F' N' lt => ?_) hs ht hz
  obtain ⟨t0, w0, rfl, hw0⟩ := hw.cons_inv
  obtain ⟨t1, w1, rfl, hw1⟩ := hw0.cons_inv
  obtain ⟨t2, w2, rfl, hw2⟩ := hw1.cons_inv
  obtain rfl := hw2.nil_inv
  exact h D h' t0 t1 t2 F' N' lt
theorem step_cut1 {a : Int} {rest : List Int} (F : Fr h₀ L s.heap m) (N : News h₀ L s.heap news) (hl : s.heap.IsList l vs.toArray) (pl : IsPart vl (some x)) (pu : IsPart vu (some y)) (hI : IntsAre vs ns) (h0 : 0 ≤ x) (e : ns.drop x.toNat = a :: rest) (ey : y = x + 1)
    (h : ∀ D h' t0, Fr h₀ L h' m → News h₀ L h' ((D, listOf #[.int a t0] 0) :: news) → (∀ p ∈ news, p.1 < D) → Q (.ref D) { s with heap := h' })
    (hs : subscripted slice false (.ref l) (.ref s.heap.objs.size) = operate [.ref s.heap.objs.size, .ref l] (getItem (.ref l) (.ref s.heap.objs.size))) (ht : ∀ r, letTemporaryGo value (.ref l) r = pure ()) (hz : vs.toArray.size ≤ sizeLine) :
    wpAny (model prog w) A (subscriptTail value slice (.ref l) (.ref s.heap.objs.size)) Q E { s with heap := s.heap.push { cls := .type "slice", data := .fields #[vl, vu, .none] } } := by
  refine step_cut (ms := [a]) F N hl pl pu hI h0 e ey (fun D ws h' hw F' N' lt => ?_) hs ht hz
  obtain ⟨t0, w0, rfl, hw0⟩ := hw.cons_inv
  obtain rfl := hw0.nil_inv
  exact h D h' t0 F' N' lt
end
end My
namespace My
section
variable {prog : Program} {w : World} {A : Around} {E : Value → Shared → Prop} {s : Shared} {value slice : PySem.Expr} {h₀ : Heap} {L D : Addr} {m : Str → Option Value} {news news' : List (Addr × Obj)} {n : Nat} {k c : Int} {u : Tok} {Q : Value → Shared → Prop}

/-- an item of a list that is written out -/
theorem step_at {its : Array Value} {v : Value} (N : News h₀ L s.heap news) (hm : (D, listOf its n) ∈ news) (hv : its[k.toNat]? = some v) (h0 : 0 ≤ k) (h1 : k < 2 ^ 63) (h : Q v s)
    (hs : subscripted slice false (.ref D) (.int k u) = operate [.ref D, .int k u] (getItem (.ref D) (.int k u))) :
    wpAny (model prog w) A (subscriptTail value slice (.ref D) (.int k u)) Q E s :=
  have hl : s.heap.IsList D its := PySem.IsL.isList (n := n) (N _ hm).1
  tail_any hl.typeIs slot_list_getitem.lookup (wpAny_getItem_list hl h0 h1 hv h) hs

theorem step_at0 {v : Value} {vs : List Value} (N : News h₀ L s.heap news) (hm : (D, listOf (List.toArray (v :: vs)) n) ∈ news) (h : Q v s)
    (hs : subscripted slice false (.ref D) (.int 0 u) = operate [.ref D, .int 0 u] (getItem (.ref D) (.int 0 u))) :
    wpAny (model prog w) A (subscriptTail value slice (.ref D) (.int 0 u)) Q E s := step_at N hm rfl (by decide) (by decide) h hs
theorem step_at1 {v0 v : Value} {vs : List Value} (N : News h₀ L s.heap news) (hm : (D, listOf (List.toArray (v0 :: v :: vs)) n) ∈ news) (h : Q v s)
    (hs : subscripted slice false (.ref D) (.int 1 u) = operate [.ref D, .int 1 u] (getItem (.ref D) (.int 1 u))) :
    wpAny (model prog w) A (subscriptTail value slice (.ref D) (.int 1 u)) Q E s := step_at N hm rfl (by decide) (by decide) h hs
theorem step_at2 {v0 v1 v : Value} {vs : List Value} (N : News h₀ L s.heap news) (hm : (D, listOf (List.toArray (v0 :: v1 :: v :: vs)) n) ∈ news) (h : Q v s)
    (hs : subscripted slice false (.ref D) (.int 2 u) = operate [.ref D, .int 2 u] (getItem (.ref D) (.int 2 u))) :
    wpAny (model prog w) A (subscriptTail value slice (.ref D) (.int 2 u)) Q E s := step_at N hm rfl (by decide) (by decide) h hs
theorem step_at3 {v0 v1 v2 v : Value} {vs : List Value} (N : News h₀ L s.heap news) (hm : (D, listOf (List.toArray (v0 :: v1 :: v2 :: v :: vs)) n) ∈ news) (h : Q v s)
    (hs : subscripted slice false (.ref D) (.int 3 u) = operate [.ref D, .int 3 u] (getItem (.ref D) (.int 3 u))) :
    wpAny (model prog w) A (subscriptTail value slice (.ref D) (.int 3 u)) Q E s := step_at N hm rfl (by decide) (by decide) h hs
/-- the row of the table of turns that the first signal picks -/
structure Row (h : Heap) (k : Int) (r : Addr) : Prop where
  is : (k = 0 ∧ ∃ t0 t1, IsTup h r #[.int 0 t0, .int 1 t1]) ∨ (k = 1 ∧ ∃ t0 t1, IsTup h r #[.int 3 t0, .int 2 t1])

theorem step_row {K : Frag} {T r0 r1 : Addr} {nT n0 n1 : Nat} {dT d0 d1 : Option Addr} {sT s0 s1 : Array (Option Value)} {t00 t01 t10 t11 : Tok} (F : Fr h₀ L s.heap m) (X : K.In h₀)
    (hT : K.lookup T = some ⟨.type "tuple", dT, .seq #[.ref r0, .ref r1] nT, sT⟩) (hr0 : K.lookup r0 = some ⟨.type "tuple", d0, .seq #[.int 0 t00, .int 1 t01] n0, s0⟩) (hr1 : K.lookup r1 = some ⟨.type "tuple", d1, .seq #[.int 3 t10, .int 2 t11] n1, s1⟩)
    (hk : 0 ≤ k) (hc : Sig k c true) (h : ∀ r, Row s.heap k r → Q (.ref r) s)
    (hs : subscripted slice false (.ref T) (.int k u) = operate [.ref T, .int k u] (getItem (.ref T) (.int k u))) :
    wpAny (model prog w) A (subscriptTail value slice (.ref T) (.int k u)) Q E s := by
  have h1 := (sig_yes hc).1
  have X' := X.keeps F.keep
  rcases (show k = 0 ∨ k = 1 by omega) with rfl | rfl
  · exact item_tupleT (tupK X' hT) (by omega) (by omega) rfl rfl (h r0 ⟨.inl ⟨rfl, _, _, tupK X' hr0⟩⟩) hs
  · exact item_tupleT (tupK X' hT) (by omega) (by omega) rfl rfl (h r1 ⟨.inr ⟨rfl, _, _, tupK X' hr1⟩⟩) hs

/-- the turn, a letter -/
theorem step_turn {r : Addr} (R : Row s.heap k r) (hc : Sig k c true) (hc0 : 0 ≤ c) (h : ∀ x t, x = tn k c → 0 ≤ x → x ≤ 3 → Q (.int x t) s)
    (hs : subscripted slice false (.ref r) (.int c u) = operate [.ref r, .int c u] (getItem (.ref r) (.int c u))) :
    wpAny (model prog w) A (subscriptTail value slice (.ref r) (.int c u)) Q E s := by
  have h1 := (sig_yes hc).2
  rcases R.is with ⟨rfl, t0, t1, hr⟩ | ⟨rfl, t0, t1, hr⟩
  · rcases (show c = 0 ∨ c = 1 by omega) with rfl | rfl
    · exact item_tupleT hr (by omega) (by omega) rfl rfl (h 0 t0 rfl (by decide) (by decide)) hs
    · exact item_tupleT hr (by omega) (by omega) rfl rfl (h 1 t1 rfl (by decide) (by decide)) hs
  · rcases (show c = 0 ∨ c = 1 by omega) with rfl | rfl
    · exact item_tupleT hr (by omega) (by omega) rfl rfl (h 3 t0 rfl (by decide) (by decide)) hs
    · exact item_tupleT hr (by omega) (by omega) rfl rfl (h 2 t1 rfl (by decide) (by decide)) hs

/-- one number appended, then a written list behind it -/
theorem step_extend {b : Addr} {vs ws : List Value} {n2 : Nat} {ns ms : List Int} {n0 : Int} {t0 : Tok} (F : Fr h₀ L s.heap m) (N : News h₀ L s.heap news) (hb : (b, listOf ws.toArray n2) ∈ news)
    (U : Upd D (listOf (vs.toArray.push (.int n0 t0)) n) (listOf (vs ++ (.int n0 t0 :: ws)).toArray (n + 1)) news news') (hI : IntsAre vs ns) (hJ : IntsAre ws ms) (hne : ms.length ≠ 0) (hz : ns.length + 1 + ms.length ≤ 16777216)
    (h : ∀ h', Fr h₀ L h' m → News h₀ L h' news' → IntsAre (vs ++ (.int n0 t0 :: ws)) (ns ++ (n0 :: ms)) → Q .none { s with heap := h' }) :
    wpAny (model prog w) A (call (.builtin "list.extend") [.ref D, .ref b]) Q E s := by
  have hl := hI.length
  have hj := hJ.length
  have hsz : (vs.toArray.push (.int n0 t0)).size + ws.toArray.size ≤ sizeLine := by
    rw [Array.size_push, List.size_toArray, List.size_toArray, hl, hj, sizeLine_eq]
    omega
  refine kl_extend F N hb (l := vs ++ (.int n0 t0 :: ws)) (by simp) (by simp only; rw [hj]; exact hne) U (extend_door hsz) ?_ (by omega) fun h' F' N' => h h' F' N' (hI.append (.cons _ _ hJ))
  rw [Array.length_toList]
  omega
end
end My
local macro_rules | `(tactic| walk_at "subscriptTail Name Name ref int") => `(tactic| (k_here; (with_reducible show wpAny _ _ (subscriptTail _ _ (Value.ref _) (Value.int _ _)) _ _ _); k_dflt (refine' My.step_item ?l ?i ?T ?a ?b ?c ?_ ?_ ?_ ?s; (case l => is_list); (case i => l_ints); (case T => assumption); (case a => omega); (case b => omega); (case c => omega); (case s => with_unfolding_all rfl); (all_goals intros))))
local macro_rules | `(tactic| walk_at "subscriptTail Name Name ref int") => `(tactic| (k_here; (with_reducible show wpAny _ _ (subscriptTail _ _ (Value.ref _) (Value.int _ _)) _ _ _); k_dflt (refine' My.step_row ?F ?X ?T ?r0 ?r1 ?k ?c ?_ ?s; (case F => k_asm); (case X => k_asm); (case T => k_is); (case r0 => k_is); (case r1 => k_is); (case k => assumption); (case c => assumption); (case s => with_unfolding_all rfl); intro r' R')))
local macro_rules | `(tactic| walk_at "subscriptTail Subscript Name Name Name ref int") => `(tactic| (k_here; (with_reducible show wpAny _ _ (subscriptTail _ _ (Value.ref _) (Value.int _ _)) _ _ _); k_dflt (refine' My.step_turn ?R ?c ?k ?_ ?s; (case R => assumption); (case c => assumption); (case k => assumption); (case s => with_unfolding_all rfl); intro x' t' hx' hx0' hx3')))
local macro_rules | `(tactic| walk_at "subscriptTail Name Slice ref ref") => `(tactic| (k_here; (with_reducible show wpAny _ _ (subscriptTail _ (PySem.Expr.Slice _ _ none _) (Value.ref _) (Value.ref _)) _ _ _); k_dflt (first
  | (refine' My.step_cut4 ?F ?N ?l ?p ?q ?i ?o ?e ?y ?_ ?s ?t ?z; (case F => k_asm); (case N => k_asm); (case l => kmk_list); (case p => kmk_part); (case q => kmk_part); (case i => l_ints); (case o => omega); (case e => assumption); (case y => omega); (case s => with_unfolding_all rfl); (case t => kmk_pure); (case z => kmk_size); intro D' h' t0' t1' t2' t3' F' N' l1)
  | (refine' My.step_cut3 ?F ?N ?l ?p ?q ?i ?o ?e ?y ?_ ?s ?t ?z; (case F => k_asm); (case N => k_asm); (case l => kmk_list); (case p => kmk_part); (case q => kmk_part); (case i => l_ints); (case o => omega); (case e => assumption); (case y => omega); (case s => with_unfolding_all rfl); (case t => kmk_pure); (case z => kmk_size); intro D' h' t0' t1' t2' F' N' l1)
  | (refine' My.step_cut1 ?F ?N ?l ?p ?q ?i ?o ?e ?y ?_ ?s ?t ?z; (case F => k_asm); (case N => k_asm); (case l => kmk_list); (case p => kmk_part); (case q => kmk_part); (case i => l_ints); (case o => omega); (case e => assumption); (case y => omega); (case s => with_unfolding_all rfl); (case t => kmk_pure); (case z => kmk_size); intro D' h' t0' F' N' l1)); (try k_lt l1); (try k_sweep)))
local macro_rules | `(tactic| walk_at "subscriptTail Name Constant ref int") => `(tactic| (k_here; (with_reducible show wpAny _ _ (subscriptTail _ _ (Value.ref _) (Value.int 0 _)) _ _ _); k_dflt (refine' My.step_at0 ?N ?m ?_ ?s; (case N => k_asm); (case m => k_mem); (case s => with_unfolding_all rfl); k_whole)))
local macro_rules | `(tactic| walk_at "subscriptTail Name Constant ref int") => `(tactic| (k_here; (with_reducible show wpAny _ _ (subscriptTail _ _ (Value.ref _) (Value.int 1 _)) _ _ _); k_dflt (refine' My.step_at1 ?N ?m ?_ ?s; (case N => k_asm); (case m => k_mem); (case s => with_unfolding_all rfl); k_whole)))
local macro_rules | `(tactic| walk_at "subscriptTail Name Constant ref int") => `(tactic| (k_here; (with_reducible show wpAny _ _ (subscriptTail _ _ (Value.ref _) (Value.int 2 _)) _ _ _); k_dflt (refine' My.step_at2 ?N ?m ?_ ?s; (case N => k_asm); (case m => k_mem); (case s => with_unfolding_all rfl); k_whole)))
local macro_rules | `(tactic| walk_at "subscriptTail Name Constant ref int") => `(tactic| (k_here; (with_reducible show wpAny _ _ (subscriptTail _ _ (Value.ref _) (Value.int 3 _)) _ _ _); k_dflt (refine' My.step_at3 ?N ?m ?_ ?s; (case N => k_asm); (case m => k_mem); (case s => with_unfolding_all rfl); k_whole)))
local macro_rules | `(tactic| walk_at "call builtin:list.extend") => `(tactic| (k_here; (with_reducible show wpAny _ _ (call (Value.builtin _) [Value.ref _, Value.ref _]) _ _ _); k_dflt (refine' My.step_extend ?F ?N ?b ?U ?i ?j ?n ?z ?_; (case F => k_asm); (case N => k_asm); (case b => k_mem); (case U => k_upd); (case i => l_ints); (case j => l_ints); (case n => exact Nat.succ_ne_zero _); (case z => ((simp only [List.length_cons, List.length_nil]); omega)); intro h' F' N' hI'); (try k_sweep)))
local macro_rules | `(tactic| walk_at "eval Call Name cons nil") => `(tactic| (k_here; k_dflt (refine Call_ ?_)))
local macro_rules | `(tactic| walk_at "callWith ref cons nil") => `(tactic| (k_here; (with_reducible show wpAny _ _ (callWith _ (Value.ref _) _ (backTo _ (starEach [] _)) []) _ _ _); k_dflt (refine' callWith_K0 ?k1 ?k2 ?_; (case k1 => (refine' Frag.In.keeps ?kx (Fr.keep ?kf); (case kf => with_reducible assumption); (case kx => with_reducible assumption))); (case k2 => k_is); k_whole)))
set_option maxRecDepth 100000 in
set_option maxHeartbeats 8000000 in
theorem PySem.Challenge.cw_carriage_s01_answers_holds : PySem.Challenge.rw_carriage_s01_answers.Holds := by
  k_with "state" => k_dflt (first
    | exact My.w_start (by assumption)
    | exact My.w0_sig (by assumption) (by assumption) (by assumption) (by omega) (by omega) (by omega)
    | exact My.w0_plc (by assumption) (by assumption) (by assumption) (by omega) (by omega) (by omega)
    | exact My.w0_ok (by assumption) (by assumption) (by assumption) (by assumption) (by assumption) (by omega) (by omega) (by omega) (by omega) (by omega)
    | exact My.w2_yes (by assumption) (by assumption) (by assumption) (by omega) (by omega) (by omega)
    | exact My.w2_no (by assumption) (by assumption) (by assumption) (by omega) (by omega) (by omega)
    | exact My.w1_sig (by assumption) (by assumption) (by assumption) (by omega) (by omega) (by omega)
    | exact My.w1_no (by assumption) (by assumption) (by assumption) (by assumption) (by omega) (by omega) (by omega)
    | exact My.w1_same (by assumption) (by assumption) (by assumption) (by assumption) (by assumption) (by assumption) (by omega) (by omega) (by omega) (by omega) (by omega)
    | exact My.w1_two (by assumption) (by assumption) (by assumption) (by assumption) (by assumption) (by assumption) (by assumption) (by assumption) (by omega) (by omega) (by omega) (by omega) (by omega)
    | exact My.w1_on (by assumption) (by assumption) (by assumption) (by assumption) (by assumption) (by assumption) (by assumption) (by omega) (by omega) (by omega) (by omega) (by omega)
    | exact My.w1_back (by assumption) (by assumption) (by assumption) (by assumption) (by assumption) (by assumption) (by assumption) (by omega) (by omega) (by omega) (by omega) (by omega)
    | exact My.w1_onlost (by assumption) (by assumption) (by assumption) (by assumption) (by assumption) (by assumption) (by assumption) (by omega) (by omega) (by omega) (by omega) (by omega)
    | exact My.w1_backlost (by assumption) (by assumption) (by assumption) (by assumption) (by assumption) (by assumption) (by assumption) (by omega) (by omega) (by omega) (by omega) (by omega))
  k_with "tree" => simp only [My.sigs, My.plcs]
  k_with "call ref" => k_call_by "are_signals" My.sigs
  k_with "call ref" => k_call_by "is_place" My.plcs
  k_with "exec While Compare cons nil" => k_while (fun ns b out k t p l g => 0 ≤ b ∧ b ≤ (ns.length : Int) ∧ (out.length : Int) ≤ 5 * b ∧ My.Told ns b out k t p l g) (fun ns b _ _ _ _ _ _ => ns.length - b.toNat) "begin" "given" "car.known" "car.turn" "car.place" "car.least" "car.greatest"
  open_ks with [.list [.int 0, .int 0, .int 0, .int 0]]
  os_ints
  refine os_same_list ?_
  exact congrArg (List.map PyData.int) (My.told_end (by assumption) (by assumption))
#print axioms PySem.Challenge.cw_carriage_s01_answers_holds
