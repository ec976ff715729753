/- What a run is: plain functions on lists, and what is so of every run. What is so of every run, plainly: with more steps it goes on; more input; what it comes to. errors.Is where both are sentinels of errors.New's make: the same one, or two different ones; and codeOf over the three. -/
import Derived.Test.YtnlcdecokpdkpaaDoorRunOp
import Derived.Test.YtnlcdecokpdkpaaDoorChecked
import Derived.Test.YtnlcdecokpdkpaaDoorBase
import Derived.WalkKit
import Derived.LaidEql
import Derived.Stop.Asserts
import Derived.RowKitTokens
namespace Go.Proofs.YtnlcdecokpdkpaaDoor

def st0 : St := ⟨0, 0, 0, 0, 0, 0, 0, []⟩

def valR (vs : List Int) (v n : Int) : Int := if v = -1 then n else vs.getD v.toNat 0

/-- Whether a step is the end, and how it is told. -/
def stopR (s : St) (inp : List Int) : Option Nat := if s.kind = 7 then some 0 else if s.kind = 3 ∧ inp = [] then some 2 else none

def varsR (s : St) (vs inp : List Int) : List Int :=
  if s.kind = 1 then vs.set s.dst.toNat (opR s.op (valR vs s.av s.an) (valR vs s.bv s.bn))
  else if s.kind = 2 then vs.set s.dst.toNat (valR vs s.av s.an)
  else if s.kind = 3 then vs.set s.dst.toNat (inp.headD 0)
  else vs

def inR (s : St) (inp : List Int) : List Int := if s.kind = 3 then inp.tail else inp

def outsR (s : St) (vs outs : List Int) : List Int := if s.kind = 4 then outs ++ [valR vs s.av s.an] else outs

def nextR (s : St) (vs : List Int) : Nat := if s.kind = 5 ∧ valR vs s.av s.an = 0 then (s.next.getD 1 0).toNat else (s.next.getD 0 0).toNat

structure Res where
  code : Nat
  outs : List Int
  path : List Int

def runR (ss : List St) : Nat → Nat → List Int → List Int → List Int → List Int → Res
  | 0, _, _, _, outs, path => ⟨1, outs, path⟩
  | n + 1, i, vs, inp, outs, path =>
    match stopR (ss.getD i st0) inp with
    | some c => ⟨c, outs, path ++ [(i : Int)]⟩
    | none => runR ss n (nextR (ss.getD i st0) vs) (varsR (ss.getD i st0) vs inp) (inR (ss.getD i st0) inp) (outsR (ss.getD i st0) vs outs) (path ++ [(i : Int)])

def inAll (zs : List Int) : Bool := zs.all (fun x => inB x 0 65535)

def vars0 : List Int := List.replicate 12 0

def canB (ss : List St) (inp : List Int) (most : Int) : Bool := okB ss && inB most 0 600 && inAll inp

def runOfR (ss : List St) (inp : List Int) (most : Int) : Res := if canB ss inp most then runR ss most.toNat 0 vars0 inp [] [] else ⟨9, [], []⟩

theorem runR_stop {ss : List St} {n i c : Nat} {vs inp outs path : List Int} (h : stopR (ss.getD i st0) inp = some c) : runR ss (n + 1) i vs inp outs path = ⟨c, outs, path ++ [(i : Int)]⟩ := by
  simp only [runR, h]

theorem runR_go {ss : List St} {n i : Nat} {vs inp outs path : List Int} (h : stopR (ss.getD i st0) inp = none) :
    runR ss (n + 1) i vs inp outs path = runR ss n (nextR (ss.getD i st0) vs) (varsR (ss.getD i st0) vs inp) (inR (ss.getD i st0) inp) (outsR (ss.getD i st0) vs outs) (path ++ [(i : Int)]) := by
  simp only [runR, h]

theorem length_varsR (s : St) (vs inp : List Int) : (varsR s vs inp).length = vs.length := by
  unfold varsR
  split
  · simp
  · split
    · simp
    · split <;> simp

/-- The steps of a program that is ok. -/
theorem ok_at {ss : List St} (h : okB ss = true) {i : Nat} (hi : i < ss.length) : stepB (ss.getD i st0) ss.length = true := by
  simp only [okB, Bool.and_eq_true, List.all_eq_true] at h
  have := h.2 ss[i] (List.getElem_mem hi)
  simpa [List.getD, List.getElem?_eq_getElem hi] using this

theorem run_next {s : St} {n : Nat} (h : stepB s n = true) (h7 : s.kind ≠ 7) :
    0 < s.next.length ∧ (s.kind = 5 → 1 < s.next.length) ∧ ∀ k, k < s.next.length → 0 ≤ s.next.getD k 0 ∧ s.next.getD k 0 < n := by
  simp only [stepB, Bool.and_eq_true, decide_eq_true_eq, List.all_eq_true] at h
  obtain ⟨⟨h1, h2⟩, _⟩ := h
  have hk := many_cases (k := s.kind) (by omega)
  refine ⟨?_, fun h5 => ?_, fun k hk => ?_⟩
  · unfold many at h1
    split at h1
    · omega
    · split at h1 <;> omega
  · rw [h5] at h1
    simp [many] at h1
    omega
  · have := h2 s.next[k] (List.getElem_mem hk)
    simp only [inB, Bool.and_eq_true, decide_eq_true_eq] at this
    simp only [List.getD, List.getElem?_eq_getElem hk, Option.getD_some]
    omega

theorem next_lt {ss : List St} (h : okB ss = true) {i : Nat} (hi : i < ss.length) (h7 : (ss.getD i st0).kind ≠ 7) (vs : List Int) : nextR (ss.getD i st0) vs < ss.length := by
  obtain ⟨h1, h2, h3⟩ := run_next (ok_at h hi) h7
  unfold nextR
  split
  · next hc =>
    have := h3 1 (h2 hc.1)
    omega
  · have := h3 0 h1
    omega

theorem stop_none {s : St} {inp : List Int} (h : stopR s inp = none) : s.kind ≠ 7 := by
  unfold stopR at h
  split at h
  · cases h
  · assumption

/-- What is told grows: what was there stays ahead. -/
theorem runR_pre (ss : List St) : ∀ (n i : Nat) (vs inp outs path : List Int), ∃ O P, runR ss n i vs inp outs path = ⟨(runR ss n i vs inp [] []).code, outs ++ O, path ++ P⟩ ∧ runR ss n i vs inp [] [] = ⟨(runR ss n i vs inp [] []).code, O, P⟩ := by
  intro n
  induction n with
  | zero => intro i vs inp outs path; exact ⟨[], [], by simp [runR], by simp [runR]⟩
  | succ n ih =>
    intro i vs inp outs path
    cases hs : stopR (ss.getD i st0) inp with
    | some c => exact ⟨[], [(i : Int)], by simp [runR_stop hs], by simp [runR_stop hs]⟩
    | none =>
      rw [runR_go hs, runR_go hs]
      obtain ⟨O1, P1, e1, f1⟩ := ih (nextR (ss.getD i st0) vs) (varsR (ss.getD i st0) vs inp) (inR (ss.getD i st0) inp) (outsR (ss.getD i st0) vs outs) (path ++ [(i : Int)])
      obtain ⟨O2, P2, e2, f2⟩ := ih (nextR (ss.getD i st0) vs) (varsR (ss.getD i st0) vs inp) (inR (ss.getD i st0) inp) (outsR (ss.getD i st0) vs []) ([] ++ [(i : Int)])
      rw [f1] at f2
      injection f2 with _ g1 g2
      subst g1 g2
      rw [e1, e2]
      refine ⟨outsR (ss.getD i st0) vs [] ++ O1, [(i : Int)] ++ P1, ?_, by simp⟩
      simp only [Res.mk.injEq, true_and]
      refine ⟨?_, by simp⟩
      unfold outsR
      split <;> simp

theorem run_len (ss : List St) : ∀ (n i : Nat) (vs inp outs path : List Int), (runR ss n i vs inp outs path).path.length ≤ path.length + n ∧ (runR ss n i vs inp outs path).outs.length ≤ outs.length + n := by
  intro n
  induction n with
  | zero => intro i vs inp outs path; simp [runR]
  | succ n ih =>
    intro i vs inp outs path
    cases hs : stopR (ss.getD i st0) inp with
    | some c => rw [runR_stop hs]; simp
    | none =>
      rw [runR_go hs]
      have := ih (nextR (ss.getD i st0) vs) (varsR (ss.getD i st0) vs inp) (inR (ss.getD i st0) inp) (outsR (ss.getD i st0) vs outs) (path ++ [(i : Int)])
      simp only [List.length_append, List.length_cons, List.length_nil] at this
      have ho : (outsR (ss.getD i st0) vs outs).length ≤ outs.length + 1 := by unfold outsR; split <;> simp
      omega
end Go.Proofs.YtnlcdecokpdkpaaDoor
namespace Go.Proofs.YtnlcdecokpdkpaaDoor

theorem stop_code {s : St} {inp : List Int} {c : Nat} (h : stopR s inp = some c) : c = 0 ∨ c = 2 := by
  unfold stopR at h
  split at h
  · injection h with h; exact Or.inl h.symm
  · split at h
    · injection h with h; exact Or.inr h.symm
    · cases h

theorem runR_more (ss : List St) (k : Nat) : ∀ (n i : Nat) (vs inp outs path : List Int), (runR ss n i vs inp outs path).code ≠ 1 → runR ss (n + k) i vs inp outs path = runR ss n i vs inp outs path := by
  intro n
  induction n with
  | zero => intro i vs inp outs path h; exact absurd rfl h
  | succ n ih =>
    intro i vs inp outs path h
    rw [show n + 1 + k = (n + k) + 1 by omega]
    cases hs : stopR (ss.getD i st0) inp with
    | some c => rw [runR_stop hs, runR_stop hs]
    | none =>
      rw [runR_go hs] at h
      rw [runR_go hs, runR_go hs]
      exact ih _ _ _ _ _ h

theorem runR_long (ss : List St) (k : Nat) : ∀ (n i : Nat) (vs inp outs path : List Int), (runR ss n i vs inp outs path).code = 1 →
    (runR ss n i vs inp outs path).outs <+: (runR ss (n + k) i vs inp outs path).outs ∧ (runR ss n i vs inp outs path).path <+: (runR ss (n + k) i vs inp outs path).path ∧ (runR ss n i vs inp outs path).path.length = path.length + n := by
  intro n
  induction n with
  | zero =>
    intro i vs inp outs path _
    obtain ⟨O, P, e, _⟩ := runR_pre ss k i vs inp outs path
    rw [Nat.zero_add, e]
    exact ⟨⟨O, rfl⟩, ⟨P, rfl⟩, rfl⟩
  | succ n ih =>
    intro i vs inp outs path h
    rw [show n + 1 + k = (n + k) + 1 by omega]
    cases hs : stopR (ss.getD i st0) inp with
    | some c =>
      rw [runR_stop hs] at h
      rcases stop_code hs with e | e <;> (rw [e] at h; cases h)
    | none =>
      rw [runR_go hs] at h
      rw [runR_go hs, runR_go hs]
      obtain ⟨h1, h2, h3⟩ := ih _ _ _ _ _ h
      refine ⟨h1, h2, ?_⟩
      rw [h3]
      simp
      omega

theorem runR_code (ss : List St) : ∀ (n i : Nat) (vs inp outs path : List Int), (runR ss n i vs inp outs path).code < 3 := by
  intro n
  induction n with
  | zero => intro i vs inp outs path; show 1 < 3; decide
  | succ n ih =>
    intro i vs inp outs path
    cases hs : stopR (ss.getD i st0) inp with
    | some c =>
      rw [runR_stop hs]
      rcases stop_code hs with e | e <;> simp [e]
    | none => rw [runR_go hs]; exact ih _ _ _ _ _

theorem canB_more {ss : List St} {inp : List Int} {most : Int} (h : canB ss inp most = true) : canB ss inp 600 = true ∧ 0 ≤ most ∧ most ≤ 600 := by
  simp only [canB, Bool.and_eq_true, inB, decide_eq_true_eq] at h ⊢
  exact ⟨⟨⟨h.1.1, by decide, by decide⟩, h.2⟩, h.1.2.1, h.1.2.2⟩

theorem more_bad {ss : List St} {inp : List Int} {most : Int} (h : (runOfR ss inp most).code = 9) : runOfR ss inp most = ⟨9, [], []⟩ := by
  unfold runOfR at h ⊢
  split
  · next hc =>
    rw [if_pos hc] at h
    have := runR_code ss most.toNat 0 vars0 inp [] []
    omega
  · rfl

theorem more_ends {ss : List St} {inp : List Int} {most : Int} (h9 : (runOfR ss inp most).code ≠ 9) (h1 : (runOfR ss inp most).code ≠ 1) : runOfR ss inp 600 = runOfR ss inp most := by
  by_cases hc : canB ss inp most = true
  · obtain ⟨hc6, m0, m6⟩ := canB_more hc
    have e : runOfR ss inp most = runR ss most.toNat 0 vars0 inp [] [] := by simp [runOfR, hc]
    have e6 : runOfR ss inp 600 = runR ss 600 0 vars0 inp [] [] := by simp [runOfR, hc6]
    rw [e] at h1
    rw [e, e6, show (600 : Nat) = most.toNat + (600 - most.toNat) by omega]
    exact runR_more ss _ _ _ _ _ _ _ h1
  · exact absurd (by simp [runOfR, hc]) h9

theorem more_goes {ss : List St} {inp : List Int} {most : Int} (h1 : (runOfR ss inp most).code = 1) : (runOfR ss inp most).outs <+: (runOfR ss inp 600).outs ∧ (runOfR ss inp most).path <+: (runOfR ss inp 600).path ∧ ((runOfR ss inp most).path.length : Int) = most := by
  by_cases hc : canB ss inp most = true
  · obtain ⟨hc6, m0, m6⟩ := canB_more hc
    have e : runOfR ss inp most = runR ss most.toNat 0 vars0 inp [] [] := by simp [runOfR, hc]
    have e6 : runOfR ss inp 600 = runR ss 600 0 vars0 inp [] [] := by simp [runOfR, hc6]
    rw [e] at h1
    obtain ⟨g1, g2, g3⟩ := runR_long ss (600 - most.toNat) _ _ _ _ _ _ h1
    rw [e, e6, show (600 : Nat) = most.toNat + (600 - most.toNat) by omega]
    refine ⟨g1, g2, ?_⟩
    rw [g3]
    simp
    omega
  · have e : runOfR ss inp most = ⟨9, [], []⟩ := by simp [runOfR, hc]
    rw [e] at h1
    cases h1

/-- More input, that is not asked for. -/
theorem runR_in (ss : List St) (y : Int) : ∀ (n i : Nat) (vs inp outs path : List Int), (runR ss n i vs inp outs path).code ≠ 2 → runR ss n i vs (inp ++ [y]) outs path = runR ss n i vs inp outs path := by
  intro n
  induction n with
  | zero => intro i vs inp outs path _; rfl
  | succ n ih =>
    intro i vs inp outs path h
    cases hs : stopR (ss.getD i st0) inp with
    | some c =>
      have h7 : (ss.getD i st0).kind = 7 := by
        rw [runR_stop hs] at h
        unfold stopR at hs
        split at hs
        · assumption
        · split at hs
          · injection hs with hs; exact absurd hs.symm h
          · cases hs
      rw [runR_stop hs, runR_stop (c := c)]
      unfold stopR at hs ⊢
      rw [if_pos h7] at hs ⊢
      exact hs
    | none =>
      rw [runR_go hs] at h
      have hs' : stopR (ss.getD i st0) (inp ++ [y]) = none := by
        unfold stopR at hs ⊢
        split at hs
        · cases hs
        · next hk =>
          rw [if_neg hk]
          simp
      rw [runR_go hs, runR_go hs']
      have e1 : varsR (ss.getD i st0) vs (inp ++ [y]) = varsR (ss.getD i st0) vs inp := by
        unfold varsR
        by_cases h3 : (ss.getD i st0).kind = 3
        · have hne : inp ≠ [] := by
            intro e
            unfold stopR at hs
            rw [if_neg (by omega), if_pos ⟨h3, e⟩] at hs
            cases hs
          cases inp with
          | nil => exact absurd rfl hne
          | cons a l => simp
        · simp only [h3, if_false]
      have e2 : inR (ss.getD i st0) (inp ++ [y]) = inR (ss.getD i st0) inp ++ [y] := by
        unfold inR
        by_cases h3 : (ss.getD i st0).kind = 3
        · have hne : inp ≠ [] := by
            intro e
            unfold stopR at hs
            rw [if_neg (by omega), if_pos ⟨h3, e⟩] at hs
            cases hs
          rw [if_pos h3, if_pos h3]
          cases inp with
          | nil => exact absurd rfl hne
          | cons a l => simp
        · rw [if_neg h3, if_neg h3]
      rw [e1, e2]
      exact ih _ _ _ _ _ h

theorem run_in {ss : List St} {inp : List Int} {most y : Int} (h2 : (runOfR ss inp most).code ≠ 2) (h9 : (runOfR ss inp most).code ≠ 9) (hy : inB y 0 65535 = true) : runOfR ss (inp ++ [y]) most = runOfR ss inp most := by
  by_cases hc : canB ss inp most = true
  · have hc' : canB ss (inp ++ [y]) most = true := by
      simp only [canB, Bool.and_eq_true] at hc ⊢
      refine ⟨hc.1, ?_⟩
      have := hc.2
      unfold inAll at this ⊢
      rw [List.all_append, this]
      simp [hy]
    have e : runOfR ss inp most = runR ss most.toNat 0 vars0 inp [] [] := by simp [runOfR, hc]
    have e' : runOfR ss (inp ++ [y]) most = runR ss most.toNat 0 vars0 (inp ++ [y]) [] [] := by simp [runOfR, hc']
    rw [e] at h2
    rw [e, e']
    exact runR_in ss y _ _ _ _ _ _ h2
  · exact absurd (by simp [runOfR, hc]) h9

/-- As much is let out as steps are come to that do so. -/
theorem runR_outs (ss : List St) : ∀ (n i : Nat) (vs inp outs path : List Int), ∃ P : List Nat, (runR ss n i vs inp outs path).path = path ++ P.map (fun k : Nat => (k : Int)) ∧ (runR ss n i vs inp outs path).outs.length = outs.length + P.countP (fun k => decide ((ss.getD k st0).kind = 4)) := by
  intro n
  induction n with
  | zero => intro i vs inp outs path; exact ⟨[], by simp [runR], by simp [runR]⟩
  | succ n ih =>
    intro i vs inp outs path
    cases hs : stopR (ss.getD i st0) inp with
    | some c =>
      refine ⟨[i], by simp [runR_stop hs], ?_⟩
      have h4 : (ss.getD i st0).kind ≠ 4 := by
        unfold stopR at hs
        split at hs
        · omega
        · split at hs
          · omega
          · cases hs
      rw [runR_stop hs, List.countP_cons, List.countP_nil, if_neg (by rw [decide_eq_false h4]; decide)]
      rfl
    | none =>
      rw [runR_go hs]
      obtain ⟨P, h1, h2⟩ := ih (nextR (ss.getD i st0) vs) (varsR (ss.getD i st0) vs inp) (inR (ss.getD i st0) inp) (outsR (ss.getD i st0) vs outs) (path ++ [(i : Int)])
      refine ⟨i :: P, by rw [h1]; simp, ?_⟩
      rw [h2, List.countP_cons]
      unfold outsR
      by_cases h4 : (ss.getD i st0).kind = 4
      · rw [if_pos h4, if_pos (decide_eq_true h4)]
        simp
        omega
      · rw [if_neg h4, if_neg (by rw [decide_eq_false h4]; decide)]
        omega
end Go.Proofs.YtnlcdecokpdkpaaDoor
namespace Go.Proofs.YtnlcdecokpdkpaaDoor
open Go.RowKit Go.Extern.Stop Go.Stop Go.Extern

theorem typeOfE (v : Value) (w : World) : (Extern.ReflectliteType.typeOf #[.iface 152 v]).run Tryd.prog w = .ok (.iface 142 (.agg #[.pointer (some ⟨3, 152, none⟩)])) w := by kernel_rfl
def cmpM : Array Value → Sem Value := Extern.ReflectliteType.method fun t => do
  Extern.Rtype.noPackHeld "Comparable" t
  pure (.bool (← typeInfo t).comparable)
theorem comparableE (w : World) : (cmpM #[.agg #[.pointer (some ⟨3, 152, none⟩)]]).run Tryd.prog w = .ok (.bool true) w := by kernel_rfl
theorem methodComparable (v : Value) (w : World) : (Go.method 291 142 v "Comparable").run Tryd.prog w = .ok (140, v) w := by kernel_rfl
theorem compE : (Tryd.prog.info? 152).map (·.comparable) = some true := by kernel_rfl
theorem sizeE : (Tryd.prog.info? 179).map (·.size) = some 1 := by kernel_rfl
theorem noIs (v : Value) (xT : TypeId) (w : World) : (Instr.typeAssert (.iface 152 v) xT 144 true).run Tryd.prog w = .ok (.tuple #[.nilIface, .bool false]) w := run_typeAssert_lacksB Tryd.underlying144 (by kernel_rfl) (by kernel_rfl) v xT w
theorem noUnwrap (v : Value) (xT : TypeId) (w : World) : (Instr.typeAssert (.iface 152 v) xT 147 true).run Tryd.prog w = .ok (.tuple #[.nilIface, .bool false]) w := run_typeAssert_lacksB Tryd.underlying147 (by kernel_rfl) (by kernel_rfl) v xT w
theorem noUnwraps (v : Value) (xT : TypeId) (w : World) : (Instr.typeAssert (.iface 152 v) xT 148 true).run Tryd.prog w = .ok (.tuple #[.nilIface, .bool false]) w := run_typeAssert_lacksB Tryd.underlying148 (by kernel_rfl) (by kernel_rfl) v xT w

theorem is_same (a : Addr) (w : World) {Q : Ending → World → Prop} (hQ : Q (.returned (.bool true)) w) :
    Calls Tryd.prog 75 #[.iface 152 (.pointer (some a)), .iface 152 (.pointer (some a))] w Q := by
  have HQ : Hid _ := hQ
  clear hQ
  obtain ⟨i, hi, hcmp⟩ := Option.map_eq_some_iff.1 compE
  obtain ⟨j, hj, hjs⟩ := Option.map_eq_some_iff.1 sizeE
  have h8 := @run_callFunc_extern Tryd.prog 93 _ Extern.ReflectliteType.typeOf Tryd.func93 (by kernel_rfl) (by kernel_rfl) (by kernel_rfl) (by kernel_rfl)
  have h32 := @run_callFunc_extern Tryd.prog 140 _ cmpM Tryd.func140 (by kernel_rfl) (by kernel_rfl) (by kernel_rfl) (by kernel_rfl)
  have tT := typeOfE
  have cT := comparableE
  have mR := methodComparable
  have heq := run_eql_iface_ptr_same (P := Tryd.prog) w a Tryd.underlying69 Tryd.underlying152 hi hcmp hj
  go_enter Tryd.func75, Tryd.ntmps75
  go_wp2
  refine wp_loop_rounds 1 ?_
  rw [rounds_succ]
  go_wp2
  exact HQ.out

theorem is_other (a b : Addr) (ca cb : Array Value) (ta tb : TypeId) (w : World) (hne : a ≠ b) (ha : w.heap[a.block]? = some (.cells ca ta (0, 0))) (hb : w.heap[b.block]? = some (.cells cb tb (0, 0))) {Q : Ending → World → Prop} (hQ : Q (.returned (.bool false)) w) :
    Calls Tryd.prog 75 #[.iface 152 (.pointer (some a)), .iface 152 (.pointer (some b))] w Q := by
  have HQ : Hid _ := hQ
  clear hQ
  obtain ⟨i, hi, hcmp⟩ := Option.map_eq_some_iff.1 compE
  obtain ⟨j, hj, hjs⟩ := Option.map_eq_some_iff.1 sizeE
  have h8 := @run_callFunc_extern Tryd.prog 93 _ Extern.ReflectliteType.typeOf Tryd.func93 (by kernel_rfl) (by kernel_rfl) (by kernel_rfl) (by kernel_rfl)
  have h32 := @run_callFunc_extern Tryd.prog 140 _ cmpM Tryd.func140 (by kernel_rfl) (by kernel_rfl) (by kernel_rfl) (by kernel_rfl)
  have tT := typeOfE
  have cT := comparableE
  have mR := methodComparable
  have nE := noIs
  have uE := noUnwrap
  have vE := noUnwraps
  have heq := run_eql_iface_ptr_other (P := Tryd.prog) w Tryd.underlying69 Tryd.underlying152 hi hcmp hj (by rw [hjs]; decide) hne ha hb
  go_enter Tryd.func75, Tryd.ntmps75
  go_wp2
  refine wp_loop_rounds 1 ?_
  rw [rounds_succ]
  go_wp2
  exact HQ.out

/-- A sentinel's value. -/
def errV (a : Addr) : Value := .iface 152 (.pointer (some a))

/-- The three sentinels: their variables' cells, three different places, each in a row that no string shares. -/
structure Sen (w : World) (a0 a1 a2 : Addr) : Prop where
  c0 : w.cell? ⟨0, 0, none⟩ = some (errV a0)
  c1 : w.cell? ⟨1, 0, none⟩ = some (errV a1)
  c2 : w.cell? ⟨2, 0, none⟩ = some (errV a2)
  n01 : a0 ≠ a1
  n02 : a0 ≠ a2
  n12 : a1 ≠ a2
  h0 : ∃ c t, w.heap[a0.block]? = some (.cells c t (0, 0))
  h1 : ∃ c t, w.heap[a1.block]? = some (.cells c t (0, 0))
  h2 : ∃ c t, w.heap[a2.block]? = some (.cells c t (0, 0))

theorem heap_lt {w : World} {k : Nat} {o : Obj} (h : w.heap[k]? = some o) : k < w.heap.size := (Array.getElem?_eq_some_iff.1 h).1

theorem Sen.keep {w w' : World} {a0 a1 a2 : Addr} (h : Sen w a0 a1 a2) (hb : Below w.heap.size w w') : Sen w' a0 a1 a2 := by
  obtain ⟨c0, c1, c2, n01, n02, n12, ⟨x0, t0, h0⟩, ⟨x1, t1, h1⟩, ⟨x2, t2, h2⟩⟩ := h
  exact ⟨cell_keep hb c0, cell_keep hb c1, cell_keep hb c2, n01, n02, n12, ⟨x0, t0, (hb.block _ (heap_lt h0)).trans h0⟩, ⟨x1, t1, (hb.block _ (heap_lt h1)).trans h1⟩, ⟨x2, t2, (hb.block _ (heap_lt h2)).trans h2⟩⟩

/-- Which sentinel tells which code. -/
def errAt (a0 a1 a2 : Addr) (c : Nat) : Addr := if c = 0 then a0 else if c = 1 then a1 else a2

set_option maxHeartbeats 1000000 in
theorem codeOf_any {Q : Ending → World → Prop} (a0 a1 a2 : Addr) (c : Nat) (hc : c < 3) (w : World) (h : Sen w a0 a1 a2) (hQ : Q (.returned (.int .i64 (c : Int))) w) :
    Calls Tryd.prog 46 #[errV (errAt a0 a1 a2 c)] w Q := by
  have HQ : Hid _ := hQ
  clear hQ
  obtain ⟨c0, c1, c2, n01, n02, n12, ⟨x0, t0, h0⟩, ⟨x1, t1, h1⟩, ⟨x2, t2, h2⟩⟩ := h
  have H0 : Hid _ := h0
  have H1 : Hid _ := h1
  have H2 : Hid _ := h2
  clear h0 h1 h2
  unfold errV at *
  rcases (by omega : c = 0 ∨ c = 1 ∨ c = 2) with rfl | rfl | rfl
  · simp only [errAt, if_true]
    go_enter Tryd.func46, Tryd.ntmps46
    go_wp2_with (go_at_call 75; refine is_same a0 _ ?_)
    exact HQ.out
  · simp only [errAt, show ¬ ((1 : Nat) = 0) by decide, if_false, if_true]
    go_enter Tryd.func46, Tryd.ntmps46
    go_wp2_with fail
    refine is_other a1 a0 _ _ _ _ _ (Ne.symm n01) H1.out H0.out ?_
    go_wp2_with fail
    refine is_same a1 _ ?_
    go_wp2
    exact HQ.out
  · simp only [errAt, show ¬ ((2 : Nat) = 0) by decide, show ¬ ((2 : Nat) = 1) by decide, if_false]
    go_enter Tryd.func46, Tryd.ntmps46
    go_wp2_with fail
    refine is_other a2 a0 _ _ _ _ _ (Ne.symm n02) H2.out H0.out ?_
    go_wp2_with fail
    refine is_other a2 a1 _ _ _ _ _ (Ne.symm n12) H2.out H1.out ?_
    go_wp2_with fail
    refine is_same a2 _ ?_
    go_wp2
    exact HQ.out
end Go.Proofs.YtnlcdecokpdkpaaDoor
