/- When a step, and a program, is ok: plain functions on lists and numbers. -/
import Derived.Test.YtljlgffkhocgkaaDoorBase
namespace Go.Proofs.YtljlgffkhocgkaaDoor

def inB (n lo hi : Int) : Bool := decide (lo ≤ n) && decide (n ≤ hi)

def opndB (v n : Int) : Bool := if v = -1 then inB n 0 65535 else inB v 0 11 && decide (n = 0)

def many (k : Int) : Int := if k = 5 then 2 else if k = 7 then 0 else if k = 1 ∨ k = 2 ∨ k = 3 ∨ k = 4 ∨ k = 6 then 1 else -1

def noneB (v n : Int) : Bool := decide (v = 0) && decide (n = 0)

def restB (s : St) : Bool :=
  if s.kind = 1 then inB s.dst 0 11 && (inB s.op 1 4 && opndB s.av s.an && opndB s.bv s.bn)
  else if s.kind = 2 then inB s.dst 0 11 && (decide (s.op = 0) && opndB s.av s.an && noneB s.bv s.bn)
  else if s.kind = 3 then inB s.dst 0 11 && (decide (s.op = 0) && noneB s.av s.an && noneB s.bv s.bn)
  else if s.kind = 4 ∨ s.kind = 5 then decide (s.dst = 0) && (decide (s.op = 0) && opndB s.av s.an && noneB s.bv s.bn)
  else decide (s.dst = 0) && (decide (s.op = 0) && noneB s.av s.an && noneB s.bv s.bn)

def stepB (s : St) (n : Int) : Bool := decide ((s.next.length : Int) = many s.kind) && s.next.all (fun x => inB x 0 (n - 1)) && restB s

def okB (ss : List St) : Bool := decide (1 ≤ ss.length) && decide (ss.length ≤ 60) && ss.all (fun s => stepB s ss.length)

theorem many_cases {k : Int} (h : many k ≠ -1) : k = 1 ∨ k = 2 ∨ k = 3 ∨ k = 4 ∨ k = 5 ∨ k = 6 ∨ k = 7 := by
  unfold many at h
  split at h
  · omega
  · split at h
    · omega
    · split at h
      · omega
      · exact absurd rfl h
end Go.Proofs.YtljlgffkhocgkaaDoor
