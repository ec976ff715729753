/- Steps in memory whose lists, if nil, have no room. An append to a row of the call's own, as one step of a region that draws. -/
import Derived.Test.YtljlgffkhocgkaaDoorBase
import Derived.Deep.RegionLaw
import Derived.OwnWalk
namespace Go.Proofs.YtljlgffkhocgkaaDoor
open Go.RowKit

/-- A nil list has no room. -/
def Nice (v : Value) : Prop := ∀ n c, v = .slice none n c → n = 0 ∧ c = 0

theorem nice_some (a : Addr) (n c : Nat) : Nice (.slice (some a) n c) := fun _ _ e => by cases e

theorem nice_none : Nice (.slice none 0 0) := fun _ _ e => by cases e; exact ⟨rfl, rfl⟩

/-- Steps in memory whose lists, if nil, have no room. -/
def StepsN (w : World) (v : Value) (ss : List St) : Prop :=
  ∃ ao b o cap, v = .slice ao ss.length cap ∧ (0 < ss.length → ao = some ⟨b, o, none⟩) ∧
    ∀ (i : Nat) (s : St), ss[i]? = some s → ∃ nv, StepCells w b (o + i * 8) s nv ∧ IntsAt w nv s.next ∧ Nice nv

theorem StepsN.at {w : World} {v : Value} {ss : List St} (h : StepsN w v ss) : StepsAt w v ss := by
  obtain ⟨ao, b, o, cap, hv, ha, hc⟩ := h
  refine ⟨ao, b, o, cap, hv, ha, fun i s hs => ?_⟩
  obtain ⟨nv, h1, h2, _⟩ := hc i s hs
  exact ⟨nv, h1, h2⟩

theorem StepsN.keep {w w' : World} {v : Value} {ss : List St} (h : StepsN w v ss) (hb : Below w.heap.size w w') : StepsN w' v ss := by
  obtain ⟨ao, b, o, cap, hv, ha, hc⟩ := h
  refine ⟨ao, b, o, cap, hv, ha, fun i s hs => ?_⟩
  obtain ⟨nv, h1, h2, h3⟩ := hc i s hs
  exact ⟨nv, h1.keep hb, h2.keep hb, h3⟩

end Go.Proofs.YtljlgffkhocgkaaDoor
namespace Go.Proofs.YtljlgffkhocgkaaDoor

theorem step_append_own {P : Program} {ops : Array Oper} {o : Oper} {a : Act} {w : World} {K : Act → World → Prop} {Q : Exit → Act → World → Prop} {E : Prop}
    (hg : o.guard = none) (s x : Operand) (t : TypeId) (hop : o.op = Op.call { callee := Callee.builtin Builtin.append, args := #[s, x], argTypes := #[t, t] })
    (base : Nat) (e : TypeId) (i : TypeInfo) (z : Value) (size bytes : Nat) (h1 : P.underlying t = some (.slice e)) (h2 : P.info? e = some i) (h3 : i.zero = some z) (h4 : i.size = size) (h5 : i.bytes = bytes) (h6 : z.cells.size = size) (h7 : 0 < size)
    (v : Value) (n : Nat) (xs : List Value) (hs : a.eval s = v) (hown : w.ownsRow base e size v n xs)
    (ad : Addr) (m c : Nat) (news : List Value) (hx : a.eval x = .slice (some ad) m c) (hn : news.length = m * size) (hc : ∀ j u, news[j]? = some u → w.cell? (ad.add j) = some u) (h1c : ∀ u ∈ news, u.oneCell' = true)
    (b1 : n + m ≤ maxLen) (b2 : (n + m) * bytes ≤ 140737488355328) (hbase : base ≤ w.heap.size)
    (hK : ∀ v' w', w'.ownsRow base e size v' (n + m) (xs ++ news) → w.grownBy w' v.ownBlock → K (a.put o.dst v') w') :
    if Region.wanted o (yielded ops a.tmps) = true then Oper.wp P o a w K Q else E := by
  have hw : Region.wanted o (yielded ops a.tmps) = true := by simp [Region.wanted, hg]
  rw [if_pos hw]
  exact wp_append_own w s x t hop base e i z size bytes h1 h2 h3 h4 h5 h6 h7 v n xs hs hown ad m c news hx hn hc h1c b1 b2 hbase fun v' w' g1 g2 _ => hK v' w' g1 g2
end Go.Proofs.YtljlgffkhocgkaaDoor
