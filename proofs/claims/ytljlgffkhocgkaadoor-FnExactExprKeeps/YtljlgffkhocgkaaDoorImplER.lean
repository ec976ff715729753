/- What steps reckon, as the program keeps it: a map, a list, and words of bits; numberOf. -/
import Derived.Test.YtljlgffkhocgkaaDoorKeyE
import Derived.Test.YtljlgffkhocgkaaDoorBits
import Derived.Test.YtljlgffkhocgkaaDoorOwnK
import Derived.Deep.AppendLies
import Derived.Deep.MidRow
import Derived.Deep.RegionLaw
import Derived.Deep.QuietTactic
import Derived.Deep.RegionHeld3
import Derived.BigQuiet
namespace Go.Proofs.YtljlgffkhocgkaaDoor
open Go.RowKit Go.Maps

/-- A reckoning's five cells. -/
def exC (e : E5) : List Value := [.int .i64 e.op, .int .i64 e.av, .int .i64 e.an, .int .i64 e.bv, .int .i64 e.bn]

theorem length_exC (es : List E5) : (es.flatMap exC).length = es.length * 5 := by
  induction es with
  | nil => rfl
  | cons e r ih => simp only [List.flatMap_cons, List.length_append, ih, List.length_cons]; simp [exC]; omega

theorem zeroInt (w : World) : (zeroValue 3).run Tryd.prog w = .ok (.int .i64 0) w := by kernel_rfl

theorem infoExpr : (Tryd.prog.info? 38).map (fun i => (i.zero, i.size, i.bytes)) = some (some (.agg #[.int .i64 0, .int .i64 0, .int .i64 0, .int .i64 0, .int .i64 0]), 5, 40) := by kernel_rfl

theorem infoSetR : (Tryd.prog.info? 66).map (fun i => (i.zero, i.size, i.bytes)) = some (some (.int .u64 0), 1, 8) := by kernel_rfl

theorem info_partsR {t : TypeId} {z : Value} {n k : Nat} (h : (Tryd.prog.info? t).map (fun i => (i.zero, i.size, i.bytes)) = some (some z, n, k)) : ∃ i, Tryd.prog.info? t = some i ∧ i.zero = some z ∧ i.size = n ∧ i.bytes = k := by
  simp only [Option.map_eq_some_iff, Prod.mk.injEq] at h
  obtain ⟨i, h1, h2, h3, h4⟩ := h
  exact ⟨i, h1, h2, h3, h4⟩

theorem own_form {w : World} {lo : Nat} {e : TypeId} {s : Nat} {v : Value} {n : Nat} {xs : List Value} (h : w.ownsRow lo e s v n xs) : ∃ A c, v = .slice A n c := by
  rcases h.2 with ⟨e1, e2⟩ | ⟨g', c, _, e1, _⟩
  · exact ⟨none, 0, by rw [e2]; exact e1⟩
  · exact ⟨_, _, e1⟩

theorem exC_one (e : E5) : ∀ u ∈ exC e, u.oneCell' = true := by
  intro u hu
  simp [exC] at hu
  rcases hu with rfl | rfl | rfl | rfl | rfl <;> rfl

theorem exC_new (W : World) (e : E5) (t : TypeId) : ∀ j u, (exC e)[j]? = some u → (W.alloc (.cells #[.int .i64 e.op, .int .i64 e.av, .int .i64 e.an, .int .i64 e.bv, .int .i64 e.bn] t)).cell? ((⟨W.heap.size, 0, none⟩ : Addr).add j) = some u := by
  intro j u hj
  rw [Addr.add_mid, Nat.zero_add]
  have hl : j < 5 := (List.getElem?_eq_some_iff.1 hj).1
  match j, hl, hj with
  | 0, _, hj => simpa [exC, go_sem] using hj
  | 1, _, hj => simpa [exC, go_sem] using hj
  | 2, _, hj => simpa [exC, go_sem] using hj
  | 3, _, hj => simpa [exC, go_sem] using hj
  | 4, _, hj => simpa [exC, go_sem] using hj
  | n + 5, h, _ => omega

theorem cell_far {W W' : World} {row : Option Nat} {a : Addr} {v : Value} (h : W.cell? a = some v) (hg : W.grownBy W' row) (hne : some a.block ≠ row) : W'.cell? a = some v :=
  (World.cell?_of_block (w := W) (a := a) (hg.block a.block (cell_lt h) hne)).trans h

theorem rowIs_far {W W' : World} {row : Option Nat} {b n : Nat} {t : TypeId} {f : Nat → Value} (h : W.rowIs b t n f) (hg : W.grownBy W' row) (hne : some b ≠ row) : W'.rowIs b t n f :=
  h.of_block (hg.block b h.lt hne)

theorem own_ne {w : World} {lo : Nat} {e : TypeId} {s : Nat} {v : Value} {n : Nat} {xs : List Value} (h : w.ownsRow lo e s v n xs) {b : Nat} (hb : b < lo) : some b ≠ v.ownBlock := fun q => by
  have := (h.lt b q.symm).1
  omega

theorem own_farE {w w' : World} {lo : Nat} {e : TypeId} {s : Nat} {v : Value} {n : Nat} {xs : List Value} {row : Option Nat} (h : w.ownsRow lo e s v n xs) (hg : w.grownBy w' row) (hne : v.ownBlock = none ∨ v.ownBlock ≠ row) : w'.ownsRow lo e s v n xs := h.kept hg hne

end Go.Proofs.YtljlgffkhocgkaaDoor
