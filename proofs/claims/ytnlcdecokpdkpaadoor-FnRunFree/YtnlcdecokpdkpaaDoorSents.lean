/- From what the row lists of the three sentinels to what the walks ask. -/
import Derived.Test.YtnlcdecokpdkpaaDoorRows
import Derived.Test.YtnlcdecokpdkpaaDoorRunA
import Derived.ChangeSame
import Derived.ChangeVars
import Derived.JoinedOf
import Derived.RowKit
import Derived.RowKitTokens
import Derived.LaidLaws
import Derived.LaidSub
import Derived.MakeChecks
import Derived.Stop.ErrReads
namespace Go.Proofs.YtnlcdecokpdkpaaDoor
open Go.ChangeShapes Go.WideShapes Go.RowKit

theorem own : ownKnob Tryd.prog.godebug = none := by kernel_rfl
theorem laidOut : laidOutB Tryd.prog = true := by kernel_rfl
theorem gE0 : Tryd.prog.globalNamed "loop.example/causey/impl.errEnded" = some 0 := by kernel_rfl
theorem gE1 : Tryd.prog.globalNamed "loop.example/causey/impl.errLong" = some 1 := by kernel_rfl
theorem gE2 : Tryd.prog.globalNamed "loop.example/causey/impl.errDry" = some 2 := by kernel_rfl
theorem tE0 : (Tryd.prog.globals[0]?).map (·.type) = some 69 := by kernel_rfl
theorem tE1 : (Tryd.prog.globals[1]?).map (·.type) = some 69 := by kernel_rfl
theorem tE2 : (Tryd.prog.globals[2]?).map (·.type) = some 69 := by kernel_rfl
theorem cellsE : Tryd.prog.cellsOf 179 = 1 := by kernel_rfl
theorem cellsS : Tryd.prog.cellsOf 9 = 1 := by kernel_rfl
theorem starE : "*" ++ "errors.errorString" = "*errors.errorString" := by decide

theorem rowE (u : TypeId) (h : Tryd.prog.typeName? 3 u = some "*errors.errorString") : u = 152 :=
  typeName_ptr_named (nm := "errors.errorString") (by rw [starE]; kernel_rfl) (by kernel_rfl) (by decide) u (by rw [starE]; exact h)

set_option maxRecDepth 100000 in
theorem sen_of_laid {W : World} (h : laidMetH Tryd.prog [("loop.example/causey/impl.errEnded", Rows.laid_loop_example_causey_impl_errEnded), ("loop.example/causey/impl.errLong", Rows.laid_loop_example_causey_impl_errLong), ("loop.example/causey/impl.errDry", Rows.laid_loop_example_causey_impl_errDry)] W) :
    ∃ a0 a1 a2 : Addr, Sen W a0 a1 a2 := by
  rw [MakeChecks.laidMetH_plain _ _ _ (by kernel_rfl)] at h
  obtain ⟨ps, ⟨g0, t0, cs0, f0, p0, q0, hg0, ht0, hv0, hd0, ⟨g1, t1, cs1, f1, p1, q1, hg1, ht1, hv1, hd1, ⟨g2, t2, cs2, f2, p2, q2, hg2, ht2, hv2, hd2, hq2, e2⟩, e1⟩, e0⟩, hnd, hrows⟩ := h
  obtain rfl := Option.some.inj (gE0.symm.trans hg0)
  obtain rfl := Option.some.inj (gE1.symm.trans hg1)
  obtain rfl := Option.some.inj (gE2.symm.trans hg2)
  obtain rfl := Option.some.inj (tE0.symm.trans ht0)
  obtain rfl := Option.some.inj (tE1.symm.trans ht1)
  obtain rfl := Option.some.inj (tE2.symm.trans ht2)
  have hq2' : q2 = [] := hq2
  subst hq2'
  subst e2
  subst e1
  subst e0
  obtain ⟨l0⟩ := cs0
  obtain ⟨l1⟩ := cs1
  obtain ⟨l2⟩ := cs2
  have ok0 : ∀ u v, l0 = [.iface u v] → Value.okWide Tryd.prog W .any 0 u v := fun u v e => by
    subst e
    exact (hrows 0 0 (by simp [MemPlace.row])).2 u v (by simpa using World.var?_cell hg0 hv0 0)
  have ok1 : ∀ u v, l1 = [.iface u v] → Value.okWide Tryd.prog W .any 0 u v := fun u v e => by
    subst e
    exact (hrows 1 0 (by simp [MemPlace.row])).2 u v (by simpa using World.var?_cell hg1 hv1 0)
  have ok2 : ∀ u v, l2 = [.iface u v] → Value.okWide Tryd.prog W .any 0 u v := fun u v e => by
    subst e
    exact (hrows 2 0 (by simp [MemPlace.row])).2 u v (by simpa using World.var?_cell hg2 hv2 0)
  obtain ⟨a0, s0, rfl, hc0, hs0, hz0, rfl⟩ := errorString_of_trod Tryd.underlying69 rowE Tryd.underlying152 Tryd.underlying179 rfl rfl Tryd.underlying9 cellsE cellsS hd0 ok0
  obtain ⟨a1, s1, rfl, hc1, hs1, hz1, rfl⟩ := errorString_of_trod Tryd.underlying69 rowE Tryd.underlying152 Tryd.underlying179 rfl rfl Tryd.underlying9 cellsE cellsS hd1 ok1
  obtain ⟨a2, s2, rfl, hc2, hs2, hz2, rfl⟩ := errorString_of_trod Tryd.underlying69 rowE Tryd.underlying152 Tryd.underlying179 rfl rfl Tryd.underlying9 cellsE cellsS hd2 ok2
  refine ⟨a0, a1, a2, by simpa [errV] using World.var?_cell gE0 hv0 0, by simpa [errV] using World.var?_cell gE1 hv1 0, by simpa [errV] using World.var?_cell gE2 hv2 0, ?_, ?_, ?_, (hrows a0.block a0.off (by simp [MemPlace.row])).1, (hrows a1.block a1.off (by simp [MemPlace.row])).1, (hrows a2.block a2.off (by simp [MemPlace.row])).1⟩
  · rintro rfl
    simp [MemPlace.row] at hnd
  · rintro rfl
    simp [MemPlace.row] at hnd
  · rintro rfl
    simp [MemPlace.row] at hnd

theorem vars3 {H : Type} {enc : TypeId × Value → H} {W : World} {sp : Nat → Bool} {n1 n2 n3 : String} {gs : List (DataW H)} {q : List MemPlace} (h : DataW.TrodVars enc Tryd.prog W sp [n1, n2, n3] gs q) : ∃ g1 g2 g3, gs = [g1, g2, g3] := by
  rcases gs with _ | ⟨g1, _ | ⟨g2, _ | ⟨g3, _ | ⟨g4, r⟩⟩⟩⟩
  · exact absurd h (by simp [DataW.TrodVars])
  · exact absurd h (by simp [DataW.TrodVars])
  · exact absurd h (by simp [DataW.TrodVars])
  · exact ⟨_, _, _, rfl⟩
  · exact absurd h (by simp [DataW.TrodVars])
end Go.Proofs.YtnlcdecokpdkpaaDoor
