/- A code of bytes that comes in: opened, kept, and handed to the model's reader. -/
import Derived.Test.YtajgioeifhgfhaaDoorDrawA
import Derived.ProofKit
import Derived.Deep.Slices
import Derived.Lib.SmallJoins
namespace Go.Proofs.YtajgioeifhgfhaaDoor
open Go.RowKit Go.ChangeShapes Go.WideShapes Go.ChangeAt

/-- A slice of bytes in memory. -/
def CodeAt (w : World) (v : Value) : Prop :=
  ∃ ao bb bo bl cap, v = .slice ao bl cap ∧ bl ≤ cap ∧ bl ≤ 9223372036854775807 ∧ (0 < bl → ao = some ⟨bb, bo, none⟩) ∧ (0 < bl → bb < w.heap.size) ∧ ∀ i, i < bl → ∃ z : Nat, z < 256 ∧ w.cell? ⟨bb, bo + i, none⟩ = some (.int .u8 z)

theorem CodeAt.keep {w w' : World} {v : Value} (h : CodeAt w v) (hb : Below w.heap.size w w') : CodeAt w' v := by
  obtain ⟨ao, bb, bo, bl, cap, e, h1, h2, h3, h4, h5⟩ := h
  refine ⟨ao, bb, bo, bl, cap, e, h1, h2, h3, fun hp => Nat.lt_of_lt_of_le (h4 hp) hb.size, fun i hi => ?_⟩
  obtain ⟨z, hz, hc⟩ := h5 i hi
  exact ⟨z, hz, cell_keep hb hc⟩

theorem openCode_any {Q : Ending → World → Prop} (v : Value) (w : World) (h : CodeAt w v)
    (hQ : ∀ w', Rd w' w.heap.size 0 → Below w.heap.size w w' → Q (.returned (.pointer (some ⟨w.heap.size, 0, none⟩))) w') :
    Calls Tryd.prog 44 #[v] w Q := by
  obtain ⟨ao, bb, bo, bl, cap, rfl, h1, h2, h3, h4, h5⟩ := h
  exact l6Open_any ao bb bo bl cap w h3 h1 h4 h5 hQ

theorem cellsByte : Tryd.prog.cellsOf 5 = 1 := by kernel_rfl

section
variable {H : Type} {enc : TypeId × Value → H} {w : World} {base : Nat} {spare : Nat → Bool} {held : Bool}

set_option maxRecDepth 100000 in
theorem open_code {r : Reach} {b0 : Nat} {v : Value} {d : DataW H} {p : List MemPlace} (hv : Value.okWide Tryd.prog w r b0 22 v) (h : DataW.Trod enc Tryd.prog w base spare held 22 v d p) : CodeAt w v := by
  obtain ⟨A, n, c, rfl⟩ := okWide_slice Tryd.underlying22 hv
  obtain ⟨fuel, hf⟩ := h
  rcases open_ints Tryd.underlying22 Tryd.underlying5 cellsByte hf with ⟨hcs, _⟩ | ⟨a, len, cap, zs, hcs, _, hl, hm, hz, _, hcell, hw⟩
  · simp [Value.cells] at hcs
    obtain ⟨rfl, rfl, rfl⟩ := hcs
    exact ⟨none, 0, 0, 0, 0, rfl, Nat.le_refl _, by decide, fun h => absurd h (by simp), fun h => absurd h (by simp), fun i hi => absurd hi (by simp)⟩
  · simp [Value.cells] at hcs
    obtain ⟨rfl, rfl, rfl⟩ := hcs
    have hzl : n ≤ zs.length := by rw [hz]; split <;> omega
    obtain ⟨b, o, spot⟩ := a
    refine ⟨_, b, o, n, c, rfl, hl, by unfold maxLen at hm; omega, fun hp => ?_, fun hp => ?_, fun i hi => ?_⟩
    · have hspot : spot = none := by simpa [Addr.add] using World.cell?_spot (hcell 0 (by omega))
      rw [hspot]
    · exact cell_lt (hcell 0 (by omega))
    · have hspot : spot = none := by simpa [Addr.add] using World.cell?_spot (hcell 0 (by omega))
      subst hspot
      have h1 := hcell i (by omega)
      have h2 := hw (zs.getD i 0) (by simp [List.getD, List.getElem?_eq_getElem (show i < zs.length by omega)])
      have e : (⟨b, o, none⟩ : Addr).add i = ⟨b, o + i, none⟩ := by unfold Addr.add; split <;> simp_all
      rw [e] at h1
      generalize zs.getD i 0 = x at h1 h2
      have h3 : 0 ≤ x ∧ x < 256 := by
        simp [Lit.wf, IntKind.min, IntKind.max, IntKind.signed, IntKind.bits] at h2
        omega
      obtain ⟨m, hm2⟩ := Int.eq_ofNat_of_zero_le h3.1
      rw [hm2] at h1 h3
      exact ⟨m, by omega, h1⟩
end
end Go.Proofs.YtajgioeifhgfhaaDoor
