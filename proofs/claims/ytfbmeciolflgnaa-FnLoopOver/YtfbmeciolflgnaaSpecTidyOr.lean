/- What the model's FlowTidy answers, of any program. -/
import Derived.Test.YtfbmeciolflgnaaSpecTidyAll
namespace Go.Proofs.Ytfbmeciolflgnaa
open Go.RowKit

set_option maxHeartbeats 1000000 in
theorem specTidy_no {Q : Ending → World → Prop} (v : Value) (ss : List St) (w : World) (h : StepsAt w v ss) (hl : ss.length ≤ 1048576) (hls : ∀ s ∈ ss, s.next.length ≤ 1048576) (hok : okB ss = false)
    (hQ : ∀ w', Below w.heap.size w w' → Q (.returned (.tuple #[.agg #[.slice none 0 0], .bool false])) w') :
    Calls Try.prog 64 #[.agg #[v]] w Q := by
  have HQ : Hid _ := hQ
  clear hQ
  obtain ⟨ao, b, o, cap, rfl, ha, hc⟩ := id h
  clear ha hc
  have HH : Hid (StepsAt w (.slice ao ss.length cap) ss) := h
  have HL : Hid _ := hls
  clear hls h
  have hb0 : ∀ O O', Below w.heap.size w ((w.alloc O).alloc O') := fun O O' => ((Below.refl _ _).alloc (Nat.le_refl _) O).alloc (by simp) O'
  go_enter Try.func64, Try.ntmps64
  go_wp2_with fail
  refine specOk_any _ ss _ (HH.out.keep (hb0 _ _)) hl HL.out fun w1 hb1 => ?_
  rw [hok]
  have hbA : Below w.heap.size w w1 := (hb0 _ _).trans (hb1.mono (by simp; omega))
  have r1 : w1.cell? ⟨w.heap.size + 1, 0, none⟩ = some (.slice none 0 0) := cell_keep hb1 (by simp [go_sem])
  have rf1 : w1.frozen? ⟨w.heap.size + 1, 0, none⟩ = false := (hb1.frozen (by simp)).trans (by simp [go_sem])
  clear hb1 hb0
  go_wp2
  exact bodyPost_ret (v := .tuple #[.agg #[.slice none 0 0], .bool false]) (by simp [results, Try.results64, go_sem, r1]) rfl (HQ.out _ (hbA.setCell (by simp) _))

/-- What FlowTidy tells of any program: nothing, or the tidy one. -/
def TidyOr (ss : List St) (ts : List St) (b : Bool) : Prop :=
  (b = false ∧ ts = [] ∧ (okB ss = false ∨ ∃ rs, okB ss = true ∧ IsReach ss rs ∧ okB (tidyL ss rs) = false)) ∨ (b = true ∧ ∃ rs, okB ss = true ∧ IsReach ss rs ∧ ts = tidyL ss rs ∧ okB (tidyL ss rs) = true)

theorem TidyOr.unique {ss a b : List St} {x y : Bool} (ha : TidyOr ss a x) (hb : TidyOr ss b y) : a = b ∧ x = y := by
  rcases ha with ⟨rfl, rfl, h1⟩ | ⟨rfl, r1, h1, h2, rfl, h3⟩ <;> rcases hb with ⟨rfl, rfl, g1⟩ | ⟨rfl, r2, g1, g2, rfl, g3⟩
  · exact ⟨rfl, rfl⟩
  · rcases h1 with h1 | ⟨r, h1, h2, h3⟩
    · rw [h1] at g1; cases g1
    · rw [h2.unique g2, g3] at h3; cases h3
  · rcases g1 with g1 | ⟨r, g1, g2, g3⟩
    · rw [g1] at h1; cases h1
    · rw [g2.unique h2, h3] at g3; cases g3
  · rw [h2.unique g2]; exact ⟨rfl, rfl⟩

theorem specTidy_any {Q : Ending → World → Prop} (v : Value) (ss : List St) (w : World) (h : StepsAt w v ss) (hl : ss.length ≤ 1048576) (hls : ∀ s ∈ ss, s.next.length ≤ 1048576)
    (hQ : ∀ v' ts b xs nvs w', Below w.heap.size w w' → TidyOr ss ts b → PO w.heap.size w' v' ts xs nvs → Q (.returned (.tuple #[.agg #[v'], .bool b])) w') :
    Calls Try.prog 64 #[.agg #[v]] w Q := by
  cases hok : okB ss
  · exact specTidy_no v ss w h hl hls hok fun w' h1 => hQ _ [] false [] (fun _ => .slice none 0 0) w' h1 (Or.inl ⟨rfl, rfl, Or.inl hok⟩) (PO.nil _ _ _)
  · exact specTidy_yes v ss w h hok (fun rs w' h1 h2 h3 => hQ _ [] false [] (fun _ => .slice none 0 0) w' h1 (Or.inl ⟨rfl, rfl, Or.inr ⟨rs, hok, h2, h3⟩⟩) (PO.nil _ _ _)) (fun v' rs xs nvs w' h1 h2 h3 h4 => hQ v' _ true xs nvs w' h1 (Or.inr ⟨rfl, rs, hok, h2, rfl, h3⟩) h4)
end Go.Proofs.Ytfbmeciolflgnaa
