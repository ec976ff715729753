/- What is known of drawn programs: what is put elsewhere leaves them; a tidied one is ok. -/
import Derived.Test.YtljlgffkhocgkaaDoorDraw67
import Derived.Test.YtljlgffkhocgkaaDoorSpecTidyM
import Derived.Test.YtljlgffkhocgkaaDoorTidy26
namespace Go.Proofs.YtljlgffkhocgkaaDoor
open Go.RowKit

theorem StepsNF.put {lo : Nat} {w : World} {v : Value} {ss : List St} (h : StepsNF lo w v ss) {a : Addr} (ha : a.block < lo) (u : Value) : StepsNF lo (w.setCell a u) v ss := by
  obtain ⟨ao, b, o, cap, hv, h1, hb, hc⟩ := h
  refine ⟨ao, b, o, cap, hv, h1, hb, fun i s hs => ?_⟩
  obtain ⟨nv, e1, e2, e3⟩ := hc i s hs
  obtain ⟨ao', b', o', cap', f1, f2, f3, f4⟩ := e2
  exact ⟨nv, e1.setOther (by omega) _, ⟨ao', b', o', cap', f1, f2, f3, fun i hi => by rw [cell_setOther _ _ _ _ (by show b' ≠ a.block; omega)]; exact f4 i hi⟩, e3⟩

theorem StepsNF.mono {lo lo' : Nat} {w : World} {v : Value} {ss : List St} (h : StepsNF lo w v ss) (hl : lo' ≤ lo) : StepsNF lo' w v ss := by
  obtain ⟨ao, b, o, cap, hv, h1, hb, hc⟩ := h
  refine ⟨ao, b, o, cap, hv, h1, Nat.le_trans hl hb, fun i s hs => ?_⟩
  obtain ⟨nv, e1, e2, e3⟩ := hc i s hs
  exact ⟨nv, e1, e2.mono hl, e3⟩

theorem PO.nf {lo : Nat} {w : World} {v : Value} {ss : List St} {xs : List Value} {nvs : Nat → Value} (h : PO lo w v ss xs nvs) : StepsNF lo w v ss := by
  rcases id h.row.2 with ⟨e, e2⟩ | ⟨g, cap, cur, e, _⟩
  · refine ⟨none, lo, 0, 0, by rw [e2]; exact e, fun hp => by omega, Nat.le_refl _, fun i s hs => ?_⟩
    have := (List.getElem?_eq_some_iff.1 hs).1
    omega
  · have hrow := h.row
    rw [e] at hrow
    refine ⟨_, g, 0, cap, e, fun _ => rfl, (hrow.lt g rfl).1, fun i s hs => ⟨nvs i, ?_, own_from (h.own i s hs), own_nice (h.own i s hs)⟩⟩
    have hi := (List.getElem?_eq_some_iff.1 hs).1
    have rd : ∀ j u, (cells8 s (nvs i))[j]? = some u → w.cell? ⟨g, i * 8 + j, none⟩ = some u := fun j u hu => by
      have hj : j < 8 := by have := (List.getElem?_eq_some_iff.1 hu).1; simpa [cells8] using this
      rw [hrow.cellAt _ (by omega)]
      exact h.cells i s hs j u hu
    rw [Nat.zero_add]
    exact ⟨rd 0 _ rfl, rd 1 _ rfl, rd 2 _ rfl, rd 3 _ rfl, rd 4 _ rfl, rd 5 _ rfl, rd 6 _ rfl, rd 7 _ rfl⟩

theorem ok_many {ss : List St} (h : okB ss = true) : ∀ s ∈ ss, s.next.length ≤ 60 := fun s hs => Nat.le_trans ((ok_fit h).two s hs) (by decide)

/-- What is made tidy of a drawn program is there, and ok. -/
theorem tidyOr_small {ss ts : List St} {b : Bool} (hok : okB ss = true) (hl : ss.length ≤ 15) (h : TidyOr ss ts b) : okB ts = true := by
  rcases h with ⟨_, _, h | ⟨rs, h1, h2, h3⟩⟩ | ⟨_, rs, h1, h2, rfl, h3⟩
  · rw [hok] at h
    cases h
  · have := tidy_ok hok h2 (by have := tidy_len hok h2; omega)
    unfold tidyL at h3
    unfold tidyQ at this
    rw [this] at h3
    cases h3
  · exact h3
end Go.Proofs.YtljlgffkhocgkaaDoor
