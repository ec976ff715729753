/- What the model's l1Step and ProgOk answer. -/
import Derived.Test.YtljlgffkhocgkaaDoorSpec
namespace Go.Proofs.YtljlgffkhocgkaaDoor
open Go.RowKit

set_option maxHeartbeats 2000000 in
theorem l1Step_no {Q : Ending → World → Prop} (nv : Value) (s : St) (n : Int) (w : World) (h : IntsAt w nv s.next) (hl : s.next.length ≤ 1048576)
    (hlen : ¬ (s.next.length : Int) = many s.kind)
    (hQ : ∀ w', Below w.heap.size w w' → Q (.returned (.bool (stepB s n))) w') :
    Calls Tryd.prog 52 #[stepV s nv, .int .i64 n] w Q := by
  have HQ : Hid (∀ w', Below w.heap.size w w' → Q (.returned (.bool (stepB s n))) w') := hQ
  clear hQ
  rw [show stepB s n = false by simp [stepB, hlen]] at HQ
  obtain ⟨ao, b, o, cap, rfl, ha, hc⟩ := id h
  clear ha hc h
  obtain ⟨kind, dst, op, av, an, bv, bn, next⟩ := s
  simp only at hlen hl HQ
  unfold stepV
  have hne : ((next.length : Int) != many kind) = true := by simpa using hlen
  have hm : ∀ wx, Calls Tryd.prog 80 #[.int .i64 kind] wx fun e w' => e = .returned (.int .i64 (many kind)) ∧ w' = wx := fun wx => l1Many_any kind wx
  have HM : Hid (∀ wx, Calls Tryd.prog 80 #[.int .i64 kind] wx fun e w' => e = .returned (.int .i64 (many kind)) ∧ w' = wx) := hm
  clear hm
  generalize many kind = mk at *
  clear hlen
  go_enter Tryd.func52, Tryd.ntmps52
  go_wp2_with fail
  go_quiet ((go_at_call 80; exact Calls.quiet_of_same (HM.out _)))
  go_wp2
  exact HQ.out _ (below_drewN ((Below.refl _ _).alloc (Nat.le_refl _) _) _)

/-- What stands when the loop over Next is done, kind by kind. -/
theorem in_all {l : List Int} {n : Int} (h : ∀ j, j < l.length → inB (l.getD j 0) 0 (n - 1) = true) : l.all (fun x => inB x 0 (n - 1)) = true := by
  rw [List.all_eq_true]
  intro x hx
  obtain ⟨j, hj, rfl⟩ := List.mem_iff_getElem.1 hx
  have := h j hj
  simpa [List.getD_eq_getElem?_getD, hj] using this

set_option maxHeartbeats 4000000 in
theorem l1Step_yes {Q : Ending → World → Prop} (nv : Value) (s : St) (n : Int) (w : World) (h : IntsAt w nv s.next) (hl : s.next.length ≤ 1048576) (hn0 : 0 ≤ n) (hn1 : n ≤ 1048576)
    (hlen : (s.next.length : Int) = many s.kind)
    (hQ : ∀ w', Below w.heap.size w w' → Q (.returned (.bool (stepB s n))) w') :
    Calls Tryd.prog 52 #[stepV s nv, .int .i64 n] w Q := by
  have HQ : Hid (∀ w', Below w.heap.size w w' → Q (.returned (.bool (stepB s n))) w') := hQ
  clear hQ
  obtain ⟨ao, b, o, cap, rfl, ha, hc⟩ := h
  have HA : Hid _ := ha
  have HC : Hid _ := hc
  clear ha hc
  obtain ⟨kind, dst, op, av, an, bv, bn, next⟩ := s
  simp only at hlen hl HQ HA HC
  have HS : Hid (stepB ⟨kind, dst, op, av, an, bv, bn, next⟩ n = (next.all (fun x => inB x 0 (n - 1)) && restB ⟨kind, dst, op, av, an, bv, bn, next⟩)) := by
    simp [Hid, stepB, hlen]
  unfold stepV
  have hne : ((next.length : Int) != many kind) = false := by simpa using hlen
  have hm : ∀ wx, Calls Tryd.prog 80 #[.int .i64 kind] wx fun e w' => e = .returned (.int .i64 (many kind)) ∧ w' = wx := fun wx => l1Many_any kind wx
  have HM : Hid (∀ wx, Calls Tryd.prog 80 #[.int .i64 kind] wx fun e w' => e = .returned (.int .i64 (many kind)) ∧ w' = wx) := hm
  clear hm
  have HK : Hid (kind = 1 ∨ kind = 2 ∨ kind = 3 ∨ kind = 4 ∨ kind = 5 ∨ kind = 6 ∨ kind = 7) := many_cases (by omega)
  clear hlen
  generalize many kind = mk at *
  go_enter Tryd.func52, Tryd.ntmps52
  go_wp2_with fail
  go_quiet ((go_at_call 80; exact Calls.quiet_of_same (HM.out _)))
  go_wp2
  go_loopw [5] (fun i wr => ∃ k : Nat, k ≤ next.length ∧ i = .int .i64 k ∧ Below w.heap.size w wr ∧ w.heap.size < wr.heap.size ∧ (∀ j v, (#[.int .i64 kind, .int .i64 dst, .int .i64 op, .int .i64 av, .int .i64 an, .int .i64 bv, .int .i64 bn, .slice ao next.length cap] : Array Value)[j]? = some v → wr.cell? ⟨w.heap.size, j, none⟩ = some v) ∧ ∀ j, j < k → inB (next.getD j 0) 0 (n - 1) = true) (fun i _ => next.length - (intOf i).toNat)
  case atStart =>
    refine ⟨0, Nat.zero_le _, rfl, below_drewN ((Below.refl _ _).alloc (Nat.le_refl _) _) _, by simp, fun j v hj => ?_, by omega⟩
    simpa [go_sem] using hj
  case round =>
    obtain ⟨k, hk, rfl, hb, hsz, hown, hall⟩ := hrel
    have HALL : Hid _ := hall
    clear hall
    have q7 := hown 7 _ rfl
    by_cases hkl : k < next.length
    · obtain rfl := HA.out (by omega)
      have hcell := cell_keep hb (HC.out k hkl)
      have HOWN : Hid _ := hown
      clear hown
      go_wp2_with fail
      refine l6In_any _ _ _ _ ?_
      cases hin : inB next[k] 0 (n - 1)
      · have HF : Hid (stepB ⟨kind, dst, op, av, an, bv, bn, next⟩ n = false) := by
          refine HS.out.trans ?_
          rw [show next.all (fun x => inB x 0 (n - 1)) = false by rw [List.all_eq_false]; exact ⟨_, List.getElem_mem hkl, by simp [hin]⟩]
          rfl
        go_wp2
        exact HF.out ▸ HQ.out _ hb
      · go_wp2
        go_roundw
        case rel =>
          refine ⟨k + 1, by omega, by go_num, hb, hsz, HOWN.out, fun j hj => ?_⟩
          by_cases hjk : j = k
          · subst hjk
            simpa [List.getD_eq_getElem?_getD, hkl] using hin
          · exact HALL.out j (by omega)
        case measure => simp [intOf]; omega
    · obtain rfl : k = next.length := by omega
      have HR : Hid (stepB ⟨kind, dst, op, av, an, bv, bn, next⟩ n = restB ⟨kind, dst, op, av, an, bv, bn, next⟩) := by
        refine HS.out.trans ?_
        rw [in_all HALL.out]
        rfl
      have q0 := hown 0 _ rfl
      have q1 := hown 1 _ rfl
      have q2 := hown 2 _ rfl
      have q3 := hown 3 _ rfl
      have q4 := hown 4 _ rfl
      have q5 := hown 5 _ rfl
      have q6 := hown 6 _ rfl
      clear hown HALL HS HA HC HM
      rcases HK.out with rfl | rfl | rfl | rfl | rfl | rfl | rfl
      · clear HK
        cases edst : inB dst 0 11
        · rw [show stepB ⟨1, dst, op, av, an, bv, bn, next⟩ n = false from HR.out.trans (by simp [restB, edst])] at HQ
          clear HR
          go_wp2_with (first | (go_at_call 53; refine l6In_any _ _ _ _ ?_) | (go_at_call 54; refine l1Opnd_any _ _ _ ?_))
          refine HQ.out _ ?_
          repeat (first | refine Below.alloc ?_ (by first | omega | (simp <;> omega)) _ | exact hb)
        · cases eop : inB op 1 4
          · rw [show stepB ⟨1, dst, op, av, an, bv, bn, next⟩ n = false from HR.out.trans (by simp [restB, edst, eop])] at HQ
            clear HR
            go_wp2_with (first | (go_at_call 53; refine l6In_any _ _ _ _ ?_) | (go_at_call 54; refine l1Opnd_any _ _ _ ?_))
            refine HQ.out _ ?_
            repeat (first | refine Below.alloc ?_ (by first | omega | (simp <;> omega)) _ | exact hb)
          · cases ea : opndB av an
            · rw [show stepB ⟨1, dst, op, av, an, bv, bn, next⟩ n = false from HR.out.trans (by simp [restB, edst, eop, ea])] at HQ
              clear HR
              go_wp2_with (first | (go_at_call 53; refine l6In_any _ _ _ _ ?_) | (go_at_call 54; refine l1Opnd_any _ _ _ ?_))
              refine HQ.out _ ?_
              repeat (first | refine Below.alloc ?_ (by first | omega | (simp <;> omega)) _ | exact hb)
            · cases eb : opndB bv bn
              · rw [show stepB ⟨1, dst, op, av, an, bv, bn, next⟩ n = false from HR.out.trans (by simp [restB, edst, eop, ea, eb])] at HQ
                clear HR
                go_wp2_with (first | (go_at_call 53; refine l6In_any _ _ _ _ ?_) | (go_at_call 54; refine l1Opnd_any _ _ _ ?_))
                refine HQ.out _ ?_
                repeat (first | refine Below.alloc ?_ (by first | omega | (simp <;> omega)) _ | exact hb)
              · rw [show stepB ⟨1, dst, op, av, an, bv, bn, next⟩ n = true from HR.out.trans (by simp [restB, edst, eop, ea, eb])] at HQ
                clear HR
                go_wp2_with (first | (go_at_call 53; refine l6In_any _ _ _ _ ?_) | (go_at_call 54; refine l1Opnd_any _ _ _ ?_))
                refine HQ.out _ ?_
                repeat (first | refine Below.alloc ?_ (by first | omega | (simp <;> omega)) _ | exact hb)
      · clear HK
        cases edst : inB dst 0 11
        · rw [show stepB ⟨2, dst, op, av, an, bv, bn, next⟩ n = false from HR.out.trans (by simp [restB, noneB, edst])] at HQ
          clear HR
          go_wp2_with (first | (go_at_call 53; refine l6In_any _ _ _ _ ?_) | (go_at_call 54; refine l1Opnd_any _ _ _ ?_))
          refine HQ.out _ ?_
          repeat (first | refine Below.alloc ?_ (by first | omega | (simp <;> omega)) _ | exact hb)
        · by_cases hop : op = 0
          · subst hop
            cases ea : opndB av an
            · rw [show stepB ⟨2, dst, 0, av, an, bv, bn, next⟩ n = false from HR.out.trans (by simp [restB, noneB, edst, ea])] at HQ
              clear HR
              go_wp2_with (first | (go_at_call 53; refine l6In_any _ _ _ _ ?_) | (go_at_call 54; refine l1Opnd_any _ _ _ ?_))
              refine HQ.out _ ?_
              repeat (first | refine Below.alloc ?_ (by first | omega | (simp <;> omega)) _ | exact hb)
            · by_cases hbv : bv = 0
              · subst hbv
                by_cases hbn : bn = 0
                · subst hbn
                  rw [show stepB ⟨2, dst, 0, av, an, 0, 0, next⟩ n = true from HR.out.trans (by simp [restB, noneB, edst, ea])] at HQ
                  clear HR
                  go_wp2_with (first | (go_at_call 53; refine l6In_any _ _ _ _ ?_) | (go_at_call 54; refine l1Opnd_any _ _ _ ?_))
                  refine HQ.out _ ?_
                  repeat (first | refine Below.alloc ?_ (by first | omega | (simp <;> omega)) _ | exact hb)
                · have gbn : (bn == 0) = false := by simp [hbn]
                  have kbn : (bn != 0) = true := by simp [hbn]
                  rw [show stepB ⟨2, dst, 0, av, an, 0, bn, next⟩ n = false from HR.out.trans (by simp [restB, noneB, edst, ea, hbn])] at HQ
                  clear HR
                  go_wp2_with (first | (go_at_call 53; refine l6In_any _ _ _ _ ?_) | (go_at_call 54; refine l1Opnd_any _ _ _ ?_))
                  refine HQ.out _ ?_
                  repeat (first | refine Below.alloc ?_ (by first | omega | (simp <;> omega)) _ | exact hb)
              · have gbv : (bv == 0) = false := by simp [hbv]
                have kbv : (bv != 0) = true := by simp [hbv]
                rw [show stepB ⟨2, dst, 0, av, an, bv, bn, next⟩ n = false from HR.out.trans (by simp [restB, noneB, edst, ea, hbv])] at HQ
                clear HR
                go_wp2_with (first | (go_at_call 53; refine l6In_any _ _ _ _ ?_) | (go_at_call 54; refine l1Opnd_any _ _ _ ?_))
                refine HQ.out _ ?_
                repeat (first | refine Below.alloc ?_ (by first | omega | (simp <;> omega)) _ | exact hb)
          · have gop : (op == 0) = false := by simp [hop]
            have kop : (op != 0) = true := by simp [hop]
            rw [show stepB ⟨2, dst, op, av, an, bv, bn, next⟩ n = false from HR.out.trans (by simp [restB, noneB, edst, hop])] at HQ
            clear HR
            go_wp2_with (first | (go_at_call 53; refine l6In_any _ _ _ _ ?_) | (go_at_call 54; refine l1Opnd_any _ _ _ ?_))
            refine HQ.out _ ?_
            repeat (first | refine Below.alloc ?_ (by first | omega | (simp <;> omega)) _ | exact hb)
      · clear HK
        cases edst : inB dst 0 11
        · rw [show stepB ⟨3, dst, op, av, an, bv, bn, next⟩ n = false from HR.out.trans (by simp [restB, noneB, edst])] at HQ
          clear HR
          go_wp2_with (first | (go_at_call 53; refine l6In_any _ _ _ _ ?_) | (go_at_call 54; refine l1Opnd_any _ _ _ ?_))
          refine HQ.out _ ?_
          repeat (first | refine Below.alloc ?_ (by first | omega | (simp <;> omega)) _ | exact hb)
        · by_cases hop : op = 0
          · subst hop
            by_cases hav : av = 0
            · subst hav
              by_cases han : an = 0
              · subst han
                by_cases hbv : bv = 0
                · subst hbv
                  by_cases hbn : bn = 0
                  · subst hbn
                    rw [show stepB ⟨3, dst, 0, 0, 0, 0, 0, next⟩ n = true from HR.out.trans (by simp [restB, noneB, edst])] at HQ
                    clear HR
                    go_wp2_with (first | (go_at_call 53; refine l6In_any _ _ _ _ ?_) | (go_at_call 54; refine l1Opnd_any _ _ _ ?_))
                    refine HQ.out _ ?_
                    repeat (first | refine Below.alloc ?_ (by first | omega | (simp <;> omega)) _ | exact hb)
                  · have gbn : (bn == 0) = false := by simp [hbn]
                    have kbn : (bn != 0) = true := by simp [hbn]
                    rw [show stepB ⟨3, dst, 0, 0, 0, 0, bn, next⟩ n = false from HR.out.trans (by simp [restB, noneB, edst, hbn])] at HQ
                    clear HR
                    go_wp2_with (first | (go_at_call 53; refine l6In_any _ _ _ _ ?_) | (go_at_call 54; refine l1Opnd_any _ _ _ ?_))
                    refine HQ.out _ ?_
                    repeat (first | refine Below.alloc ?_ (by first | omega | (simp <;> omega)) _ | exact hb)
                · have gbv : (bv == 0) = false := by simp [hbv]
                  have kbv : (bv != 0) = true := by simp [hbv]
                  rw [show stepB ⟨3, dst, 0, 0, 0, bv, bn, next⟩ n = false from HR.out.trans (by simp [restB, noneB, edst, hbv])] at HQ
                  clear HR
                  go_wp2_with (first | (go_at_call 53; refine l6In_any _ _ _ _ ?_) | (go_at_call 54; refine l1Opnd_any _ _ _ ?_))
                  refine HQ.out _ ?_
                  repeat (first | refine Below.alloc ?_ (by first | omega | (simp <;> omega)) _ | exact hb)
              · have gan : (an == 0) = false := by simp [han]
                have kan : (an != 0) = true := by simp [han]
                rw [show stepB ⟨3, dst, 0, 0, an, bv, bn, next⟩ n = false from HR.out.trans (by simp [restB, noneB, edst, han])] at HQ
                clear HR
                go_wp2_with (first | (go_at_call 53; refine l6In_any _ _ _ _ ?_) | (go_at_call 54; refine l1Opnd_any _ _ _ ?_))
                refine HQ.out _ ?_
                repeat (first | refine Below.alloc ?_ (by first | omega | (simp <;> omega)) _ | exact hb)
            · have gav : (av == 0) = false := by simp [hav]
              have kav : (av != 0) = true := by simp [hav]
              rw [show stepB ⟨3, dst, 0, av, an, bv, bn, next⟩ n = false from HR.out.trans (by simp [restB, noneB, edst, hav])] at HQ
              clear HR
              go_wp2_with (first | (go_at_call 53; refine l6In_any _ _ _ _ ?_) | (go_at_call 54; refine l1Opnd_any _ _ _ ?_))
              refine HQ.out _ ?_
              repeat (first | refine Below.alloc ?_ (by first | omega | (simp <;> omega)) _ | exact hb)
          · have gop : (op == 0) = false := by simp [hop]
            have kop : (op != 0) = true := by simp [hop]
            rw [show stepB ⟨3, dst, op, av, an, bv, bn, next⟩ n = false from HR.out.trans (by simp [restB, noneB, edst, hop])] at HQ
            clear HR
            go_wp2_with (first | (go_at_call 53; refine l6In_any _ _ _ _ ?_) | (go_at_call 54; refine l1Opnd_any _ _ _ ?_))
            refine HQ.out _ ?_
            repeat (first | refine Below.alloc ?_ (by first | omega | (simp <;> omega)) _ | exact hb)
      · clear HK
        by_cases hdst : dst = 0
        · subst hdst
          by_cases hop : op = 0
          · subst hop
            cases ea : opndB av an
            · rw [show stepB ⟨4, 0, 0, av, an, bv, bn, next⟩ n = false from HR.out.trans (by simp [restB, noneB, ea])] at HQ
              clear HR
              go_wp2_with (first | (go_at_call 53; refine l6In_any _ _ _ _ ?_) | (go_at_call 54; refine l1Opnd_any _ _ _ ?_))
              refine HQ.out _ ?_
              repeat (first | refine Below.alloc ?_ (by first | omega | (simp <;> omega)) _ | exact hb)
            · by_cases hbv : bv = 0
              · subst hbv
                by_cases hbn : bn = 0
                · subst hbn
                  rw [show stepB ⟨4, 0, 0, av, an, 0, 0, next⟩ n = true from HR.out.trans (by simp [restB, noneB, ea])] at HQ
                  clear HR
                  go_wp2_with (first | (go_at_call 53; refine l6In_any _ _ _ _ ?_) | (go_at_call 54; refine l1Opnd_any _ _ _ ?_))
                  refine HQ.out _ ?_
                  repeat (first | refine Below.alloc ?_ (by first | omega | (simp <;> omega)) _ | exact hb)
                · have gbn : (bn == 0) = false := by simp [hbn]
                  have kbn : (bn != 0) = true := by simp [hbn]
                  rw [show stepB ⟨4, 0, 0, av, an, 0, bn, next⟩ n = false from HR.out.trans (by simp [restB, noneB, ea, hbn])] at HQ
                  clear HR
                  go_wp2_with (first | (go_at_call 53; refine l6In_any _ _ _ _ ?_) | (go_at_call 54; refine l1Opnd_any _ _ _ ?_))
                  refine HQ.out _ ?_
                  repeat (first | refine Below.alloc ?_ (by first | omega | (simp <;> omega)) _ | exact hb)
              · have gbv : (bv == 0) = false := by simp [hbv]
                have kbv : (bv != 0) = true := by simp [hbv]
                rw [show stepB ⟨4, 0, 0, av, an, bv, bn, next⟩ n = false from HR.out.trans (by simp [restB, noneB, ea, hbv])] at HQ
                clear HR
                go_wp2_with (first | (go_at_call 53; refine l6In_any _ _ _ _ ?_) | (go_at_call 54; refine l1Opnd_any _ _ _ ?_))
                refine HQ.out _ ?_
                repeat (first | refine Below.alloc ?_ (by first | omega | (simp <;> omega)) _ | exact hb)
          · have gop : (op == 0) = false := by simp [hop]
            have kop : (op != 0) = true := by simp [hop]
            rw [show stepB ⟨4, 0, op, av, an, bv, bn, next⟩ n = false from HR.out.trans (by simp [restB, noneB, hop])] at HQ
            clear HR
            go_wp2_with (first | (go_at_call 53; refine l6In_any _ _ _ _ ?_) | (go_at_call 54; refine l1Opnd_any _ _ _ ?_))
            refine HQ.out _ ?_
            repeat (first | refine Below.alloc ?_ (by first | omega | (simp <;> omega)) _ | exact hb)
        · have gdst : (dst == 0) = false := by simp [hdst]
          have kdst : (dst != 0) = true := by simp [hdst]
          rw [show stepB ⟨4, dst, op, av, an, bv, bn, next⟩ n = false from HR.out.trans (by simp [restB, noneB, hdst])] at HQ
          clear HR
          go_wp2_with (first | (go_at_call 53; refine l6In_any _ _ _ _ ?_) | (go_at_call 54; refine l1Opnd_any _ _ _ ?_))
          refine HQ.out _ ?_
          repeat (first | refine Below.alloc ?_ (by first | omega | (simp <;> omega)) _ | exact hb)
      · clear HK
        by_cases hdst : dst = 0
        · subst hdst
          by_cases hop : op = 0
          · subst hop
            cases ea : opndB av an
            · rw [show stepB ⟨5, 0, 0, av, an, bv, bn, next⟩ n = false from HR.out.trans (by simp [restB, noneB, ea])] at HQ
              clear HR
              go_wp2_with (first | (go_at_call 53; refine l6In_any _ _ _ _ ?_) | (go_at_call 54; refine l1Opnd_any _ _ _ ?_))
              refine HQ.out _ ?_
              repeat (first | refine Below.alloc ?_ (by first | omega | (simp <;> omega)) _ | exact hb)
            · by_cases hbv : bv = 0
              · subst hbv
                by_cases hbn : bn = 0
                · subst hbn
                  rw [show stepB ⟨5, 0, 0, av, an, 0, 0, next⟩ n = true from HR.out.trans (by simp [restB, noneB, ea])] at HQ
                  clear HR
                  go_wp2_with (first | (go_at_call 53; refine l6In_any _ _ _ _ ?_) | (go_at_call 54; refine l1Opnd_any _ _ _ ?_))
                  refine HQ.out _ ?_
                  repeat (first | refine Below.alloc ?_ (by first | omega | (simp <;> omega)) _ | exact hb)
                · have gbn : (bn == 0) = false := by simp [hbn]
                  have kbn : (bn != 0) = true := by simp [hbn]
                  rw [show stepB ⟨5, 0, 0, av, an, 0, bn, next⟩ n = false from HR.out.trans (by simp [restB, noneB, ea, hbn])] at HQ
                  clear HR
                  go_wp2_with (first | (go_at_call 53; refine l6In_any _ _ _ _ ?_) | (go_at_call 54; refine l1Opnd_any _ _ _ ?_))
                  refine HQ.out _ ?_
                  repeat (first | refine Below.alloc ?_ (by first | omega | (simp <;> omega)) _ | exact hb)
              · have gbv : (bv == 0) = false := by simp [hbv]
                have kbv : (bv != 0) = true := by simp [hbv]
                rw [show stepB ⟨5, 0, 0, av, an, bv, bn, next⟩ n = false from HR.out.trans (by simp [restB, noneB, ea, hbv])] at HQ
                clear HR
                go_wp2_with (first | (go_at_call 53; refine l6In_any _ _ _ _ ?_) | (go_at_call 54; refine l1Opnd_any _ _ _ ?_))
                refine HQ.out _ ?_
                repeat (first | refine Below.alloc ?_ (by first | omega | (simp <;> omega)) _ | exact hb)
          · have gop : (op == 0) = false := by simp [hop]
            have kop : (op != 0) = true := by simp [hop]
            rw [show stepB ⟨5, 0, op, av, an, bv, bn, next⟩ n = false from HR.out.trans (by simp [restB, noneB, hop])] at HQ
            clear HR
            go_wp2_with (first | (go_at_call 53; refine l6In_any _ _ _ _ ?_) | (go_at_call 54; refine l1Opnd_any _ _ _ ?_))
            refine HQ.out _ ?_
            repeat (first | refine Below.alloc ?_ (by first | omega | (simp <;> omega)) _ | exact hb)
        · have gdst : (dst == 0) = false := by simp [hdst]
          have kdst : (dst != 0) = true := by simp [hdst]
          rw [show stepB ⟨5, dst, op, av, an, bv, bn, next⟩ n = false from HR.out.trans (by simp [restB, noneB, hdst])] at HQ
          clear HR
          go_wp2_with (first | (go_at_call 53; refine l6In_any _ _ _ _ ?_) | (go_at_call 54; refine l1Opnd_any _ _ _ ?_))
          refine HQ.out _ ?_
          repeat (first | refine Below.alloc ?_ (by first | omega | (simp <;> omega)) _ | exact hb)
      · clear HK
        by_cases hdst : dst = 0
        · subst hdst
          by_cases hop : op = 0
          · subst hop
            by_cases hav : av = 0
            · subst hav
              by_cases han : an = 0
              · subst han
                by_cases hbv : bv = 0
                · subst hbv
                  by_cases hbn : bn = 0
                  · subst hbn
                    rw [show stepB ⟨6, 0, 0, 0, 0, 0, 0, next⟩ n = true from HR.out.trans (by simp [restB, noneB])] at HQ
                    clear HR
                    go_wp2_with (first | (go_at_call 53; refine l6In_any _ _ _ _ ?_) | (go_at_call 54; refine l1Opnd_any _ _ _ ?_))
                    refine HQ.out _ ?_
                    repeat (first | refine Below.alloc ?_ (by first | omega | (simp <;> omega)) _ | exact hb)
                  · have gbn : (bn == 0) = false := by simp [hbn]
                    have kbn : (bn != 0) = true := by simp [hbn]
                    rw [show stepB ⟨6, 0, 0, 0, 0, 0, bn, next⟩ n = false from HR.out.trans (by simp [restB, noneB, hbn])] at HQ
                    clear HR
                    go_wp2_with (first | (go_at_call 53; refine l6In_any _ _ _ _ ?_) | (go_at_call 54; refine l1Opnd_any _ _ _ ?_))
                    refine HQ.out _ ?_
                    repeat (first | refine Below.alloc ?_ (by first | omega | (simp <;> omega)) _ | exact hb)
                · have gbv : (bv == 0) = false := by simp [hbv]
                  have kbv : (bv != 0) = true := by simp [hbv]
                  rw [show stepB ⟨6, 0, 0, 0, 0, bv, bn, next⟩ n = false from HR.out.trans (by simp [restB, noneB, hbv])] at HQ
                  clear HR
                  go_wp2_with (first | (go_at_call 53; refine l6In_any _ _ _ _ ?_) | (go_at_call 54; refine l1Opnd_any _ _ _ ?_))
                  refine HQ.out _ ?_
                  repeat (first | refine Below.alloc ?_ (by first | omega | (simp <;> omega)) _ | exact hb)
              · have gan : (an == 0) = false := by simp [han]
                have kan : (an != 0) = true := by simp [han]
                rw [show stepB ⟨6, 0, 0, 0, an, bv, bn, next⟩ n = false from HR.out.trans (by simp [restB, noneB, han])] at HQ
                clear HR
                go_wp2_with (first | (go_at_call 53; refine l6In_any _ _ _ _ ?_) | (go_at_call 54; refine l1Opnd_any _ _ _ ?_))
                refine HQ.out _ ?_
                repeat (first | refine Below.alloc ?_ (by first | omega | (simp <;> omega)) _ | exact hb)
            · have gav : (av == 0) = false := by simp [hav]
              have kav : (av != 0) = true := by simp [hav]
              rw [show stepB ⟨6, 0, 0, av, an, bv, bn, next⟩ n = false from HR.out.trans (by simp [restB, noneB, hav])] at HQ
              clear HR
              go_wp2_with (first | (go_at_call 53; refine l6In_any _ _ _ _ ?_) | (go_at_call 54; refine l1Opnd_any _ _ _ ?_))
              refine HQ.out _ ?_
              repeat (first | refine Below.alloc ?_ (by first | omega | (simp <;> omega)) _ | exact hb)
          · have gop : (op == 0) = false := by simp [hop]
            have kop : (op != 0) = true := by simp [hop]
            rw [show stepB ⟨6, 0, op, av, an, bv, bn, next⟩ n = false from HR.out.trans (by simp [restB, noneB, hop])] at HQ
            clear HR
            go_wp2_with (first | (go_at_call 53; refine l6In_any _ _ _ _ ?_) | (go_at_call 54; refine l1Opnd_any _ _ _ ?_))
            refine HQ.out _ ?_
            repeat (first | refine Below.alloc ?_ (by first | omega | (simp <;> omega)) _ | exact hb)
        · have gdst : (dst == 0) = false := by simp [hdst]
          have kdst : (dst != 0) = true := by simp [hdst]
          rw [show stepB ⟨6, dst, op, av, an, bv, bn, next⟩ n = false from HR.out.trans (by simp [restB, noneB, hdst])] at HQ
          clear HR
          go_wp2_with (first | (go_at_call 53; refine l6In_any _ _ _ _ ?_) | (go_at_call 54; refine l1Opnd_any _ _ _ ?_))
          refine HQ.out _ ?_
          repeat (first | refine Below.alloc ?_ (by first | omega | (simp <;> omega)) _ | exact hb)
      · clear HK
        by_cases hdst : dst = 0
        · subst hdst
          by_cases hop : op = 0
          · subst hop
            by_cases hav : av = 0
            · subst hav
              by_cases han : an = 0
              · subst han
                by_cases hbv : bv = 0
                · subst hbv
                  by_cases hbn : bn = 0
                  · subst hbn
                    rw [show stepB ⟨7, 0, 0, 0, 0, 0, 0, next⟩ n = true from HR.out.trans (by simp [restB, noneB])] at HQ
                    clear HR
                    go_wp2_with (first | (go_at_call 53; refine l6In_any _ _ _ _ ?_) | (go_at_call 54; refine l1Opnd_any _ _ _ ?_))
                    refine HQ.out _ ?_
                    repeat (first | refine Below.alloc ?_ (by first | omega | (simp <;> omega)) _ | exact hb)
                  · have gbn : (bn == 0) = false := by simp [hbn]
                    have kbn : (bn != 0) = true := by simp [hbn]
                    rw [show stepB ⟨7, 0, 0, 0, 0, 0, bn, next⟩ n = false from HR.out.trans (by simp [restB, noneB, hbn])] at HQ
                    clear HR
                    go_wp2_with (first | (go_at_call 53; refine l6In_any _ _ _ _ ?_) | (go_at_call 54; refine l1Opnd_any _ _ _ ?_))
                    refine HQ.out _ ?_
                    repeat (first | refine Below.alloc ?_ (by first | omega | (simp <;> omega)) _ | exact hb)
                · have gbv : (bv == 0) = false := by simp [hbv]
                  have kbv : (bv != 0) = true := by simp [hbv]
                  rw [show stepB ⟨7, 0, 0, 0, 0, bv, bn, next⟩ n = false from HR.out.trans (by simp [restB, noneB, hbv])] at HQ
                  clear HR
                  go_wp2_with (first | (go_at_call 53; refine l6In_any _ _ _ _ ?_) | (go_at_call 54; refine l1Opnd_any _ _ _ ?_))
                  refine HQ.out _ ?_
                  repeat (first | refine Below.alloc ?_ (by first | omega | (simp <;> omega)) _ | exact hb)
              · have gan : (an == 0) = false := by simp [han]
                have kan : (an != 0) = true := by simp [han]
                rw [show stepB ⟨7, 0, 0, 0, an, bv, bn, next⟩ n = false from HR.out.trans (by simp [restB, noneB, han])] at HQ
                clear HR
                go_wp2_with (first | (go_at_call 53; refine l6In_any _ _ _ _ ?_) | (go_at_call 54; refine l1Opnd_any _ _ _ ?_))
                refine HQ.out _ ?_
                repeat (first | refine Below.alloc ?_ (by first | omega | (simp <;> omega)) _ | exact hb)
            · have gav : (av == 0) = false := by simp [hav]
              have kav : (av != 0) = true := by simp [hav]
              rw [show stepB ⟨7, 0, 0, av, an, bv, bn, next⟩ n = false from HR.out.trans (by simp [restB, noneB, hav])] at HQ
              clear HR
              go_wp2_with (first | (go_at_call 53; refine l6In_any _ _ _ _ ?_) | (go_at_call 54; refine l1Opnd_any _ _ _ ?_))
              refine HQ.out _ ?_
              repeat (first | refine Below.alloc ?_ (by first | omega | (simp <;> omega)) _ | exact hb)
          · have gop : (op == 0) = false := by simp [hop]
            have kop : (op != 0) = true := by simp [hop]
            rw [show stepB ⟨7, 0, op, av, an, bv, bn, next⟩ n = false from HR.out.trans (by simp [restB, noneB, hop])] at HQ
            clear HR
            go_wp2_with (first | (go_at_call 53; refine l6In_any _ _ _ _ ?_) | (go_at_call 54; refine l1Opnd_any _ _ _ ?_))
            refine HQ.out _ ?_
            repeat (first | refine Below.alloc ?_ (by first | omega | (simp <;> omega)) _ | exact hb)
        · have gdst : (dst == 0) = false := by simp [hdst]
          have kdst : (dst != 0) = true := by simp [hdst]
          rw [show stepB ⟨7, dst, op, av, an, bv, bn, next⟩ n = false from HR.out.trans (by simp [restB, noneB, hdst])] at HQ
          clear HR
          go_wp2_with (first | (go_at_call 53; refine l6In_any _ _ _ _ ?_) | (go_at_call 54; refine l1Opnd_any _ _ _ ?_))
          refine HQ.out _ ?_
          repeat (first | refine Below.alloc ?_ (by first | omega | (simp <;> omega)) _ | exact hb)

end Go.Proofs.YtljlgffkhocgkaaDoor
