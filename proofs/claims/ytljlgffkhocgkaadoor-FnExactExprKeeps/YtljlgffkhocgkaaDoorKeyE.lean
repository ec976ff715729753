/- A reckoning as the key of a map: what it reads as; that two that are read alike are one. -/
import Derived.Test.YtljlgffkhocgkaaDoorExprP
import Derived.Test.YtljlgffkhocgkaaDoorChecked
import Derived.DeepKeys4
import Derived.Maps.OwnSet
namespace Go.Proofs.YtljlgffkhocgkaaDoor
open Go.Maps

theorem laidOutK : laidOutB Tryd.prog = true := by kernel_rfl
theorem rowE : (38 : TypeId) < Tryd.prog.types.size := of_decide_eq_true (by kernel_rfl)
theorem wideE : (match Tryd.prog.underlying 38 with | some (.array _ _) | some (.struct _) => true | _ => false) = true := by kernel_rfl
set_option maxRecDepth 100000 in
theorem lawE : Keyed Tryd.prog 38 := Keyed.of_law (deep_law_laid laidOutK (m := 4) (by omega) rowE (by kernel_rfl) wideE)
theorem keyTypeE : Tryd.prog.keyType 38 = true := by kernel_rfl
theorem cellsE : Tryd.prog.cellsOf 38 = 5 := by kernel_rfl
theorem cellsO : Tryd.prog.cellsOf 36 = 2 := by kernel_rfl
theorem cellsI : Tryd.prog.cellsOf 3 = 1 := by kernel_rfl
theorem typesE : ∃ m, Tryd.prog.types.size + 1 = m + 3 := ⟨Tryd.prog.types.size - 2, by have : 2 ≤ Tryd.prog.types.size := of_decide_eq_true (by kernel_rfl); omega⟩

def klE (e : E5) : Lit := .string (keyBytes [.int .i64 e.op, .int .i64 e.av, .int .i64 e.an, .int .i64 e.bv, .int .i64 e.bn])

theorem wf_small {a : Int} (h0 : -1 ≤ a) (h1 : a ≤ 65535) : (Lit.int .i64 a).wf = true := by
  simp [Lit.wf, IntKind.min, IntKind.max, IntKind.signed, IntKind.bits]
  omega

theorem keyLitsO (d : Nat) {a b : Int} (wa : (Lit.int .i64 a).wf = true) (wb : (Lit.int .i64 b).wf = true) : Tryd.prog.keyLits (d + 2) 36 [.int .i64 a, .int .i64 b] = some [.int .i64 a, .int .i64 b] := by
  unfold Program.keyLits
  simp only [Tryd.underlying36]
  rw [if_pos ⟨by rw [cellsO]; rfl, by kernel_rfl⟩]
  simp [Program.keyLits, Tryd.underlying3, cellsI, wa, wb]

theorem keyE {e : E5} (h : exprB e = true) : keyOf Tryd.prog 38 (exV e) = some (klE e) := by
  obtain ⟨⟨o1, o2⟩, ⟨a1, a2, a3, a4⟩, ⟨b1, b2, b3, b4⟩⟩ := exprB_small h
  have w0 := wf_small (a := e.op) (by omega) (by omega)
  have w1 := wf_small (a := e.av) (by omega) (by omega)
  have w2 := wf_small (a := e.an) (by omega) (by omega)
  have w3 := wf_small (a := e.bv) (by omega) (by omega)
  have w4 := wf_small (a := e.bn) (by omega) (by omega)
  obtain ⟨m, hm⟩ := typesE
  unfold keyOf exV
  simp only [Tryd.underlying38]
  rw [if_pos (by simp [keyTypeE, Value.formed, Tryd.underlying38, cellsE]), hm]
  unfold Program.keyLits
  simp only [Tryd.underlying38, Value.cells]
  rw [if_pos ⟨by rw [cellsE]; rfl, by kernel_rfl⟩]
  have k1 := keyLitsO m w1 w2
  have k2 := keyLitsO m w3 w4
  have k0 : Tryd.prog.keyLits (m + 2) 3 [.int .i64 e.op] = some [.int .i64 e.op] := by
    unfold Program.keyLits
    simp only [Tryd.underlying3]
    simp [w0]
  simp [cellsO, cellsI, k0, k1, k2, klE]

theorem klE_inj {e e' : E5} (h : exprB e = true) (h' : exprB e' = true) (k : klE e = klE e') : e = e' := by
  have h1 := lawE.inj (keyE h) (by rw [k]; exact keyE h')
  unfold exV at h1
  cases e
  cases e'
  simp at h1
  simp [h1]

theorem klE_key {e : E5} (h : exprB e = true) : WideAt.IsKeyLit (klE e) := lawE.key (keyE h)

/-- A map's datum tells of each reckoning its place in a list. -/
def Agr (D : DataW Unit) (es : List E5) : Prop := ∀ e, exprB e = true → (Maps.has D (klE e) = decide (e ∈ es)) ∧ ∀ i : Nat, es[i]? = some e → D.atKey (klE e) (.lit (.int .i64 0)) = .lit (.int .i64 (i : Int))

theorem Agr.nil : Agr (.map []) [] := fun e _ => ⟨by simp [Maps.has_eq], fun i hi => by simp at hi⟩

theorem Agr.snoc {D : DataW Unit} {es : List E5} {e : E5} (h : Agr D es) (hD : IsMap D) (he : exprB e = true) (hn : e ∉ es) : Agr (D.put (klE e) (.lit (.int .i64 (es.length : Int)))) (es ++ [e]) := fun e' he' => by
  by_cases k : e' = e
  · subst k
    refine ⟨?_, fun i hi => ?_⟩
    · rw [has_put_same hD (klE_key he)]
      simp
    · rw [atKey_put_same hD (klE_key he)]
      rcases Nat.lt_or_ge i es.length with hl | hl
      · rw [List.getElem?_append_left hl] at hi
        exact absurd (List.mem_of_getElem? hi) hn
      · rw [List.getElem?_append_right hl] at hi
        have : i - es.length = 0 := by
          rcases Nat.eq_zero_or_pos (i - es.length) with e | e
          · exact e
          · rw [List.getElem?_eq_none (by simp; omega)] at hi
            cases hi
        have : i = es.length := by omega
        rw [this]
  · have hne : klE e' ≠ klE e := fun q => k (klE_inj he' he q)
    obtain ⟨h1, h2⟩ := h e' he'
    refine ⟨?_, fun i hi => ?_⟩
    · rw [has_put_other hne, h1]
      simp [k]
    · rw [atKey_put_other hne]
      rcases Nat.lt_or_ge i es.length with hl | hl
      · rw [List.getElem?_append_left hl] at hi
        exact h2 i hi
      · rw [List.getElem?_append_right hl] at hi
        have := List.mem_of_getElem? hi
        simp at this
        exact absurd this k
end Go.Proofs.YtljlgffkhocgkaaDoor
