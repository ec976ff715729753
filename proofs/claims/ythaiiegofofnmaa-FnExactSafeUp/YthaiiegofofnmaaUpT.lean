/- slices.Clone and slices.Reverse of a row of places. The program's SafeUp: the solver over those ahead; what is asked of a step, by closures. -/
import Derived.Test.YthaiiegofofnmaaKit
import Derived.Test.YthaiiegofofnmaaReachI
import Derived.Test.YthaiiegofofnmaaDownT
import Derived.Deep.AppendLies
import Derived.Deep.RegionLaw
import Derived.Lib.LazyBuf
namespace Go.Proofs.Ythaiiegofofnmaa
open Go.RowKit

/-- A row of the call's own, from block lo on, that holds these places. -/
def IntF (lo : Nat) (w : World) (g cap n : Nat) (f : Nat → Nat) : Prop := w.ownsRow lo 3 1 (.slice (some ⟨g, 0, none⟩) n cap) n ((List.range n).map (fun j => intV (f j)))

theorem IntF.cell {lo g cap n : Nat} {w : World} {f : Nat → Nat} (h : IntF lo w g cap n f) {j : Nat} (hj : j < n) : w.cell? ⟨g, j, none⟩ = some (.int .i64 (f j : Int)) := by
  rw [World.ownsRow.cellAt h j (by omega)]
  simp [hj, intV]

theorem IntF.frozen {lo g cap n : Nat} {w : World} {f : Nat → Nat} (h : IntF lo w g cap n f) (j : Nat) : w.frozen? ⟨g, j, none⟩ = false := World.ownsRow.frozenAt h j

theorem IntF.lt {lo g cap n : Nat} {w : World} {f : Nat → Nat} (h : IntF lo w g cap n f) : lo ≤ g ∧ g < w.heap.size := World.ownsRow.lt h g rfl

theorem IntF.congr {lo g cap n : Nat} {w : World} {f f' : Nat → Nat} (h : IntF lo w g cap n f) (e : ∀ j, j < n → f' j = f j) : IntF lo w g cap n f' := by
  have : (List.range n).map (fun j => intV (f' j)) = (List.range n).map (fun j => intV (f j)) := List.map_congr_left fun j hj => by rw [e j (by simpa using hj)]
  unfold IntF at *
  rw [this]
  exact h

theorem IntF.set {lo g cap n : Nat} {w : World} {f : Nat → Nat} (h : IntF lo w g cap n f) (x y : Nat) : IntF lo (w.setCell ⟨g, x, none⟩ (.int .i64 (y : Int))) g cap n (fun j => if j = x then y else f j) := by
  have h1 := (World.ownsRow.stored h x (.int .i64 (y : Int))).1
  unfold IntF
  have e : (List.range n).map (fun j => intV (if j = x then y else f j)) = ((List.range n).map (fun j => intV (f j))).set x (.int .i64 (y : Int)) := by
    apply List.ext_getElem?
    intro j
    rw [List.getElem?_set, List.getElem?_map, List.getElem?_map]
    by_cases hj : j < n
    · by_cases e : x = j
      · subst e
        simp [hj, intV]
      · have : ¬ j = x := fun h => e h.symm
        simp [hj, e, this]
    · have e1 : (List.range n)[j]? = none := List.getElem?_eq_none (by simp; omega)
      rw [e1]
      by_cases e : x = j
      · subst e; simp [hj]
      · simp [e]
  rw [e]
  exact h1

theorem infoIntC : (Try.prog.info? 3).map (fun i => (i.zero, i.size, i.bytes)) = some (some (.int .i64 0), 1, 8) := by kernel_rfl
theorem info_partsC {t : TypeId} {z : Value} {n k : Nat} (h : (Try.prog.info? t).map (fun i => (i.zero, i.size, i.bytes)) = some (some z, n, k)) : ∃ i, Try.prog.info? t = some i ∧ i.zero = some z ∧ i.size = n ∧ i.bytes = k := by
  simp only [Option.map_eq_some_iff, Prod.mk.injEq] at h
  obtain ⟨i, h1, h2, h3, h4⟩ := h
  exact ⟨i, h1, h2, h3, h4⟩

set_option maxRecDepth 100000 in
set_option maxHeartbeats 2000000 in
theorem clone_any {Q : Ending → World → Prop} (og oc : Nat) (ord : List Nat) (w : World) (h1 : 0 < ord.length) (hl : ord.length ≤ 60) (hO : ∀ i, i < ord.length → w.cell? ⟨og, i, none⟩ = some (intV (ord.getD i 0)))
    (hQ : ∀ g cap w', Below w.heap.size w w' → IntF w.heap.size w' g cap ord.length (fun j => ord.getD j 0) → Q (.returned (.slice (some ⟨g, 0, none⟩) ord.length cap)) w') :
    Calls Try.prog 71 #[.slice (some ⟨og, 0, none⟩) ord.length oc] w Q := by
  have HQ : Hid _ := hQ
  have HO : Hid (∀ i, i < ord.length → w.cell? ⟨og, i, none⟩ = some (intV (ord.getD i 0))) := hO
  clear hQ hO
  obtain ⟨i0, hi, hz0, hz1, hz2⟩ := info_partsC infoIntC
  have HB0 : Hid (∀ O, Below w.heap.size w (w.alloc O)) := fun O => (Below.refl _ _).alloc (Nat.le_refl _) O
  have HE : Hid ((w.alloc (.cells #[] 3)).ownsRow w.heap.size 3 1 (.slice (some ⟨w.heap.size, 0, none⟩) 0 0) 0 []) := World.ownsRow_lit (base := w.heap.size) (e := 3) (size := 1) w #[] 0 (Nat.le_refl _) (by decide) (by simp)
  have HN : Hid (∀ j u, (ord.map intV)[j]? = some u → (w.alloc (.cells #[] 3)).cell? ((⟨og, 0, none⟩ : Addr).add j) = some u) := fun j u hu => by
    rw [List.getElem?_map] at hu
    cases hj : ord[j]? with
    | none => rw [hj] at hu; cases hu
    | some z =>
      rw [hj] at hu
      simp at hu
      subst hu
      have hjl := (List.getElem?_eq_some_iff.1 hj).1
      have := cell_keep (HB0.out (.cells #[] 3)) (HO.out j hjl)
      rw [List.getD_eq_getElem?_getD, hj] at this
      rw [show (⟨og, 0, none⟩ : Addr).add j = ⟨og, j, none⟩ from by unfold Addr.add; split <;> simp_all]
      exact this
  have hnil := fun (w : World) => Go.run_eql_slice_nil (P := Try.prog) w 48 3 (some ⟨og, 0, none⟩) ord.length oc Try.underlying48
  simp only [Option.isNone] at hnil
  go_enter Try.func71, Try.ntmps71
  go_wp2_with (at_builtin; refine wpList_append_lies _ rfl (.tmp 5) (.tmp 6) 48 rfl w.heap.size 3 i0 (.int .i64 0) 1 8 Try.underlying48 hi hz0 hz1 hz2 rfl (by decide) (.slice (some ⟨w.heap.size, 0, none⟩) 0 0) 0 [] rfl HE.out ⟨og, 0, none⟩ ord.length oc (ord.map intV) rfl (by simp) HN.out (by intro u hu; obtain ⟨x, _, rfl⟩ := List.mem_map.1 hu; rfl) h1 (by unfold maxLen; omega) (by omega) (by simp) _ rfl ?_)
  intro g8 cap8 w8 hown8 hgrow8 hat8 hlt8
  have HB8 : Hid (Below w.heap.size w w8) := (HB0.out _).grown hgrow8 (by simp) (fun q hq => by simp [Value.ownBlock] at hq; omega)
  have HO8 : Hid (IntF w.heap.size w8 g8 cap8 ord.length (fun j => ord.getD j 0)) := by
    unfold IntF
    rw [Hid, show (List.range ord.length).map (fun j => intV (ord.getD j 0)) = ord.map intV from ?_]
    · simpa using hown8
    · apply List.ext_getElem?
      intro j
      rw [List.getElem?_map, List.getElem?_map]
      by_cases hj : j < ord.length
      · simp [hj]
      · simp [hj]
  clear hown8 hgrow8 hat8 hlt8
  go_wp2
  exact HQ.out _ _ _ HB8.out HO8.out

/-- Behind i swaps. -/
def revK (n i : Nat) (f : Nat → Nat) : Nat → Nat := fun k => if k < i ∨ n - 1 - i < k then f (n - 1 - k) else f k

set_option maxRecDepth 100000 in
set_option maxHeartbeats 2000000 in
theorem reverse_any {Q : Ending → World → Prop} (lo g cap n : Nat) (f : Nat → Nat) (w : World) (hn : n ≤ 60) (h1 : 0 < n) (h : IntF lo w g cap n f)
    (hQ : ∀ v w', Out g (g + 1) w w' → IntF lo w' g cap n (fun j => f (n - 1 - j)) → Q (.returned v) w') :
    Calls Try.prog 72 #[.slice (some ⟨g, 0, none⟩) n cap] w Q := by
  have HQ : Hid _ := hQ
  have HF0 : Hid (IntF lo w g cap n (revK n 0 f)) := h.congr fun j hj => by unfold revK; rw [if_neg (by omega)]
  clear hQ h
  go_enter Try.func72, Try.ntmps72
  go_wp2_with fail
  go_loopw [2, 3] (fun a b wr => ∃ i : Nat, 2 * i ≤ n ∧ a = .int .i64 i ∧ b = .int .i64 ((n : Int) - 1 - i) ∧ IntF lo wr g cap n (revK n i f) ∧ Out g (g + 1) w wr) (fun a _ _ => n - (intOf a).toNat)
  case atStart => exact ⟨0, by omega, rfl, by go_num, HF0.out, Out.refl _ _ _⟩
  case round =>
    clear HF0
    obtain ⟨i, hi, rfl, rfl, hf, ho⟩ := hrel
    have HF : Hid (IntF lo wr g cap n (revK n i f)) := hf
    have HO : Hid (Out g (g + 1) w wr) := ho
    by_cases hlt : (i : Int) < (n : Int) - 1 - i
    · have hil : i < n := by omega
      obtain ⟨j, hj⟩ : ∃ j : Nat, (n : Int) - 1 - i = (j : Int) := ⟨n - 1 - i, by omega⟩
      have hjn : j < n := by omega
      have hij : i < j := by omega
      rw [hj] at hlt ⊢
      have ci := hf.cell hil
      have cj := hf.cell hjn
      have fi := hf.frozen i
      have fj := hf.frozen j
      have e1 : revK n i f i = f i := by unfold revK; rw [if_neg (by omega)]
      have e2 : revK n i f j = f j := by unfold revK; rw [if_neg (by omega)]
      rw [e1] at ci
      rw [e2] at cj
      have HNX : Hid (IntF lo ((wr.setCell ⟨g, i, none⟩ (.int .i64 (f j : Int))).setCell ⟨g, j, none⟩ (.int .i64 (f i : Int))) g cap n (revK n (i + 1) f)) := ((hf.set i (f j)).set j (f i)).congr fun k hk => by
        unfold revK
        by_cases a1 : k = j
        · subst a1
          rw [if_pos rfl, if_pos (Or.inr (by omega))]
          congr 1
          omega
        · rw [if_neg a1]
          by_cases a2 : k = i
          · subst a2
            rw [if_pos rfl, if_pos (Or.inl (by omega))]
            congr 1
            omega
          · rw [if_neg a2]
            by_cases a3 : k < i ∨ n - 1 - i < k
            · rw [if_pos a3, if_pos (by omega)]
            · rw [if_neg a3, if_neg (by omega)]
      have hneq : ¬ i = j := by omega
      have hneq2 : ¬ j = i := by omega
      have hset2 : ∀ k, k < n → revK n (i + 1) f k = if k = i then f j else if k = j then f i else revK n i f k := fun k hk => by
        by_cases a1 : k = j
        · subst a1
          rw [show revK n (i + 1) f k = f (n - 1 - k) from if_pos (Or.inr (by omega)), if_neg hneq2, if_pos rfl]
          congr 1
          omega
        · by_cases a2 : k = i
          · subst a2
            rw [show revK n (k + 1) f k = f (n - 1 - k) from if_pos (Or.inl (by omega)), if_pos rfl]
            congr 1
            omega
          · rw [if_neg a2, if_neg a1]
            unfold revK
            by_cases a3 : k < i ∨ n - 1 - i < k
            · rw [if_pos a3, if_pos (by omega)]
            · rw [if_neg a3, if_neg (by omega)]
      have HNX2 : Hid (IntF lo ((wr.setCell ⟨g, j, none⟩ (.int .i64 (f i : Int))).setCell ⟨g, i, none⟩ (.int .i64 (f j : Int))) g cap n (revK n (i + 1) f)) := ((hf.set j (f i)).set i (f j)).congr hset2
      have HNO2 : Hid (Out g (g + 1) w ((wr.setCell ⟨g, j, none⟩ (.int .i64 (f i : Int))).setCell ⟨g, i, none⟩ (.int .i64 (f j : Int)))) := (ho.setCell (Nat.le_refl _) (by show g < g + 1; omega) _).setCell (Nat.le_refl _) (by show g < g + 1; omega) _
      have HNO : Hid (Out g (g + 1) w ((wr.setCell ⟨g, i, none⟩ (.int .i64 (f j : Int))).setCell ⟨g, j, none⟩ (.int .i64 (f i : Int)))) := (ho.setCell (Nat.le_refl _) (by show g < g + 1; omega) _).setCell (Nat.le_refl _) (by show g < g + 1; omega) _
      have hii : (i : Int) < (n : Int) := by omega
      have hji : (j : Int) < (n : Int) := by omega
      have hjj : (j : Int) - 1 = (n : Int) - 1 - ((i + 1 : Nat) : Int) := by omega
      have HJJ : Hid _ := hjj
      clear hf ho HF HO e1 e2 hset2 hjj
      go_wp2_with fail
      go_region_law (fail)
      all_goals
        go_wp2
        go_roundw
        case rel => exact ⟨i + 1, by omega, by go_num, by first | go_num | (rw [← HJJ.out]), by first | exact HNX.out | exact HNX2.out, by first | exact ⟨HNO.out.os, HNO.out.tape, HNO.out.output, HNO.out.size, HNO.out.block⟩ | exact ⟨HNO2.out.os, HNO2.out.tape, HNO2.out.output, HNO2.out.size, HNO2.out.block⟩⟩
        case measure => simp [intOf]; omega
    · have HE : Hid (IntF lo wr g cap n (fun j => f (n - 1 - j))) := hf.congr fun k hk => by
        unfold revK
        by_cases a3 : k < i ∨ n - 1 - i < k
        · rw [if_pos a3]
        · rw [if_neg a3]
          congr 1
          omega
      clear hf ho
      go_wp2
      go_end0
      exact HQ.out _ _ HO.out HE.out
end Go.Proofs.Ythaiiegofofnmaa
namespace Go.Proofs.Ythaiiegofofnmaa
open Go.RowKit

theorem order_facts {w : World} {V : Nat} {ss : List St} {e : E5} {ord : List Nat} {rs : List Bool} {A : Option Addr} {c og oc : Nat} {pv : Value} {bc bk : BitVec 64} (h : VS w V ss e ord rs A c og oc pv bc bk) (hok : okB ss = true) :
    ord.length ≤ 60 ∧ 0 < ord.length ∧ ∀ i, i ∈ ord ↔ i < ss.length ∧ rF rs i = true := by
  have hn := (ok_len hok).2
  refine ⟨Nat.le_trans (nodup_len h.io.nodup fun i hi => ((h.io.mem i).1 hi).1) hn, ?_, fun i => ?_⟩
  · obtain ⟨r, hr⟩ := h.io.last
    rw [hr]
    simp
  · rw [h.io.mem i]
    constructor
    · rintro ⟨h1, h2⟩
      refine ⟨h1, ?_⟩
      have := (h.re.2 i h1).2 h2
      unfold rF
      rw [List.getD_eq_getElem?_getD, this]
      rfl
    · rintro ⟨h1, h2⟩
      refine ⟨h1, (h.re.2 i h1).1 ?_⟩
      unfold rF at h2
      rw [List.getD_eq_getElem?_getD] at h2
      have hl : i < rs.length := by rw [h.re.1]; exact h1
      rw [List.getElem?_eq_getElem hl] at h2 ⊢
      simpa using h2

set_option maxRecDepth 100000 in
set_option maxHeartbeats 2000000 in
theorem mostByAhead_any {Q : Ending → World → Prop} {w : World} {V : Nat} {ss : List St} {e : E5} {ord : List Nat} {rs : List Bool} {A : Option Addr} {c og oc : Nat} {pv : Value} {bc bk : BitVec 64} (h : VS w V ss e ord rs A c og oc pv bc bk) (hok : okB ss = true) (ga : Nat) (lb : Array Value) (ea : ∀ args w, (callFunc ga args).run Try.prog w = .ok (.enter ga args) w)
    (F : (Nat → Bool) → Nat → Bool) (hm : Mono ss.length F) (hoff : ∀ (x i : Nat) (g : Nat → Bool), i < ss.length → (x : Int) ∉ pF ss rs i → F (offB g x) i = F g i) (hA : Asks ss.length (rF rs) ga lb w F)
    (hQ : ∀ g B W', Below w.heap.size w W' → w.heap.size ≤ B → Gr ss.length (rF rs) F g → W'.rowIs B 4 ss.length (fun j => .bool (g j)) → Q (.returned (.slice (some ⟨B, 0, none⟩) ss.length ss.length)) W') :
    Calls Try.prog 50 #[.pointer (some ⟨V, 0, none⟩), .func (.func ga) #[] lb] w Q := by
  have HQ : Hid _ := hQ
  have HV : Hid (VS w V ss e ord rs A c og oc pv bc bk) := h
  have HOK : Hid (okB ss = true) := hok
  have HM : Hid _ := hm
  have HOF : Hid _ := hoff
  have HA : Hid (Asks ss.length (rF rs) ga lb w F) := @hA
  have HEA : Hid _ := ea
  have c0 := h.c0
  have c1 := h.c1
  have hn := (ok_len hok).2
  have HL : Hid (∀ x, x < ss.length → rF rs x = true → (nextOf ss x).length ≤ 60 ∧ ∀ y ∈ nextOf ss x, 0 ≤ y ∧ y.toNat < ss.length ∧ rF rs y.toNat = true) := fun x hx hr => ⟨Nat.le_trans (next_len hok hx) (by decide), fun y hy => next_reach hok h.re hx hr hy⟩
  obtain ⟨hol, ho1, hom⟩ := order_facts h hok
  have HOM : Hid (∀ i, i ∈ ord ↔ i < ss.length ∧ rF rs i = true) := hom
  clear hQ hm hoff hA ea h hok hom
  have hmf : ∀ (fn : Fn) (first cap : Array Value) (w : World), (Instr.makeFunc fn first cap).run Try.prog w = .ok (.func fn first cap) w := fun _ _ _ _ => rfl
  go_enter Try.func50, Try.ntmps50
  go_wp2_with fail
  refine clone_any og oc ord _ ho1 hol (fun i hi => HV.out.od i hi) fun g cap w1 hb1 hf1 => ?_
  have HB1 : Hid (Below w.heap.size w w1) := hb1
  have HF1 : Hid (IntF w.heap.size w1 g cap ord.length (fun j => ord.getD j 0)) := hf1
  clear hb1 hf1 c0 c1
  go_wp2_with fail
  refine reverse_any w.heap.size g cap ord.length (fun j => ord.getD j 0) _ hol ho1 HF1.out fun v2 w2 ho2 hf2 => ?_
  have hgl := HF1.out.lt
  have HB2 : Hid (Below w.heap.size w w2) := HB1.out.trans (ho2.below hgl.1 HB1.out.size)
  have HF2 : Hid (IntF w.heap.size w2 g cap ord.length (fun j => ord.getD (ord.length - 1 - j) 0)) := hf2
  have d0 := cell_keep HB2.out HV.out.c0
  have HR : Hid (∀ i, i < ord.reverse.length → w2.cell? ⟨g, i, none⟩ = some (intV (ord.reverse.getD i 0))) := fun i hi => by
    rw [List.length_reverse] at hi
    rw [hf2.cell hi]
    simp only [intV]
    congr 2
    simp only [List.getD_eq_getElem?_getD]
    rw [List.getElem?_reverse hi]
  clear ho2 hf2 HB1 HF1 hgl
  have hlr : ord.reverse.length = ord.length := List.length_reverse
  have hol2 : ord.reverse.length ≤ 60 := by omega
  go_wp2_with fail
  rw [← hlr]
  refine solve_any ss.length g cap ord.reverse 44 #[.pointer (some ⟨V, 0, none⟩)] ga lb (enters_of Try.func44 (by kernel_rfl) rfl) HEA.out _ (rF rs) F (nextOf ss) hn hol2 HR.out (fun i => by rw [List.mem_reverse]; exact HOM.out i) ((List.reverse_perm ord).nodup_iff.2 HV.out.io.nodup) HM.out (fun x i g hx hi hr hni => HOF.out x i g hi fun hm => hni (mem_preds.1 hm).2.2) HL.out (behind_hangs (HV.out.keep HB2.out)) (HA.out.later HB2.out) fun gg W' hb' hg hr' => ?_
  have HB : Hid (Below w.heap.size w W') := HB2.out.trans (hb'.mono HB2.out.size)
  have HG : Hid (Gr ss.length (rF rs) F gg) := hg
  have HRW : Hid (W'.rowIs w2.heap.size 4 ss.length (fun j => .bool (gg j))) := hr'
  clear hb' hg hr'
  go_wp2
  exact HQ.out gg _ _ HB.out HB2.out.size HG.out HRW.out

set_option maxRecDepth 100000 in
set_option maxHeartbeats 2000000 in
theorem upFrom_any {Q : Ending → World → Prop} {w W : World} {V : Nat} {ss : List St} {e : E5} {ord : List Nat} {rs : List Bool} {A : Option Addr} {c og oc : Nat} {pv : Value} {bc bk : BitVec 64} (h : VS w V ss e ord rs A c og oc pv bc bk) (hb : Below w.heap.size w W) (hok : okB ss = true) (VB : Nat) (hVB : w.cell? ⟨VB, 0, none⟩ = some (.pointer (some ⟨V, 0, none⟩)))
    (SB B : Nat) (so : Nat → Bool) (x : Int) (h0 : 0 ≤ x) (h1 : x < (ss.length : Int)) (hs : W.cell? ⟨SB, 0, none⟩ = some (.slice (some ⟨B, 0, none⟩) ss.length ss.length)) (hr : W.rowIs B 4 ss.length (fun j => .bool (so j)))
    (hQ : Q (.returned (.bool (kF e ss x.toNat && (cF e ss x.toNat || so x.toNat)))) W) :
    Calls Try.prog 53 #[.int .i64 x, .pointer (some ⟨VB, 0, none⟩), .pointer (some ⟨SB, 0, none⟩)] W Q := by
  have HQ : Hid _ := hQ
  have HV : Hid (VS w V ss e ord rs A c og oc pv bc bk) := h
  have HOK : Hid (okB ss = true) := hok
  have hv := h.keep hb
  have c3 := hv.c3
  have c4 := hv.c4
  have cv := cell_keep hb hVB
  obtain ⟨m, rfl⟩ := Int.eq_ofNat_of_zero_le h0
  have hm : m < ss.length := by omega
  have hc := hr.cell (i := m) hm
  rw [show ((m : Int)).toNat = m from rfl] at HQ
  clear hQ hr h0 h hok hv hb hVB
  go_enter Try.func53, Try.ntmps53
  go_wp2_with fail
  refine has_k HV.out.kw HOK.out m hm _ ?_
  cases hk : kF e ss m
  · rw [hk, Bool.false_and] at HQ
    clear hk
    go_wp2
    exact HQ.out
  · rw [hk, Bool.true_and] at HQ
    clear hk
    go_wp2_with fail
    refine has_c HV.out.cw HOK.out m hm _ ?_
    cases hcc : cF e ss m
    · rw [hcc, Bool.false_or] at HQ
      clear hcc
      generalize so m = z at *
      go_wp2
      exact HQ.out
    · rw [hcc, Bool.true_or] at HQ
      clear hcc
      go_wp2
      exact HQ.out

set_option maxRecDepth 100000 in
set_option maxHeartbeats 2000000 in
theorem up_asks {w : World} {V : Nat} {ss : List St} {e : E5} {ord : List Nat} {rs : List Bool} {A : Option Addr} {c og oc : Nat} {pv : Value} {bc bk : BitVec 64} (h : VS w V ss e ord rs A c og oc pv bc bk) (hok : okB ss = true) (VB : Nat) (hVB : w.cell? ⟨VB, 0, none⟩ = some (.pointer (some ⟨V, 0, none⟩))) :
    Asks ss.length (rF rs) 51 #[.pointer (some ⟨VB, 0, none⟩)] w (upF (cF e ss) (kF e ss) (pF ss rs)) := by
  intro W x B so hb hB hx hr hrow Q hQ
  show Calls Try.prog _ #[.int .i64 (x : Int), .slice (some ⟨B, 0, none⟩) ss.length ss.length, .pointer (some ⟨VB, 0, none⟩)] W Q
  have HQ : Hid _ := hQ
  have HV : Hid (VS w V ss e ord rs A c og oc pv bc bk) := h
  have HOK : Hid (okB ss = true) := hok
  have HB : Hid (Below w.heap.size w W) := hb
  have HR : Hid (W.rowIs B 4 ss.length (fun j => .bool (so j))) := hrow
  have HVB : Hid (w.cell? ⟨VB, 0, none⟩ = some (.pointer (some ⟨V, 0, none⟩))) := hVB
  have cv := cell_keep hb hVB
  have hVBl := cell_lt cv
  simp only at hVBl
  have hn := (ok_len hok).2
  have HLW : Hid (Low ss.length (pF ss rs)) := low_preds ss rs
  have hpl : (pF ss rs x).length ≤ 60 := Nat.le_trans (predsK_len _ _ _ _) hn
  clear hQ h hok hb hrow hVB
  have HA : Hid (∀ O, Below W.heap.size W (W.alloc O)) := fun O => (Below.refl _ _).alloc (Nat.le_refl _) O
  have hmf : ∀ (fn : Fn) (first cap : Array Value) (w : World), (Instr.makeFunc fn first cap).run Try.prog w = .ok (.func fn first cap) w := fun _ _ _ _ => rfl
  by_cases h0 : x = 0
  · have HF : Hid (upF (cF e ss) (kF e ss) (pF ss rs) so x = false) := by simp [Hid, upF, h0]
    rw [HF.out] at HQ
    subst h0
    go_enter Try.func51, Try.ntmps51
    go_wp2
    exact HQ.out _ (HA.out _)
  · have HF : Hid (upF (cF e ss) (kF e ss) (pF ss rs) so x = allI (pF ss rs x) (fun m => kF e ss m && (cF e ss m || so m))) := by simp [Hid, upF, h0]
    have h0i : ((x : Int) != 0) = true := by simp [h0]
    have h0j : ¬ (x : Int) = 0 := by omega
    rw [HF.out] at HQ
    go_enter Try.func51, Try.ntmps51
    go_wp2_with fail
    refine aheadOf_any (w0 := w) (HB.out.trans ((HA.out _).mono HB.out.size)) HV.out x hx fun nv hnv => ?_
    have HN : Hid (IntsAt w nv (pF ss rs x)) := hnv
    clear hnv
    go_wp2_with fail
    refine all_any 53 #[.pointer (some ⟨VB, 0, none⟩), .pointer (some ⟨W.heap.size, 0, none⟩)] (enters_of Try.func53 (by kernel_rfl) rfl) _ (pF ss rs x) (fun m => kF e ss m && (cF e ss m || so m)) _ ((HN.out.keep HB.out).keep (HA.out _)) (fun y hy => (HLW.out x hx y hy).1) (by omega) (fun W' y hb' hy Q' hq => ?_) fun W2 hb2 => ?_
    · have hl := HLW.out x hx y hy
      have hbw : Below w.heap.size w W' := HB.out.trans (((HA.out _).trans (hb'.mono (by simp))).mono HB.out.size)
      exact upFrom_any HV.out hbw HOK.out VB HVB.out W.heap.size B so y hl.1 hl.2 (cell_keep hb' (by simp [go_sem])) (rowIs_keep (rowIs_keep HR.out (HA.out _)) hb') (hq _ (Below.refl _ _))
    · have HF2 : Hid (Below W.heap.size W W2) := (HA.out _).trans (hb2.mono (by simp))
      clear hb2
      go_wp2
      exact HQ.out _ HF2.out

set_option maxRecDepth 100000 in
set_option maxHeartbeats 2000000 in
theorem up_any {Q : Ending → World → Prop} {w : World} {V : Nat} {ss : List St} {e : E5} {ord : List Nat} {rs : List Bool} {A : Option Addr} {c og oc : Nat} {pv : Value} {bc bk : BitVec 64} (h : VS w V ss e ord rs A c og oc pv bc bk) (hok : okB ss = true)
    (hQ : ∀ f B W', Below w.heap.size w W' → w.heap.size ≤ B → IsUp ss e rs f → W'.rowIs B 4 ss.length (fun j => .bool (f j)) → Q (.returned (.slice (some ⟨B, 0, none⟩) ss.length ss.length)) W') :
    Calls Try.prog 30 #[.pointer (some ⟨V, 0, none⟩)] w Q := by
  have HQ : Hid _ := hQ
  have HV : Hid (VS w V ss e ord rs A c og oc pv bc bk) := h
  have HOK : Hid (okB ss = true) := hok
  clear hQ h hok
  have HA : Hid (∀ O, Below w.heap.size w (w.alloc O)) := fun O => (Below.refl _ _).alloc (Nat.le_refl _) O
  have hmf : ∀ (fn : Fn) (first cap : Array Value) (w : World), (Instr.makeFunc fn first cap).run Try.prog w = .ok (.func fn first cap) w := fun _ _ _ _ => rfl
  go_enter Try.func30, Try.ntmps30
  go_wp2_with fail
  refine mostByAhead_any (HV.out.keep (HA.out _)) HOK.out 51 #[.pointer (some ⟨w.heap.size, 0, none⟩)] (enters_of Try.func51 (by kernel_rfl) rfl) _ (upF_mono (low_preds ss rs)) (fun x i g hi hx => upF_off (low_preds ss rs) hi hx) (up_asks (HV.out.keep (HA.out _)) HOK.out w.heap.size (by simp [go_sem])) fun g B W' hb' hB hg hr => ?_
  have HB : Hid (Below w.heap.size w W') := (HA.out _).trans (hb'.mono (by simp))
  have HG : Hid (IsUp ss e rs g) := hg
  have HR : Hid (W'.rowIs B 4 ss.length (fun j => .bool (g j))) := hr
  have hB2 : w.heap.size ≤ B := by simp at hB; omega
  clear hb' hg hr hB
  go_wp2
  exact HQ.out g B _ HB.out hB2 HG.out HR.out

theorem up_tells {ss : List St} {e : E5} (hok : okB ss = true) : Tells ss e 30 (IsUp ss e) := fun _ _ _ _ _ _ _ _ _ _ _ h _ hQ => up_any h hok hQ

set_option maxRecDepth 100000 in
theorem implSafeUp_any {Q : Ending → World → Prop} (v : Value) (ss : List St) (e : E5) (w : World) (h : StepsAt w v ss) (hl : ss.length ≤ 1048576) (hls : ∀ s ∈ ss, s.next.length ≤ 1048576)
    (hQ : ∀ v' bs w', Below w.heap.size w w' → SafeOr IsUp ss e bs → w'.ownsRow w.heap.size 4 1 v' bs.length (bs.map Value.bool) → Q (.returned v') w') :
    Calls Try.prog 16 #[.agg #[v], .agg #[.int .i64 e.op, .int .i64 e.av, .int .i64 e.an, .int .i64 e.bv, .int .i64 e.bn]] w Q := by
  have HQ : Hid _ := hQ
  clear hQ
  have HH : Hid (StepsAt w v ss) := h
  have HL : Hid (∀ s ∈ ss, s.next.length ≤ 1048576) := hls
  obtain ⟨ao, b, o, cap, rfl, ha, hc⟩ := id h
  clear ha hc h hls
  have hb0 : ∀ O O', Below w.heap.size w ((w.alloc O).alloc O') := fun O O' => ((Below.refl _ _).alloc (Nat.le_refl _) O).alloc (by simp) O'
  have HB0 : Hid _ := hb0
  clear hb0
  go_enter Try.func16, Try.ntmps16
  go_wp2_with fail
  refine seen_any IsUp 30 (enters_of Try.func30 (by kernel_rfl) rfl) _ ss e _ (HH.out.keep (HB0.out _ _)) hl HL.out (fun hok _ => up_tells hok) fun v' bs w' hb hs hown => ?_
  have HB : Hid (Below w.heap.size w w') := (HB0.out _ _).trans (hb.mono (by simp; omega))
  have HS : Hid _ := hs
  have HO : Hid (w'.ownsRow w.heap.size 4 1 v' bs.length (bs.map Value.bool)) := own_lower hown (by simp; omega)
  clear hb hs hown
  go_wp2
  exact HQ.out _ _ _ HB.out HS.out HO.out
end Go.Proofs.Ythaiiegofofnmaa
