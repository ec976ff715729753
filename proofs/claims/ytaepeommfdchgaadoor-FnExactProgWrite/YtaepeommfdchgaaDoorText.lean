/- How a program is written: plain functions on lists of bytes; and what the model's small functions write. -/
import Derived.Test.YtaepeommfdchgaaDoorDec
import Derived.Test.YtaepeommfdchgaaDoorPure
namespace Go.Proofs.YtaepeommfdchgaaDoor
open Go.RowKit

def decT (x : Int) : List UInt8 := Lib.decDigits x.toNat
def varT (v : Int) : List UInt8 := 118 :: decT v
def sayT (v n : Int) : List UInt8 := if v = -1 then decT n else varT v
def signT (op : Int) : List UInt8 := if op = 1 then [43] else if op = 2 then [45] else if op = 3 then [42] else [60]
def headT (s : St) : List UInt8 :=
  if s.kind = 1 then varT s.dst ++ ([32, 61, 32] ++ (sayT s.av s.an ++ ([32] ++ (signT s.op ++ ([32] ++ sayT s.bv s.bn)))))
  else if s.kind = 2 then varT s.dst ++ ([32, 61, 32] ++ sayT s.av s.an)
  else if s.kind = 3 then varT s.dst ++ [32, 61, 32, 105, 110]
  else if s.kind = 4 then [111, 117, 116, 32] ++ sayT s.av s.an
  else if s.kind = 5 then [116, 101, 115, 116, 32] ++ sayT s.av s.an
  else if s.kind = 6 then [115, 107, 105, 112]
  else [101, 110, 100]
def lineT (s : St) : List UInt8 := headT s ++ (s.next.flatMap (fun x => 32 :: decT x) ++ [10])
def textT (ss : List St) : List UInt8 := ss.flatMap lineT

theorem decT_len {x : Int} (h1 : x ≤ 9223372036854775807) : (decT x).length ≤ 20 := decDigits_len _ (by omega)
theorem varT_len {x : Int} (h1 : x ≤ 9223372036854775807) : (varT x).length ≤ 21 := by have := decT_len h1; simp [varT]; omega
theorem opnd_range {v n : Int} (h : opndB v n = true) : (v = -1 ∧ 0 ≤ n ∧ n ≤ 65535) ∨ (v ≠ -1 ∧ 0 ≤ v ∧ v ≤ 11 ∧ n = 0) := by
  unfold opndB at h
  split at h
  · left; simp [inB] at h; omega
  · right; simp [inB] at h; omega
theorem sayT_len {v n : Int} (h : opndB v n = true) : (sayT v n).length ≤ 21 := by
  rcases opnd_range h with ⟨h1, h2, h3⟩ | ⟨h1, h2, h3, h4⟩
  · rw [sayT, if_pos h1]; have := decT_len (x := n) (by omega); omega
  · rw [sayT, if_neg h1]; exact varT_len (by omega)

theorem decI_any (x : Int) (h0 : 0 ≤ x) (h1 : x ≤ 9223372036854775807) (t : List UInt8) (ht : decT x = t) {Q : Ending → World → Prop} (w : World)
    (hQ : ∀ w', Below w.heap.size w w' → Q (.returned (.string ⟨t.toArray⟩)) w') :
    Calls Tryd.prog 25 #[.int .i64 x] w Q := by
  subst ht
  obtain ⟨n, rfl⟩ := Int.eq_ofNat_of_zero_le h0
  exact l6Dec_any n (by omega) w (by simpa [decT] using hQ)

set_option maxHeartbeats 1000000 in
theorem l1Var_any (v : Int) (h0 : 0 ≤ v) (h1 : v ≤ 1048576) (t : List UInt8) (ht : varT v = t) {Q : Ending → World → Prop} (w : World)
    (hQ : ∀ w', Below w.heap.size w w' → Q (.returned (.string ⟨t.toArray⟩)) w') :
    Calls Tryd.prog 22 #[.int .i64 v] w Q := by
  have HQ : Hid (∀ w', Below w.heap.size w w' → Q (.returned (.string ⟨t.toArray⟩)) w') := hQ
  clear hQ
  subst ht
  have hlen := decT_len (x := v) (by omega)
  obtain ⟨d, hd⟩ : ∃ d, decT v = d := ⟨_, rfl⟩
  rw [varT, hd] at HQ
  rw [hd] at hlen
  have HD : Hid (decT v = d) := hd
  clear hd
  have HE : Hid ((⟨#[118]⟩ ++ ⟨d.toArray⟩ : ByteArray) = ⟨(118 :: d).toArray⟩) := by rw [Hid, ByteArray.mk_append_mk]; simp
  rw [← HE.out] at HQ
  go_enter Tryd.func22, Tryd.ntmps22
  go_wp2_with fail
  refine decI_any v h0 (by omega) d HD.out _ fun w1 hb1 => ?_
  go_wp2
  exact HQ.out _ hb1

set_option maxHeartbeats 1000000 in
theorem l1Say_any (v n : Int) (h : opndB v n = true) (t : List UInt8) (ht : sayT v n = t) {Q : Ending → World → Prop} (w : World)
    (hQ : ∀ w', Below w.heap.size w w' → Q (.returned (.string ⟨t.toArray⟩)) w') :
    Calls Tryd.prog 23 #[.agg #[.int .i64 v, .int .i64 n]] w Q := by
  have HQ : Hid (∀ w', Below w.heap.size w w' → Q (.returned (.string ⟨t.toArray⟩)) w') := hQ
  clear hQ
  have hb0 : ∀ O, Below w.heap.size w (w.alloc O) := fun O => (Below.refl _ _).alloc (Nat.le_refl _) O
  rcases opnd_range h with ⟨rfl, h2, h3⟩ | ⟨h1, h2, h3, h4⟩
  · rw [sayT, if_pos rfl] at ht
    have HT : Hid (decT n = t) := ht
    clear ht h
    go_enter Tryd.func23, Tryd.ntmps23
    go_wp2_with fail
    refine decI_any n h2 (by omega) t HT.out _ fun w1 hb1 => ?_
    have hb2 : Below w.heap.size w w1 := (hb0 _).trans (hb1.mono (by simp))
    clear hb1 hb0
    go_wp2
    exact HQ.out _ hb2
  · rw [sayT, if_neg h1] at ht
    have HT : Hid (varT v = t) := ht
    have g1 : (v == -1) = false := by simp [h1]
    clear ht h h4
    go_enter Tryd.func23, Tryd.ntmps23
    go_wp2_with fail
    refine l1Var_any v h2 (by omega) t HT.out _ fun w1 hb1 => ?_
    have hb2 : Below w.heap.size w w1 := (hb0 _).trans (hb1.mono (by simp))
    clear hb1 hb0
    go_wp2
    exact HQ.out _ hb2

set_option maxHeartbeats 1000000 in
theorem l1Sign_any (op : Int) (h : inB op 1 4 = true) (t : List UInt8) (ht : signT op = t) {Q : Ending → World → Prop} (w : World)
    (hQ : ∀ w', Below w.heap.size w w' → Q (.returned (.string ⟨t.toArray⟩)) w') :
    Calls Tryd.prog 24 #[.int .i64 op] w Q := by
  have HQ : Hid (∀ w', Below w.heap.size w w' → Q (.returned (.string ⟨t.toArray⟩)) w') := hQ
  clear hQ
  have hop : op = 1 ∨ op = 2 ∨ op = 3 ∨ op = 4 := by simp [inB] at h; omega
  clear h
  rcases hop with rfl | rfl | rfl | rfl
  all_goals
    simp [signT] at ht
    subst ht
    go_enter Tryd.func24, Tryd.ntmps24
    go_wp2
    exact HQ.out _ ((Below.refl _ _).alloc (Nat.le_refl _) _)
end Go.Proofs.YtaepeommfdchgaaDoor
