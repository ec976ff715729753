/- A walk with a stack over a program's ways, plainly: what is kept round by round. -/
import Derived.Test.YtljlgffkhocgkaaDoorReach
namespace Go.Proofs.YtljlgffkhocgkaaDoor

def lenN (ss : List St) (x : Nat) : Nat := ((ss[x]?).map (fun s => s.next.length)).getD 0

theorem lenN_of {ss : List St} {x : Nat} {s : St} (h : ss[x]? = some s) : lenN ss x = s.next.length := by simp [lenN, h]

/-- What is so of: which are met, how many ways of each were tried, which were left, which stand on the stack (its top at the end). -/
structure LP (ss : List St) (m : Nat → Bool) (tr : Nat → Nat) (ord stk : List Nat) : Prop where
  inS : ∀ x ∈ stk, m x = true ∧ x < ss.length
  inO : ∀ x ∈ ord, m x = true ∧ x < ss.length ∧ tr x = lenN ss x
  all : ∀ x, x < ss.length → m x = true → x ∈ stk ∨ x ∈ ord
  first : m 0 = true
  reach : ∀ x, m x = true → Reaches ss x
  tle : ∀ x, x < ss.length → tr x ≤ lenN ss x
  tried : ∀ (x t y : Nat) (s : St), ss[x]? = some s → t < tr x → s.next.getD t 0 = (y : Int) → m y = true
  count : cnt m ss.length = ord.length + stk.length
  nodup : (ord ++ stk).Nodup
  chain : ∀ (i x y : Nat), stk[i]? = some x → stk[i + 1]? = some y → ∃ s, ss[x]? = some s ∧ (y : Int) ∈ s.next
  over : ∀ (i x : Nat), ord[i]? = some x → x = 0 ∨ ∃ p s, ss[p]? = some s ∧ (x : Int) ∈ s.next ∧ (p ∈ stk ∨ ∃ j, i < j ∧ ord[j]? = some p)
  bot : (∃ r, stk = 0 :: r) ∨ (stk = [] ∧ ∃ r, ord = r ++ [0])

theorem cnt_first (n : Nat) (hn : 1 ≤ n) : cnt (fun j => decide (j = 0)) n = 1 := by
  induction n with
  | zero => omega
  | succ n ih =>
    unfold cnt
    by_cases e : n = 0
    · subst e; rfl
    · rw [ih (by omega)]; simp [e]

theorem LP.start {ss : List St} (hn : 1 ≤ ss.length) : LP ss (fun j => decide (j = 0)) (fun _ => 0) [] [0] where
  inS := by intro x hx; simp at hx; subst hx; exact ⟨by simp, by omega⟩
  inO := by simp
  all := by intro x _ h; simp at h; simp [h]
  first := by simp
  reach := by intro x h; simp at h; subst h; exact Reaches.first ss
  tle := by intro x _; exact Nat.zero_le _
  tried := by intro x t y s _ h; omega
  count := by rw [cnt_first _ hn]; rfl
  nodup := by simp
  chain := by intro i x y _ h; simp at h
  over := by simp
  bot := Or.inl ⟨[], rfl⟩

theorem LP.pop {ss : List St} {m : Nat → Bool} {tr : Nat → Nat} {ord ini : List Nat} {x : Nat} (h : LP ss m tr ord (ini ++ [x])) (ht : tr x = lenN ss x) : LP ss m tr (ord ++ [x]) ini where
  inS := fun y hy => h.inS y (by simp [hy])
  inO := by
    intro y hy
    simp only [List.mem_append, List.mem_singleton] at hy
    rcases hy with hy | rfl
    · exact h.inO y hy
    · exact ⟨(h.inS y (by simp)).1, (h.inS y (by simp)).2, ht⟩
  all := by
    intro y h1 h2
    have := h.all y h1 h2
    simp only [List.mem_append, List.mem_singleton] at this ⊢
    rcases this with (h3 | h3) | h3
    · exact Or.inl h3
    · exact Or.inr (Or.inr h3)
    · exact Or.inr (Or.inl h3)
  first := h.first
  reach := h.reach
  tle := h.tle
  tried := h.tried
  count := by rw [h.count]; simp; omega
  nodup := by
    have h1 := h.nodup
    have hp : List.Perm (ord ++ (ini ++ [x])) ((ord ++ [x]) ++ ini) := by
      rw [List.append_assoc]
      exact List.Perm.append_left ord List.perm_append_comm
    exact hp.nodup_iff.1 h1
  chain := by
    intro i a b h1 h2
    have l2 := (List.getElem?_eq_some_iff.1 h2).1
    refine h.chain i a b ?_ ?_
    · rw [List.getElem?_append_left (by omega)]; exact h1
    · rw [List.getElem?_append_left (by omega)]; exact h2
  over := by
    intro i y hy
    by_cases hi : i < ord.length
    · rw [List.getElem?_append_left hi] at hy
      rcases h.over i y hy with h0 | ⟨p, s, h1, h2, h3⟩
      · exact Or.inl h0
      · refine Or.inr ⟨p, s, h1, h2, ?_⟩
        rcases h3 with h3 | ⟨j, h4, h5⟩
        · simp only [List.mem_append, List.mem_singleton] at h3
          rcases h3 with h3 | rfl
          · exact Or.inl h3
          · exact Or.inr ⟨ord.length, hi, by simp⟩
        · have l5 := (List.getElem?_eq_some_iff.1 h5).1
          exact Or.inr ⟨j, h4, by rw [List.getElem?_append_left l5]; exact h5⟩
    · have l := (List.getElem?_eq_some_iff.1 hy).1
      have hi' : i = ord.length := by simp at l; omega
      subst hi'
      simp at hy
      subst hy
      by_cases hk : ini.length = 0
      · have : ini = [] := List.eq_nil_of_length_eq_zero hk
        subst this
        rcases h.bot with ⟨r, hr⟩ | ⟨hr, _⟩
        · simp at hr; exact Or.inl hr.1
        · simp at hr
      · have hlast : ini[ini.length - 1]? = some ini[ini.length - 1] := List.getElem?_eq_getElem (by omega)
        obtain ⟨s, h1, h2⟩ := h.chain (ini.length - 1) ini[ini.length - 1] x (by rw [List.getElem?_append_left (by omega)]; exact hlast) (by rw [show ini.length - 1 + 1 = ini.length by omega]; simp)
        exact Or.inr ⟨_, s, h1, h2, Or.inl (List.mem_of_getElem? hlast)⟩
  bot := by
    rcases h.bot with ⟨r, hr⟩ | ⟨hr, _⟩
    · cases ini with
      | nil => simp at hr; exact Or.inr ⟨rfl, ord, by rw [hr.1]⟩
      | cons a l => simp at hr; exact Or.inl ⟨l, by rw [hr.1]⟩
    · simp at hr

/-- One way more was tried, and it leads to one that was met already. -/
theorem LP.seen {ss : List St} {m : Nat → Bool} {tr : Nat → Nat} {ord ini : List Nat} {x y : Nat} {s : St} (h : LP ss m tr ord (ini ++ [x])) (hs : ss[x]? = some s) (ht : tr x < s.next.length) (hy : s.next.getD (tr x) 0 = (y : Int)) (hm : m y = true) :
    LP ss m (fun j => if j = x then tr x + 1 else tr j) ord (ini ++ [x]) where
  inS := h.inS
  inO := by
    intro z hz
    have hd := h.nodup
    have hne : z ≠ x := by
      intro e
      subst e
      rw [List.nodup_append] at hd
      exact hd.2.2 z hz z (by simp) rfl
    have := h.inO z hz
    rw [if_neg hne]
    exact this
  all := h.all
  first := h.first
  reach := h.reach
  tle := by
    intro z hz
    by_cases e : z = x
    · subst e; rw [if_pos rfl, lenN_of hs]; omega
    · rw [if_neg e]; exact h.tle z hz
  tried := by
    intro z t w s' hs' htt hw
    by_cases e : z = x
    · subst e
      rw [if_pos rfl] at htt
      rw [hs] at hs'
      cases hs'
      by_cases e2 : t = tr z
      · subst e2
        rw [hy] at hw
        have : y = w := by omega
        subst this
        exact hm
      · exact h.tried z t w s hs (by omega) hw
    · rw [if_neg e] at htt
      exact h.tried z t w s' hs' htt hw
  count := h.count
  nodup := h.nodup
  chain := h.chain
  over := h.over
  bot := h.bot

/-- One way more was tried, and what it leads to is met now. -/
theorem LP.push {ss : List St} {m : Nat → Bool} {tr : Nat → Nat} {ord ini : List Nat} {x y : Nat} {s : St} (h : LP ss m tr ord (ini ++ [x])) (hs : ss[x]? = some s) (ht : tr x < s.next.length) (hy : s.next.getD (tr x) 0 = (y : Int)) (hyn : y < ss.length) (hm : m y = false) :
    LP ss (fun j => if j = y then true else m j) (fun j => if j = x then tr x + 1 else tr j) ord ((ini ++ [x]) ++ [y]) where
  inS := by
    intro z hz
    simp only [List.mem_append, List.mem_singleton] at hz
    by_cases e : z = y
    · subst e; exact ⟨by simp, hyn⟩
    · rw [if_neg e]
      exact h.inS z (by simp; rcases hz with hz | hz; exact hz; exact absurd hz e)
  inO := by
    intro z hz
    have hd := h.nodup
    have hne : z ≠ x := by
      intro e
      subst e
      rw [List.nodup_append] at hd
      exact hd.2.2 z hz z (by simp) rfl
    have := h.inO z hz
    refine ⟨by split <;> simp [this.1], this.2.1, ?_⟩
    rw [if_neg hne]; exact this.2.2
  all := by
    intro z h1 h2
    by_cases e : z = y
    · subst e; exact Or.inl (by simp)
    · rw [if_neg e] at h2
      rcases h.all z h1 h2 with h3 | h3
      · exact Or.inl (List.mem_append_left _ h3)
      · exact Or.inr h3
  first := by simp [h.first]
  reach := by
    intro z hz
    by_cases e : z = y
    · subst e
      obtain ⟨tt, hd⟩ : ∃ tt, tt < s.next.length ∧ s.next.getD tt 0 = (z : Int) := ⟨tr x, ht, hy⟩
      refine Reaches.on (h.reach x (h.inS x (by simp)).1) hs ?_
      have e2 : s.next.getD tt 0 = s.next[tt] := by simp [List.getD, hd.1]
      rw [← hd.2, e2]
      exact List.getElem_mem hd.1
    · rw [if_neg e] at hz; exact h.reach z hz
  tle := by
    intro z hz
    by_cases e : z = x
    · subst e; rw [if_pos rfl, lenN_of hs]; omega
    · rw [if_neg e]; exact h.tle z hz
  tried := by
    intro z t w s' hs' htt hw
    by_cases ew : w = y
    · simp [ew]
    · rw [if_neg ew]
      by_cases e : z = x
      · subst e
        rw [if_pos rfl] at htt
        rw [hs] at hs'
        cases hs'
        by_cases e2 : t = tr z
        · subst e2
          rw [hy] at hw
          exact absurd (by omega : w = y) ew
        · exact h.tried z t w s hs (by omega) hw
      · rw [if_neg e] at htt
        exact h.tried z t w s' hs' htt hw
  count := by rw [cnt_set hyn hm, h.count]; simp; omega
  nodup := by
    have hd := h.nodup
    rw [← List.append_assoc, List.nodup_append]
    refine ⟨hd, by simp, ?_⟩
    intro a ha b hb e
    simp only [List.mem_singleton] at hb
    subst hb
    subst e
    rw [List.mem_append] at ha
    have : m a = true := by
      rcases ha with ha | ha
      · exact (h.inO a ha).1
      · exact (h.inS a ha).1
    rw [hm] at this
    cases this
  chain := by
    intro i a b h1 h2
    by_cases hi : i + 1 < (ini ++ [x]).length
    · rw [List.getElem?_append_left (by omega)] at h1
      rw [List.getElem?_append_left hi] at h2
      exact h.chain i a b h1 h2
    · have l2 := (List.getElem?_eq_some_iff.1 h2).1
      simp at hi l2
      have e : i = ini.length := by omega
      subst e
      simp at h1 h2
      subst h1
      subst h2
      refine ⟨s, hs, ?_⟩
      have e2 : s.next.getD (tr x) 0 = s.next[tr x] := by simp [List.getD, ht]
      rw [← hy, e2]
      exact List.getElem_mem ht
  over := by
    intro i z hz
    rcases h.over i z hz with h0 | ⟨p, s', h1, h2, h3⟩
    · exact Or.inl h0
    · refine Or.inr ⟨p, s', h1, h2, ?_⟩
      rcases h3 with h3 | h3
      · exact Or.inl (List.mem_append_left _ h3)
      · exact Or.inr h3
  bot := by
    rcases h.bot with ⟨r, hr⟩ | ⟨hr, _⟩
    · exact Or.inl ⟨r ++ [y], by rw [hr]; rfl⟩
    · simp at hr

/-- The order in which a walk leaves what can be come to. -/
structure IsOrder (ss : List St) (ord : List Nat) : Prop where
  mem : ∀ x, x ∈ ord ↔ (x < ss.length ∧ Reaches ss x)
  nodup : ord.Nodup
  over : ∀ (i x : Nat), ord[i]? = some x → x = 0 ∨ ∃ p s, ss[p]? = some s ∧ (x : Int) ∈ s.next ∧ ∃ j, i < j ∧ ord[j]? = some p
  last : ∃ r, ord = r ++ [0]

theorem LP.fin {ss : List St} {m : Nat → Bool} {tr : Nat → Nat} {ord : List Nat} (hok : okB ss = true) (h : LP ss m tr ord []) : IsOrder ss ord := by
  have hcl : ∀ x, Reaches ss x → (x < ss.length ∧ m x = true) := by
    intro x hx
    refine hx (fun j => j < ss.length ∧ m j = true) ⟨by have := ok_len hok; omega, h.first⟩ ?_
    intro a j s ⟨h1, h2⟩ hs hj
    obtain ⟨t, ht, e⟩ := mem_getD hj
    obtain ⟨y, hy, hyn, _⟩ := ok_next hok hs ht
    have : y = j := by rw [e] at hy; omega
    subst this
    refine ⟨hyn, ?_⟩
    rcases h.all a h1 h2 with h3 | h3
    · simp at h3
    · have := (h.inO a h3).2.2
      rw [lenN_of hs] at this
      exact h.tried a t y s hs (by omega) e
  refine ⟨fun x => ⟨fun hx => ⟨(h.inO x hx).2.1, h.reach x (h.inO x hx).1⟩, fun hx => ?_⟩, by have := h.nodup; simpa using this, ?_, ?_⟩
  · rcases h.all x hx.1 (hcl x hx.2).2 with h3 | h3
    · simp at h3
    · exact h3
  · intro i x hx
    rcases h.over i x hx with h0 | ⟨p, s, h1, h2, h3⟩
    · exact Or.inl h0
    · rcases h3 with h3 | h3
      · simp at h3
      · exact Or.inr ⟨p, s, h1, h2, h3⟩
  · rcases h.bot with ⟨r, hr⟩ | ⟨_, hr⟩
    · simp at hr
    · exact hr
end Go.Proofs.YtljlgffkhocgkaaDoor
