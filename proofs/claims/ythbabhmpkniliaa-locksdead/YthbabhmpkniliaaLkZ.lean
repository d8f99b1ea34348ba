/-
  What holds of all states that jobs come to: whose locks are whose; with ordered nobody is stuck. No condition.
-/
import Derived.Test.YthbabhmpkniliaaLkQ
namespace Go.Proofs.Ythbabhmpkniliaa.Lk

theorem getD_set_int (l : List Int) (k j : Nat) (x d : Int) (hk : k < l.length) : (l.set k x).getD j d = if j = k then x else l.getD j d := getD_set_ite l k j x d hk

/-- All sections have locks of N. -/
def InN (N : Nat) (j : List Pr) : Prop := ∀ p ∈ j, (0 ≤ p.1 ∧ p.1 < N) ∧ 0 ≤ p.2 ∧ p.2 < N
/-- What a job has: nothing, its section's first lock, or both. -/
def Shape (o : Bool) (l : List Pr) (h : List Int) : Prop := h = [] ∨ ∃ p t, l = p :: t ∧ (h = [lo o p] ∨ (lo o p ≠ hi o p ∧ h = [lo o p, hi o p]))
def sumLen (H : List (List Int)) : Nat := (H.map List.length).sum
/-- How many locks somebody has. -/
def cntB (b : List Int) : Nat := b.countP (fun x => decide (0 ≤ x))
structure Inv (N m : Nat) (o : Bool) (s : St) : Prop where
  lb : s.b.length = N
  lL : s.L.length = m
  lH : s.H.length = m
  own : ∀ k, k < m → ∀ x ∈ s.h k, ∃ y : Nat, x = y ∧ y < N ∧ s.b.getD y 0 = k
  free : ∀ y : Nat, y < N → s.b.getD y 0 = -1 ∨ ∃ k : Nat, k < m ∧ s.b.getD y 0 = k ∧ (y : Int) ∈ s.h k
  sec : ∀ k, InN N (s.l k)
  shp : ∀ k, Shape o (s.l k) (s.h k)
  out : ∀ k, m ≤ k → s.h k = []
  cnt : cntB s.b = sumLen s.H

theorem lo_in {N : Nat} {o : Bool} {p : Pr} (h : (0 ≤ p.1 ∧ p.1 < N) ∧ 0 ≤ p.2 ∧ p.2 < N) : (0 ≤ lo o p ∧ lo o p < N) ∧ 0 ≤ hi o p ∧ hi o p < N := by
  unfold lo hi; cases o <;> simp <;> omega
/-- What a job wants, by what it has. -/
theorem wants_cases {o : Bool} {l : List Pr} {h : List Int} (hs : Shape o l h) :
    (l = [] ∧ h = [] ∧ wantsF o l h = -1) ∨ (∃ p t, l = p :: t ∧ h = [] ∧ wantsF o l h = lo o p) ∨ (∃ p t, l = p :: t ∧ lo o p ≠ hi o p ∧ h = [lo o p] ∧ wantsF o l h = hi o p) ∨
    (∃ p t, l = p :: t ∧ wantsF o l h = -1 ∧ ((lo o p = hi o p ∧ h = [lo o p]) ∨ (lo o p ≠ hi o p ∧ h = [lo o p, hi o p]))) := by
  rcases hs with rfl | ⟨p, t, rfl, hh⟩
  · cases l with
    | nil => exact .inl ⟨rfl, rfl, rfl⟩
    | cons p t => exact .inr (.inl ⟨p, t, rfl, rfl, rfl⟩)
  · rcases hh with rfl | ⟨hne, rfl⟩
    · by_cases e : lo o p = hi o p
      · exact .inr (.inr (.inr ⟨p, t, rfl, by simp [wantsF, e], .inl ⟨e, rfl⟩⟩))
      · exact .inr (.inr (.inl ⟨p, t, rfl, e, rfl, by simp [wantsF, e]⟩))
    · exact .inr (.inr (.inr ⟨p, t, rfl, by simp [wantsF], .inr ⟨hne, rfl⟩⟩))
theorem sumLen_set : ∀ (H : List (List Int)) (k : Nat) (h : List Int), k < H.length → sumLen (H.set k h) + (H.getD k []).length = sumLen H + h.length
  | [], _, _, hk => absurd hk (Nat.not_lt_zero _)
  | x :: t, 0, h, _ => by simp [sumLen]; omega
  | x :: t, k + 1, h, hk => by
    have ih := sumLen_set t k h (by simpa using hk)
    have e1 : (x :: t).set (k + 1) h = x :: t.set k h := rfl
    have e2 : (x :: t).getD (k + 1) [] = t.getD k [] := rfl
    rw [e1, e2]
    simp only [sumLen, List.map_cons, List.sum_cons] at ih ⊢
    omega
theorem cntB_set (b : List Int) (y : Nat) (v : Int) (hy : y < b.length) : cntB (b.set y v) + (if 0 ≤ b.getD y 0 then 1 else 0) = cntB b + (if 0 ≤ v then 1 else 0) := by
  unfold cntB
  induction b generalizing y with
  | nil => exact absurd hy (Nat.not_lt_zero _)
  | cons x t ih =>
    cases y with
    | zero =>
      show List.countP _ (v :: t) + (if 0 ≤ x then 1 else 0) = _
      simp only [List.countP_cons, decide_eq_true_eq]
      omega
    | succ y =>
      have := ih y (by simpa using hy)
      show List.countP _ (x :: t.set y v) + (if 0 ≤ t.getD y 0 then 1 else 0) = _
      simp only [List.countP_cons, decide_eq_true_eq] at this ⊢
      omega

theorem newL_eq {N : Nat} (h : N ≤ 65) : newL (N : Int) = List.replicate N (-1) := by
  unfold newL newE
  rw [if_neg (show ¬ ((N : Int) < 0 ∨ 65 < (N : Int)) by omega)]
  simp
theorem Inv.start {N : Nat} (h : N ≤ 65) {js : List (List Pr)} (hjs : ∀ j ∈ js, InN N j) (o : Bool) : Inv N js.length o (st0 N js) := by
  have h0 : ∀ k, (st0 (N : Int) js).h k = [] := fun k => by
    unfold st0 St.h
    simp only [List.getD, List.getElem?_map]
    cases js[k]? <;> rfl
  have hb : (st0 (N : Int) js).b = List.replicate N (-1) := newL_eq h
  refine ⟨by rw [hb, List.length_replicate], rfl, by show (js.map _).length = _; rw [List.length_map], fun k _ x hx => ?_, fun y hy => .inl ?_, fun k p hp => ?_, fun k => .inl (h0 k), fun k _ => h0 k, ?_⟩
  · rw [h0] at hx; cases hx
  · rw [hb]; simp [List.getD, hy]
  · by_cases hk : k < js.length
    · exact hjs (js.getD k []) (by simp only [List.getD, List.getElem?_eq_getElem hk, Option.getD_some]; exact List.getElem_mem hk) p (by
        have : (st0 (N : Int) js).l k = js.getD k [] := rfl
        rw [this] at hp
        simpa [List.getD, hk] using hp)
    · have : (st0 (N : Int) js).l k = [] := by
        show js.getD k [] = []
        simp [List.getD, show js.length ≤ k by omega]
      rw [this] at hp; cases hp
  · rw [hb]
    have h1 : ∀ n : Nat, cntB (List.replicate n (-1)) = 0 := fun n => by unfold cntB; rw [List.countP_replicate]; simp
    have h2 : ∀ l : List (List Pr), sumLen (l.map (fun _ => ([] : List Int))) = 0 := fun l => by
      induction l with
      | nil => rfl
      | cons x t ih => show 0 + sumLen (t.map (fun _ => ([] : List Int))) = 0; rw [ih]
    rw [h1]
    exact (h2 js).symm
theorem takeE_nat {b : List Int} {y : Nat} {k : Nat} (hy : y < b.length) : takeE b y k = if b.getD y 0 = k then 4 else if 0 ≤ b.getD y 0 then 11 else 0 := by
  unfold takeE; rw [if_neg (by rw [isL_mk hy]; simp <;> omega)]; rfl
theorem giveL_nat {b : List Int} {y : Nat} {k : Nat} (hy : y < b.length) (hk : b.getD y 0 = k) : giveL b y k = b.set y (-1) := by
  have : giveE b y k = 0 := by
    unfold giveE; rw [if_neg (by rw [isL_mk hy]; simp <;> omega)]
    rw [if_neg (by rw [Int.toNat_natCast, hk]; simp)]
  unfold giveL; rw [if_pos this]; rfl

/-- A step that takes. -/
theorem Inv.take {N m : Nat} {o : Bool} {s : St} (h : Inv N m o s) {k : Nat} (hk : k < m) {y : Nat} (hy : y < N) (hw : wantsF o (s.l k) (s.h k) = y) (hf : s.b.getD y 0 = -1) :
    Inv N m o { s with b := s.b.set y k, H := s.H.set k (s.h k ++ [(y : Int)]) } := by
  have hyb : y < s.b.length := by rw [h.lb]; exact hy
  have hkH : k < s.H.length := by rw [h.lH]; exact hk
  have hB : ∀ z, (s.b.set y (k : Int)).getD z 0 = if z = y then (k : Int) else s.b.getD z 0 := fun z => getD_set_int _ _ _ _ _ hyb
  have hH : ∀ j, (s.H.set k (s.h k ++ [(y : Int)])).getD j [] = if j = k then s.h k ++ [(y : Int)] else s.h j := fun j => getD_set_ite _ _ _ _ _ hkH
  have hno : ∀ j, j < m → (y : Int) ∉ s.h j := fun j hj hm => by
    obtain ⟨z, e, hz, hb⟩ := h.own j hj _ hm
    obtain rfl : y = z := by omega
    omega
  refine ⟨by rw [List.length_set]; exact h.lb, h.lL, by rw [List.length_set]; exact h.lH, fun j hj x hx => ?_, fun z hz => ?_, h.sec, fun j => ?_, fun j hj => ?_, ?_⟩
  · replace hx : x ∈ (s.H.set k (s.h k ++ [(y : Int)])).getD j [] := hx
    rw [hH] at hx
    have old : ∀ x ∈ s.h j, ∃ z : Nat, x = z ∧ z < N ∧ (s.b.set y (k : Int)).getD z 0 = j := fun x' hx' => by
      obtain ⟨z, e, hz, hb⟩ := h.own j hj x' hx'
      refine ⟨z, e, hz, ?_⟩
      rw [hB, if_neg (by intro e2; rw [e2] at e; rw [e] at hx'; exact hno j hj hx')]
      exact hb
    by_cases e : j = k
    · rw [if_pos e] at hx
      rcases List.mem_append.1 hx with h1 | h1
      · exact old x (by rw [e]; exact h1)
      · simp at h1
        exact ⟨y, h1, hy, by show (s.b.set y (k : Int)).getD y 0 = j; rw [hB, if_pos rfl, e]⟩
    · rw [if_neg e] at hx
      exact old x hx
  · show (s.b.set y (k : Int)).getD z 0 = -1 ∨ ∃ j : Nat, j < m ∧ (s.b.set y (k : Int)).getD z 0 = j ∧ (z : Int) ∈ (s.H.set k (s.h k ++ [(y : Int)])).getD j []
    rw [hB]
    by_cases e : z = y
    · rw [if_pos e]
      exact .inr ⟨k, hk, rfl, by rw [hH, if_pos rfl, e]; simp⟩
    · rw [if_neg e]
      rcases h.free z hz with h1 | ⟨j, hj, hb, hm⟩
      · exact .inl h1
      · refine .inr ⟨j, hj, hb, ?_⟩
        rw [hH]
        split
        · next e2 => rw [← e2]; exact List.mem_append_left _ hm
        · exact hm
  · show Shape o (s.l j) ((s.H.set k (s.h k ++ [(y : Int)])).getD j [])
    rw [hH]
    split
    · next e =>
      subst e
      rcases wants_cases (h.shp j) with ⟨-, -, e1⟩ | ⟨p, t, e1, e2, e3⟩ | ⟨p, t, e1, hne, e2, e3⟩ | ⟨p, t, e1, e2, -⟩
      · omega
      · rw [e2]; exact .inr ⟨p, t, e1, .inl (by rw [← e3, hw]; rfl)⟩
      · rw [e2]; exact .inr ⟨p, t, e1, .inr ⟨hne, by rw [← e3, hw]; rfl⟩⟩
      · omega
    · exact h.shp j
  · show (s.H.set k _).getD j [] = []
    rw [hH, if_neg (by omega)]; exact h.out j hj
  · have h1 := cntB_set s.b y k hyb
    have h2 := sumLen_set s.H k (s.h k ++ [(y : Int)]) hkH
    rw [hf, if_neg (by omega), if_pos (by omega)] at h1
    have h3 : (s.H.getD k []) = s.h k := rfl
    rw [h3, List.length_append] at h2
    simp only [List.length_cons, List.length_nil] at h2
    have := h.cnt
    show cntB (s.b.set y k) = sumLen (s.H.set k (s.h k ++ [(y : Int)]))
    omega

/-- What giving back all makes of the locks. -/
theorem giveAll_all {b : List Int} {hs : List Int} {k : Nat} (h : ∀ x ∈ hs, ∃ y : Nat, x = y ∧ y < b.length ∧ b.getD y 0 = k) (hn : hs.Nodup) :
    (giveAll b hs k).length = b.length ∧ (∀ z, (giveAll b hs k).getD z 0 = if (z : Int) ∈ hs then -1 else b.getD z 0) ∧ cntB (giveAll b hs k) + hs.length = cntB b := by
  induction hs generalizing b with
  | nil => exact ⟨rfl, fun z => by simp [giveAll], rfl⟩
  | cons x t ih =>
    obtain ⟨y, rfl, hy, hb⟩ := h x (by simp)
    have e : giveAll b ((y : Int) :: t) k = giveAll (b.set y (-1)) t k := by
      show giveAll (giveL b y k) t k = _
      rw [giveL_nat hy hb]
    rw [List.nodup_cons] at hn
    have hB : ∀ z, (b.set y (-1)).getD z 0 = if z = y then -1 else b.getD z 0 := fun z => getD_set_int _ _ _ _ _ hy
    obtain ⟨i1, i2, i3⟩ := ih (b := b.set y (-1)) (fun x hx => by
      obtain ⟨z, rfl, hz, hbz⟩ := h x (by simp [hx])
      refine ⟨z, rfl, by rw [List.length_set]; exact hz, ?_⟩
      rw [hB, if_neg (by intro e2; subst e2; exact hn.1 hx)]
      exact hbz) hn.2
    rw [e]
    refine ⟨by rw [i1, List.length_set], fun z => ?_, ?_⟩
    · rw [i2, hB]
      by_cases e1 : (z : Int) ∈ t
      · rw [if_pos e1, if_pos (by simp [e1])]
      · rw [if_neg e1]
        by_cases e2 : z = y
        · subst e2; simp
        · rw [if_neg e2, if_neg (by simp [e1]; omega)]
    · have := cntB_set b y (-1) hy
      rw [hb, if_pos (by omega), if_neg (by omega)] at this
      simp only [List.length_cons]
      omega
theorem shape_nodup {o : Bool} {l : List Pr} {h : List Int} (hs : Shape o l h) : h.Nodup := by
  rcases hs with rfl | ⟨p, t, -, rfl | ⟨hne, rfl⟩⟩
  · simp
  · simp
  · simp [hne]
/-- A step that gives back. -/
theorem Inv.give {N m : Nat} {o : Bool} {s : St} (h : Inv N m o s) {k : Nat} (hk : k < m) (D : List Int) :
    Inv N m o { b := giveAll s.b (s.h k) k, L := s.L.set k (s.l k).tail, H := s.H.set k [], D := D } := by
  have hkH : k < s.H.length := by rw [h.lH]; exact hk
  have hkL : k < s.L.length := by rw [h.lL]; exact hk
  have hH : ∀ j, (s.H.set k []).getD j [] = if j = k then [] else s.h j := fun j => getD_set_ite _ _ _ _ _ hkH
  have hL : ∀ j, (s.L.set k (s.l k).tail).getD j [] = if j = k then (s.l k).tail else s.l j := fun j => getD_set_ite _ _ _ _ _ hkL
  obtain ⟨g1, g2, g3⟩ := giveAll_all (b := s.b) (hs := s.h k) (k := k) (fun x hx => by
    obtain ⟨y, e, hy, hb⟩ := h.own k hk x hx
    exact ⟨y, e, by rw [h.lb]; exact hy, hb⟩) (shape_nodup (h.shp k))
  refine ⟨by rw [g1]; exact h.lb, by rw [List.length_set]; exact h.lL, by rw [List.length_set]; exact h.lH, fun j hj x hx => ?_, fun z hz => ?_, fun j => ?_, fun j => ?_, fun j hj => ?_, ?_⟩
  · replace hx : x ∈ (s.H.set k []).getD j [] := hx
    rw [hH] at hx
    by_cases e : j = k
    · rw [if_pos e] at hx; cases hx
    · rw [if_neg e] at hx
      obtain ⟨y, rfl, hy, hb⟩ := h.own j hj x hx
      refine ⟨y, rfl, hy, ?_⟩
      show (giveAll s.b (s.h k) k).getD y 0 = j
      rw [g2, if_neg (fun hm => ?_)]
      · exact hb
      · obtain ⟨y2, e2, -, hb2⟩ := h.own k hk _ hm
        obtain rfl : y = y2 := by omega
        omega
  · show (giveAll s.b (s.h k) k).getD z 0 = -1 ∨ ∃ j : Nat, j < m ∧ (giveAll s.b (s.h k) k).getD z 0 = j ∧ (z : Int) ∈ (s.H.set k []).getD j []
    rw [g2]
    by_cases e : (z : Int) ∈ s.h k
    · rw [if_pos e]; exact .inl rfl
    · rw [if_neg e]
      rcases h.free z hz with h1 | ⟨j, hj, hb, hm⟩
      · exact .inl h1
      · exact .inr ⟨j, hj, hb, by rw [hH, if_neg (by intro e2; subst e2; exact e hm)]; exact hm⟩
  · show InN N ((s.L.set k (s.l k).tail).getD j [])
    rw [hL]
    split
    · exact fun p hp => h.sec k p (List.mem_of_mem_tail hp)
    · exact h.sec j
  · show Shape o ((s.L.set k (s.l k).tail).getD j []) ((s.H.set k []).getD j [])
    rw [hL, hH]
    split
    · exact .inl rfl
    · exact h.shp j
  · show (s.H.set k []).getD j [] = []
    rw [hH, if_neg (by omega)]; exact h.out j hj
  · have h2 := sumLen_set s.H k [] hkH
    have h3 : (s.H.getD k []) = s.h k := rfl
    rw [h3] at h2
    simp only [List.length_nil] at h2
    have := h.cnt
    show cntB (giveAll s.b (s.h k) k) = sumLen (s.H.set k [])
    omega

/-- A step, by what it does. -/
theorem step_cases {N m : Nat} {o : Bool} {s : St} (h : Inv N m o s) {k : Nat} (_hk : k < m) :
    (stepF o s k = s ∧ (s.l k = [] ∨ ∃ y : Nat, y < N ∧ wantsF o (s.l k) (s.h k) = y ∧ ∃ j : Nat, j < m ∧ s.b.getD y 0 = j ∧ (y : Int) ∈ s.h j)) ∨
    (∃ y : Nat, y < N ∧ wantsF o (s.l k) (s.h k) = y ∧ s.b.getD y 0 = -1 ∧ stepF o s k = { s with b := s.b.set y k, H := s.H.set k (s.h k ++ [(y : Int)]) }) ∨
    (wantsF o (s.l k) (s.h k) = -1 ∧ (∃ p t, s.l k = p :: t) ∧ s.h k ≠ [] ∧ stepF o s k = { b := giveAll s.b (s.h k) k, L := s.L.set k (s.l k).tail, H := s.H.set k [], D := s.D ++ [(k : Int)] }) := by
  have want : ∀ y : Nat, y < N → wantsF o (s.l k) (s.h k) = y →
      (stepF o s k = s ∧ (s.l k = [] ∨ ∃ y : Nat, y < N ∧ wantsF o (s.l k) (s.h k) = y ∧ ∃ j : Nat, j < m ∧ s.b.getD y 0 = j ∧ (y : Int) ∈ s.h j)) ∨
      (∃ y : Nat, y < N ∧ wantsF o (s.l k) (s.h k) = y ∧ s.b.getD y 0 = -1 ∧ stepF o s k = { s with b := s.b.set y k, H := s.H.set k (s.h k ++ [(y : Int)]) }) := by
    intro y hy hw
    have hyb : y < s.b.length := by rw [h.lb]; exact hy
    rcases h.free y hy with h1 | ⟨j, hj, hb, hm⟩
    · refine .inr ⟨y, hy, hw, h1, ?_⟩
      have hE : takeE s.b y k = 0 := by rw [takeE_nat hyb, h1, if_neg (by omega), if_neg (by omega)]
      unfold stepF
      rw [hw, if_pos (by omega), if_pos hE, Int.toNat_natCast]
    · refine .inl ⟨?_, .inr ⟨y, hy, hw, j, hj, hb, hm⟩⟩
      have hE : takeE s.b y k ≠ 0 := by rw [takeE_nat hyb, hb]; split <;> (try split) <;> omega
      unfold stepF
      rw [hw, if_pos (by omega), if_neg hE]
  rcases wants_cases (h.shp k) with ⟨e1, e2, e3⟩ | ⟨p, t, e1, e2, e3⟩ | ⟨p, t, e1, hne, e2, e3⟩ | ⟨p, t, e1, e2, e3⟩
  · refine .inl ⟨?_, .inl e1⟩
    unfold stepF
    rw [e3, if_neg (by simp), if_neg (by rw [e2]; simp)]
  · have hin := (lo_in (o := o) (h.sec k p (by rw [e1]; simp))).1
    obtain ⟨y, hy⟩ : ∃ y : Nat, lo o p = y := ⟨(lo o p).toNat, by omega⟩
    rcases want y (by omega) (by rw [e3, hy]) with h1 | h1
    · exact .inl h1
    · exact .inr (.inl h1)
  · have hin := (lo_in (o := o) (h.sec k p (by rw [e1]; simp))).2
    obtain ⟨y, hy⟩ : ∃ y : Nat, hi o p = y := ⟨(hi o p).toNat, by omega⟩
    rcases want y (by omega) (by rw [e3, hy]) with h1 | h1
    · exact .inl h1
    · exact .inr (.inl h1)
  · have hne : s.h k ≠ [] := by rcases e3 with ⟨-, e⟩ | ⟨-, e⟩ <;> rw [e] <;> simp
    refine .inr (.inr ⟨e2, ⟨p, t, e1⟩, hne, ?_⟩)
    unfold stepF
    rw [e2, if_neg (by simp), if_pos (List.length_pos_iff.2 hne)]
theorem Inv.step {N m : Nat} {o : Bool} {s : St} (h : Inv N m o s) {k : Nat} (hk : k < m) : Inv N m o (stepF o s k) := by
  rcases step_cases h hk with ⟨e, -⟩ | ⟨y, hy, hw, hf, e⟩ | ⟨-, -, -, e⟩
  · rw [e]; exact h
  · rw [e]; exact h.take hk hy hw hf
  · rw [e]; exact h.give hk _
theorem Inv.pick {N m : Nat} {o : Bool} {s : St} (h : Inv N m o s) (z : Int) : Inv N m o (pickF o s z) := by
  unfold pickF
  split
  · next hz => exact h.step (by rw [h.lL] at hz; omega)
  · exact h
theorem Inv.run {N m : Nat} {o : Bool} : ∀ (zs : List Int) {s : St}, Inv N m o s → Inv N m o (runF o s zs)
  | [], _, h => h
  | z :: zs, _, h => Inv.run zs (h.pick z)

theorem waitF_len {N m : Nat} {o : Bool} {s : St} (h : Inv N m o s) : (waitF o s).length = m := by unfold waitF; rw [List.length_map, List.length_range, h.lL]
theorem waitF_at {N m : Nat} {o : Bool} {s : St} (h : Inv N m o s) {k : Nat} (hk : k < m) : holdsW (waitF o s) k = s.h k ∧ wantsW (waitF o s) k = wantsF o (s.l k) (s.h k) := by
  have : (waitF o s).getD k wE = (s.h k, wantsF o (s.l k) (s.h k)) := by unfold waitF; simp [List.getD, h.lL, hk]
  unfold holdsW wantsW
  rw [this]; exact ⟨rfl, rfl⟩
/-- Who waits is told as who may be. -/
theorem Inv.okW {N m : Nat} {o : Bool} {s : St} (h : Inv N m o s) : okW (waitF o s) := by
  have hl := waitF_len h
  have key : ∀ k, k ≤ m → okP (allP (waitF o s) k) := by
    intro k
    induction k with
    | zero => intro _; exact ⟨by simp [allP], by simp [allP]⟩
    | succ k ih =>
      intro hk
      have hik := ih (by omega)
      have hw := (waitF_at h (show k < m by omega)).1
      rw [allP_succ, hw]
      refine ⟨fun p hp => ?_, ?_⟩
      · rcases List.mem_append.1 hp with h1 | h1
        · exact hik.1 p h1
        · obtain ⟨x, hx, rfl⟩ := List.mem_map.1 h1
          obtain ⟨y, rfl, -, -⟩ := h.own k (by omega) x hx
          show (0 : Int) ≤ (y : Int); omega
      · rw [List.map_append, List.nodup_append]
        refine ⟨hik.2, ?_, fun a ha b hb e => ?_⟩
        · have : (pairsOf k (s.h k)).map Prod.fst = s.h k := by unfold pairsOf; simp [List.map_map, Function.comp_def]
          rw [this]; exact shape_nodup (h.shp k)
        · obtain ⟨p, hp, rfl⟩ := List.mem_map.1 ha
          obtain ⟨q, hq, rfl⟩ := List.mem_map.1 hb
          obtain ⟨x, hx, rfl⟩ := List.mem_map.1 hq
          obtain ⟨j, hj, -, hm⟩ := mem_allP.1 (show (p.1, p.2) ∈ allP (waitF o s) k from hp)
          rw [(waitF_at h (show j < m by omega)).1] at hm
          obtain ⟨y1, e1, -, b1⟩ := h.own j (by omega) _ hm
          obtain ⟨y2, e2, -, b2⟩ := h.own k (by omega) _ hx
          have : y1 = y2 := by have : p.1 = x := e; omega
          subst this
          omega
  refine ⟨key _ (by rw [hl]; exact Nat.le_refl _), fun k hk => ?_⟩
  rw [hl] at hk
  obtain ⟨e1, e2⟩ := waitF_at h hk
  rw [e1, e2]
  rcases wants_cases (h.shp k) with ⟨-, e, -⟩ | ⟨p, t, -, e, -⟩ | ⟨p, t, -, hne, e, e3⟩ | ⟨p, t, e0, e3, e⟩
  · rw [e]; simp
  · rw [e]; simp
  · rw [e3, e]; simp; exact fun h => hne h.symm
  · rw [e3]
    intro hm
    obtain ⟨y, e4, -, -⟩ := h.own k hk _ hm
    omega
/-- With ordered nobody is stuck. -/
theorem Inv.noDead {N m : Nat} {s : St} (h : Inv N m true s) : ∀ i, ¬ Dead (waitF true s) i := by
  have hl := waitF_len h
  have key : ∀ (n : Nat) i, Dead (waitF true s) i → (N : Int) - wantsW (waitF true s) i ≤ n → False := by
    intro n
    induction n with
    | zero =>
      intro i hdi hn
      obtain ⟨h1, j, hj, hm⟩ := Dead.closed _ i hdi
      obtain ⟨h2, -⟩ := Dead.closed _ j hj
      rw [(waitF_at h (by omega)).1] at hm
      obtain ⟨y, e, hy, -⟩ := h.own j (by omega) _ hm
      omega
    | succ n ih =>
      intro i hdi hn
      obtain ⟨h1, j, hj, hm⟩ := Dead.closed _ i hdi
      obtain ⟨h2, q, hq, hm2⟩ := Dead.closed _ j hj
      obtain ⟨h3, -⟩ := Dead.closed _ q hq
      rw [hl] at h2 h3
      rw [(waitF_at h h2).1] at hm
      rw [(waitF_at h h3).1] at hm2
      obtain ⟨y, e, hy, -⟩ := h.own q h3 _ hm2
      refine ih j hj ?_
      obtain ⟨-, e2⟩ := waitF_at h h2
      rw [e2] at e ⊢
      rcases wants_cases (h.shp j) with ⟨-, e3, -⟩ | ⟨p, t, -, e3, -⟩ | ⟨p, t, -, hne, e3, e4⟩ | ⟨p, t, e0, e4, -⟩
      · rw [e3] at hm; cases hm
      · rw [e3] at hm; cases hm
      · rw [e3] at hm
        simp at hm
        rw [e4]
        have : lo true p < hi true p := by unfold lo hi at *; simp at *; omega
        omega
      · omega
  intro i hdi
  exact key ((N : Int) - wantsW (waitF true s) i).toNat i hdi (by omega)
end Go.Proofs.Ythbabhmpkniliaa.Lk
