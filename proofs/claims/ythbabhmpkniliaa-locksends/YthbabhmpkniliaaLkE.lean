/-
  With ordered, picked in turn often enough, all get done. No condition.
-/
import Derived.Test.YthbabhmpkniliaaLkF
namespace Go.Proofs.Ythbabhmpkniliaa.Lk

/-- How many steps a section takes. -/
def cost (o : Bool) (p : Pr) : Nat := if lo o p = hi o p then 2 else 3
/-- How many steps are left of a job. -/
def costL (o : Bool) (l : List Pr) : Nat := (l.map (cost o)).sum
def costAll (o : Bool) (L : List (List Pr)) : Nat := (L.map (costL o)).sum
/-- How many steps are left, and one for each lock that somebody has. -/
def mu (o : Bool) (s : St) : Nat := costAll o s.L
theorem costAll_set (o : Bool) : ∀ (L : List (List Pr)) (k : Nat) (l : List Pr), k < L.length → costAll o (L.set k l) + costL o (L.getD k []) = costAll o L + costL o l
  | [], _, _, hk => absurd hk (Nat.not_lt_zero _)
  | x :: t, 0, l, _ => by simp [costAll]; omega
  | x :: t, k + 1, l, hk => by
    have ih := costAll_set o t k l (by simpa using hk)
    have e1 : (x :: t).set (k + 1) l = x :: t.set k l := rfl
    have e2 : (x :: t).getD (k + 1) [] = t.getD k [] := rfl
    rw [e1, e2]
    simp only [costAll, List.map_cons, List.sum_cons] at ih ⊢
    omega
theorem costL_cons (o : Bool) (p : Pr) (t : List Pr) : costL o (p :: t) = cost o p + costL o t := by simp [costL]
/-- Who has locks has no more than its section costs. -/
theorem shape_cost {o : Bool} {p : Pr} {t : List Pr} {h : List Int} (hs : Shape o (p :: t) h) : h.length + 1 ≤ cost o p := by
  unfold cost
  rcases hs with e | ⟨q, u, e, hh⟩
  · rw [e]; simp; split <;> omega
  · cases e
    rcases hh with e | ⟨hne, e⟩
    · rw [e]; simp; split <;> omega
    · rw [e, if_neg hne]; simp
/-- How far all have come: what is left less what is had. -/
structure Mu (o : Bool) (s : St) (n : Nat) : Prop where
  eq : n + sumLen s.H = costAll o s.L
theorem sum_cost {N m : Nat} {o : Bool} {s : St} (h : Inv N m o s) : sumLen s.H ≤ costAll o s.L := by
  have key : ∀ (H : List (List Int)) (L : List (List Pr)), H.length = L.length → (∀ i, i < H.length → (H.getD i []).length ≤ costL o (L.getD i [])) → sumLen H ≤ costAll o L := by
    intro H
    induction H with
    | nil => intro L _ _; simp [sumLen]
    | cons x u ih =>
      intro L hl2 hall
      cases L with
      | nil => simp at hl2
      | cons z v =>
        have h0 := hall 0 (by simp)
        have hr := ih v (by simpa using hl2) (fun i hi => hall (i + 1) (by simpa using hi))
        have h0 : x.length ≤ costL o z := h0
        simp only [sumLen, costAll, List.map_cons, List.sum_cons] at hr ⊢
        omega
  refine key s.H s.L (by rw [h.lH, h.lL]) (fun i hi => ?_)
  have hsh : Shape o (s.l i) (s.h i) := h.shp i
  show (s.h i).length ≤ costL o (s.l i)
  cases hli : s.l i with
  | nil =>
    rw [hli] at hsh
    rcases hsh with e0 | ⟨q, u, e0, -⟩
    · rw [e0]; simp
    · cases e0
  | cons q u =>
    rw [hli] at hsh
    have := shape_cost hsh
    rw [costL_cons]; omega
/-- A step does nothing, or brings it nearer by one. -/
theorem step_mu {N m : Nat} {o : Bool} {s : St} (h : Inv N m o s) {k : Nat} (hk : k < m) {n : Nat} (hM : Mu o s n) :
    (stepF o s k = s ∧ (s.l k = [] ∨ ∃ y : Nat, y < N ∧ wantsF o (s.l k) (s.h k) = y ∧ ∃ j : Nat, j < m ∧ s.b.getD y 0 = j ∧ (y : Int) ∈ s.h j)) ∨ (∃ n', n = n' + 1 ∧ Mu o (stepF o s k) n') := by
  have hE := hM.eq
  have hkH : k < s.H.length := by rw [h.lH]; exact hk
  have hkL : k < s.L.length := by rw [h.lL]; exact hk
  rcases step_cases h hk with h1 | ⟨y, hy, hw, hf, e⟩ | ⟨hw, ⟨p, t, hl⟩, hne, e⟩
  · exact .inl h1
  · right
    have h2 := sumLen_set s.H k (s.h k ++ [(y : Int)]) hkH
    have h3 : s.H.getD k [] = s.h k := rfl
    rw [h3, List.length_append] at h2
    simp only [List.length_cons, List.length_nil] at h2
    have hall := sum_cost (h.take hk hy hw hf)
    replace hall : sumLen (s.H.set k (s.h k ++ [(y : Int)])) ≤ costAll o s.L := hall
    refine ⟨n - 1, by omega, ⟨?_⟩⟩
    rw [e]
    show n - 1 + sumLen (s.H.set k (s.h k ++ [(y : Int)])) = costAll o s.L
    omega
  · right
    have h2 := sumLen_set s.H k [] hkH
    have h3 : s.H.getD k [] = s.h k := rfl
    have h4 := costAll_set o s.L k (s.l k).tail hkL
    have h5 : s.L.getD k [] = s.l k := rfl
    rw [h3] at h2
    rw [h5, hl] at h4
    simp only [List.length_nil, List.tail_cons] at h2 h4
    rw [costL_cons] at h4
    have hc : (s.h k).length + 1 = cost o p := by
      have hs := h.shp k
      rcases wants_cases hs with ⟨e1, -, -⟩ | ⟨q, u, e1, e2, -⟩ | ⟨q, u, e1, hne2, e2, e3⟩ | ⟨q, u, e1, -, e3⟩
      · rw [e1] at hl; cases hl
      · exact absurd e2 hne
      · rw [hw] at e3
        have := (lo_in (o := o) (h.sec k q (by rw [e1]; simp))).2
        omega
      · rw [e1] at hl; cases hl
        unfold cost
        rcases e3 with ⟨e4, e5⟩ | ⟨e4, e5⟩
        · rw [e5, if_pos e4]; rfl
        · rw [e5, if_neg e4]; rfl
    have hall := sum_cost (h.give hk (s.D ++ [(k : Int)]))
    replace hall : sumLen (s.H.set k []) ≤ costAll o (s.L.set k (s.l k).tail) := hall
    rw [hl] at hall
    simp only [List.tail_cons] at hall
    refine ⟨n - 1, ?_, ⟨?_⟩⟩
    · omega
    · rw [e, hl]
      show n - 1 + sumLen (s.H.set k []) = costAll o (s.L.set k t)
      omega
/-- With ordered one can do something, as long as a section is left. -/
theorem can_step {N m : Nat} {s : St} (h : Inv N m true s) (hall : ∀ k, k < m → s.l k = [] ∨ ∃ y : Nat, y < N ∧ wantsF true (s.l k) (s.h k) = y ∧ ∃ j : Nat, j < m ∧ s.b.getD y 0 = j ∧ (y : Int) ∈ s.h j) : ∀ k, k < m → s.l k = [] := by
  intro k hk
  cases hl : s.l k with
  | nil => rfl
  | cons p t =>
    refine absurd ⟨fun i => i < m ∧ s.l i ≠ [], ?_, hk, by rw [hl]; simp⟩ (h.noDead k)
    intro i hi
    rw [waitF_len h]
    refine ⟨hi.1, ?_⟩
    rcases hall i hi.1 with e | ⟨y, -, hw, j, hj, -, hm⟩
    · exact absurd e hi.2
    · refine ⟨j, ⟨hj, fun e => ?_⟩, ?_⟩
      · rcases h.shp j with e2 | ⟨q, u, e2, -⟩
        · rw [e2] at hm; cases hm
        · rw [e] at e2; cases e2
      · rw [(waitF_at h hi.1).2, (waitF_at h hj).1, hw]; exact hm
/-- A row of picks: nothing was done, or it came nearer. -/
theorem row_mu {N m : Nat} {o : Bool} : ∀ (ks : List Nat) {s : St}, Inv N m o s → (∀ k ∈ ks, k < m) → ∀ {n : Nat}, Mu o s n →
    (runF o s (ks.map Int.ofNat) = s ∧ ∀ k ∈ ks, s.l k = [] ∨ ∃ y : Nat, y < N ∧ wantsF o (s.l k) (s.h k) = y ∧ ∃ j : Nat, j < m ∧ s.b.getD y 0 = j ∧ (y : Int) ∈ s.h j) ∨ (∃ n', n' < n ∧ Mu o (runF o s (ks.map Int.ofNat)) n')
  | [], s, _, _, _, _ => .inl ⟨rfl, fun k hk => by cases hk⟩
  | k :: ks, s, h, hks, n, hM => by
    have hk := hks k (by simp)
    have hp : pickF o s (Int.ofNat k) = stepF o s k := by
      unfold pickF
      rw [if_pos (by rw [h.lL]; show (0 : Int) ≤ (k : Int) ∧ (k : Int) < m; omega)]; rfl
    show (runF o (pickF o s (Int.ofNat k)) (ks.map Int.ofNat) = s ∧ _) ∨ (∃ n', n' < n ∧ Mu o (runF o (pickF o s (Int.ofNat k)) (ks.map Int.ofNat)) n')
    rw [hp]
    rcases step_mu h hk hM with ⟨e, he⟩ | ⟨n', rfl, hM'⟩
    · rw [e]
      rcases row_mu ks h (fun x hx => hks x (by simp [hx])) hM with ⟨e2, h2⟩ | h2
      · refine .inl ⟨e2, fun x hx => ?_⟩
        rcases List.mem_cons.1 hx with rfl | hx
        · exact he
        · exact h2 x hx
      · exact .inr h2
    · right
      rcases row_mu ks (h.step hk) (fun x hx => hks x (by simp [hx])) hM' with ⟨e2, -⟩ | ⟨n2, h2, h3⟩
      · rw [e2]; exact ⟨n', by omega, hM'⟩
      · exact ⟨n2, by omega, h3⟩
/-- All jobs, once each. -/
def rowI (m : Nat) : List Int := (List.range m).map Int.ofNat
/-- So many rows. -/
def rowsI (m : Nat) : Nat → List Int
  | 0 => []
  | r + 1 => rowsI m r ++ rowI m
theorem all_done {N m : Nat} {s : St} (h : Inv N m true s) : ∀ (r : Nat) {n : Nat}, Mu true s n → ∃ n', Mu true (runF true s (rowsI m r)) n' ∧ (n' + r ≤ n ∨ ∀ k, k < m → (runF true s (rowsI m r)).l k = [])
  | 0, n, hM => ⟨n, hM, .inl (by omega)⟩
  | r + 1, n, hM => by
    obtain ⟨n', hM', hor⟩ := all_done h r hM
    have hI := h.run (rowsI m r) (o := true)
    have e : runF true s (rowsI m (r + 1)) = runF true (runF true s (rowsI m r)) (rowI m) := by
      show runF true s (rowsI m r ++ rowI m) = _
      unfold runF; rw [List.foldl_append]
    rw [e]
    rcases row_mu (List.range m) hI (fun k hk => List.mem_range.1 hk) hM' with ⟨e2, h2⟩ | ⟨n2, h2, h3⟩
    · have hl := can_step hI (fun k hk => h2 k (List.mem_range.2 hk))
      refine ⟨n', ?_, .inr ?_⟩
      · show Mu true (runF true _ ((List.range m).map Int.ofNat)) n'; rw [e2]; exact hM'
      · show ∀ k, k < m → (runF true _ ((List.range m).map Int.ofNat)).l k = []; rw [e2]; exact hl
    · rcases hor with h4 | h4
      · exact ⟨n2, h3, .inl (by omega)⟩
      · refine ⟨n2, h3, .inr ?_⟩
        have h5 : ∀ k ∈ List.range m, (runF true s (rowsI m r)).l k = [] := fun k hk => h4 k (List.mem_range.1 hk)
        have stay : ∀ (ks : List Nat) {t : St}, Inv N m true t → (∀ k, k < m → t.l k = []) → (∀ k ∈ ks, k < m) → runF true t (ks.map Int.ofNat) = t := by
          intro ks
          induction ks with
          | nil => intro t _ _ _; rfl
          | cons k ks ih =>
            intro t ht hl hks
            have hk := hks k (by simp)
            have hp : pickF true t (Int.ofNat k) = t := by
              unfold pickF
              rw [if_pos (by rw [ht.lL]; show (0 : Int) ≤ (k : Int) ∧ (k : Int) < m; omega)]
              show stepF true t k = t
              rcases step_cases ht hk with ⟨e3, -⟩ | ⟨y, -, hw, -, -⟩ | ⟨-, ⟨p, u, e3⟩, -, -⟩
              · exact e3
              · rw [hl k hk] at hw; unfold wantsF at hw; simp at hw
              · rw [hl k hk] at e3; cases e3
            show runF true (pickF true t (Int.ofNat k)) (ks.map Int.ofNat) = t
            rw [hp]
            exact ih ht hl (fun x hx => hks x (by simp [hx]))
        show ∀ k, k < m → (runF true _ ((List.range m).map Int.ofNat)).l k = []
        rw [stay (List.range m) hI h4 (fun k hk => List.mem_range.1 hk)]
        exact h4
/-- Nothing is left to do. -/
theorem mu_zero {N m : Nat} {o : Bool} {s : St} (h : Inv N m o s) (hM : Mu o s 0) : ∀ k, k < m → s.l k = [] := by
  intro k hk
  cases hl : s.l k with
  | nil => rfl
  | cons p t =>
    exfalso
    -- the sum of what is had is less than what is left
    have key : ∀ (H : List (List Int)) (L : List (List Pr)) (k : Nat), H.length = L.length → k < H.length → (∀ i, i < H.length → (H.getD i []).length ≤ costL o (L.getD i [])) → (H.getD k []).length < costL o (L.getD k []) → sumLen H < costAll o L := by
      intro H
      induction H with
      | nil => intro L k _ hk _ _; exact absurd hk (Nat.not_lt_zero _)
      | cons x u ih =>
        intro L k hl2 hk hall hlt
        cases L with
        | nil => simp at hl2
        | cons z v =>
          have h0 : x.length ≤ costL o z := hall 0 (by simp)
          cases k with
          | zero =>
            have h1 : x.length < costL o z := hlt
            have : sumLen u ≤ costAll o v := by
              have : ∀ (H : List (List Int)) (L : List (List Pr)), H.length = L.length → (∀ i, i < H.length → (H.getD i []).length ≤ costL o (L.getD i [])) → sumLen H ≤ costAll o L := by
                intro H
                induction H with
                | nil => intro L _ _; simp [sumLen]
                | cons x u ih =>
                  intro L hl2 hall
                  cases L with
                  | nil => simp at hl2
                  | cons z v =>
                    have h0 : x.length ≤ costL o z := hall 0 (by simp)
                    have hr := ih v (by simpa using hl2) (fun i hi => hall (i + 1) (by simpa using hi))
                    simp only [sumLen, costAll, List.map_cons, List.sum_cons] at hr ⊢
                    omega
              exact this u v (by simpa using hl2) (fun i hi => hall (i + 1) (by simpa using hi))
            simp only [sumLen, costAll, List.map_cons, List.sum_cons] at this ⊢
            omega
          | succ k =>
            have hr := ih v k (by simpa using hl2) (by simpa using hk) (fun i hi => hall (i + 1) (by simpa using hi)) hlt
            simp only [sumLen, costAll, List.map_cons, List.sum_cons] at hr ⊢
            omega
    have each : ∀ i, (s.h i).length ≤ costL o (s.l i) := fun i => by
      cases hli : s.l i with
      | nil =>
        rcases h.shp i with e0 | ⟨q, u, e0, -⟩
        · rw [e0]; simp
        · rw [hli] at e0; cases e0
      | cons q u =>
        have := shape_cost (hli ▸ h.shp i)
        rw [costL_cons]; omega
    have h1 := key s.H s.L k (by rw [h.lH, h.lL]) (by rw [h.lH]; exact hk) (fun i _ => each i) (by
      show (s.h k).length < costL o (s.l k)
      have := shape_cost (hl ▸ h.shp k)
      rw [hl, costL_cons]; omega)
    have := hM.eq
    omega
theorem run_mu {N m : Nat} {o : Bool} : ∀ (zs : List Int) {s : St}, Inv N m o s → ∀ {n : Nat}, Mu o s n → ∃ n', n' ≤ n ∧ Mu o (runF o s zs) n'
  | [], _, _, n, hM => ⟨n, Nat.le_refl _, hM⟩
  | z :: zs, s, h, n, hM => by
    have h1 : ∃ n1, n1 ≤ n ∧ Mu o (pickF o s z) n1 := by
      unfold pickF
      split
      · next hz =>
        rcases step_mu h (k := z.toNat) (by rw [h.lL] at hz; omega) hM with ⟨e, -⟩ | ⟨n', rfl, hM'⟩
        · rw [e]; exact ⟨n, Nat.le_refl _, hM⟩
        · exact ⟨n', by omega, hM'⟩
      · exact ⟨n, Nat.le_refl _, hM⟩
    obtain ⟨n1, h2, h3⟩ := h1
    obtain ⟨n2, h4, h5⟩ := run_mu zs (h.pick z) h3
    exact ⟨n2, by omega, h5⟩
def lenL (L : List (List Pr)) : Nat := (L.map List.length).sum
theorem lenL_set : ∀ (L : List (List Pr)) (k : Nat) (l : List Pr), k < L.length → lenL (L.set k l) + (L.getD k []).length = lenL L + l.length
  | [], _, _, hk => absurd hk (Nat.not_lt_zero _)
  | x :: t, 0, l, _ => by simp [lenL]; omega
  | x :: t, k + 1, l, hk => by
    have ih := lenL_set t k l (by simpa using hk)
    have e1 : (x :: t).set (k + 1) l = x :: t.set k l := rfl
    have e2 : (x :: t).getD (k + 1) [] = t.getD k [] := rfl
    rw [e1, e2]
    simp only [lenL, List.map_cons, List.sum_cons] at ih ⊢
    omega
/-- What was done, and what is left, are all. -/
structure Dn (m : Nat) (js : List (List Pr)) (s : St) : Prop where
  each : ∀ k, k < m → s.D.count (k : Int) + (s.l k).length = (js.getD k []).length
  all : s.D.length + lenL s.L = lenL js
theorem Dn.pick {N m : Nat} {o : Bool} {js : List (List Pr)} {s : St} (h : Inv N m o s) (hD : Dn m js s) (z : Int) : Dn m js (pickF o s z) := by
  unfold pickF
  split
  · next hz =>
    have hk : z.toNat < m := by rw [h.lL] at hz; omega
    rcases step_cases h hk with ⟨e, -⟩ | ⟨y, -, -, -, e⟩ | ⟨-, ⟨p, t, hl⟩, -, e⟩
    · rw [e]; exact hD
    · rw [e]; exact ⟨hD.each, hD.all⟩
    · rw [e]
      have hkL : z.toNat < s.L.length := by rw [h.lL]; exact hk
      have h4 := lenL_set s.L z.toNat (s.l z.toNat).tail hkL
      have h5 : s.L.getD z.toNat [] = s.l z.toNat := rfl
      rw [h5, hl] at h4
      simp only [List.tail_cons, List.length_cons] at h4
      refine ⟨fun k hk2 => ?_, ?_⟩
      · show (s.D ++ [(z.toNat : Int)]).count (k : Int) + ((s.L.set z.toNat (s.l z.toNat).tail).getD k []).length = _
        rw [getD_set_ite _ _ _ _ _ hkL, List.count_append]
        have h1 := hD.each k hk2
        by_cases ek : k = z.toNat
        · rw [if_pos ek]
          rw [ek, hl] at h1 ⊢
          simp only [List.tail_cons, List.length_cons, List.count_singleton_self] at h1 ⊢
          omega
        · rw [if_neg ek]
          have : [(z.toNat : Int)].count (k : Int) = 0 := List.count_eq_zero.2 (by simp; omega)
          rw [this]
          have : (s.L.getD k []) = s.l k := rfl
          rw [this]
          omega
      · show (s.D ++ [(z.toNat : Int)]).length + lenL (s.L.set z.toNat (s.l z.toNat).tail) = _
        have := hD.all
        rw [hl]
        simp only [List.length_append, List.length_cons, List.length_nil, List.tail_cons]
        omega
  · exact hD
theorem Dn.run {N m : Nat} {o : Bool} {js : List (List Pr)} : ∀ (zs : List Int) {s : St}, Inv N m o s → Dn m js s → Dn m js (runF o s zs)
  | [], _, _, hD => hD
  | z :: zs, _, h, hD => Dn.run zs (h.pick z) (Dn.pick h hD z)
end Go.Proofs.Ythbabhmpkniliaa.Lk
namespace Go.Proofs.Ythbabhmpkniliaa
open Lk
theorem costAll_le (o : Bool) (js : List (List Pr)) : costAll o js ≤ 3 * lenL js := by
  have h1 : ∀ l : List Pr, costL o l ≤ 3 * l.length := fun l => by
    induction l with
    | nil => simp [costL]
    | cons p t ih => rw [costL_cons, List.length_cons]; have : cost o p ≤ 3 := by unfold cost; split <;> omega
                     omega
  induction js with
  | nil => simp [costAll]
  | cons l t ih =>
    have := h1 l
    simp only [costAll, lenL, List.map_cons, List.sum_cons] at ih ⊢
    omega
/-- All is done in the end. -/
theorem ends_all (zs : List Int) (A : List Int) : ∀ s, s = playS 6 (jobsF zs) true (A ++ rowsI (manyF zs) (3 * lenL (jobsF zs))) →
    (∀ y : Nat, y < 6 → s.b.getD y 0 = -1) ∧ s.b.length = 6 ∧ (∀ k, k < manyF zs → s.D.count (k : Int) = ((jobsF zs).getD k []).length) ∧ s.D.length = lenL (jobsF zs) := by
  intro s hs
  have hst := Inv.start (N := 6) (by omega) (jobsF_in zs) true
  rw [jobsF_len] at hst
  replace hst : Lk.Inv 6 (manyF zs) true (st0 6 (jobsF zs)) := hst
  have hM0 : Mu true (st0 6 (jobsF zs)) (costAll true (jobsF zs)) := ⟨by
    have : sumLen (st0 6 (jobsF zs)).H = 0 := by
      show sumLen ((jobsF zs).map (fun _ => [])) = 0
      generalize jobsF zs = l
      induction l with
      | nil => rfl
      | cons x t ih => show 0 + sumLen (t.map (fun _ => ([] : List Int))) = 0; rw [ih]
    rw [this]; rfl⟩
  have hD0 : Dn (manyF zs) (jobsF zs) (st0 6 (jobsF zs)) := ⟨fun k _ => by show ([] : List Int).count (k : Int) + _ = _; rw [List.count_nil, Nat.zero_add]; rfl, by show 0 + lenL (jobsF zs) = _; omega⟩
  have hA := hst.run A
  obtain ⟨n1, hn1, hM1⟩ := run_mu A hst hM0
  obtain ⟨n2, hM2, hor⟩ := all_done hA (3 * lenL (jobsF zs)) hM1
  have e : s = runF true (runF true (st0 6 (jobsF zs)) A) (rowsI (manyF zs) (3 * lenL (jobsF zs))) := by rw [hs]; unfold playS runF; rw [List.foldl_append]
  have hI : Inv 6 (manyF zs) true s := by rw [e]; exact hA.run _
  have hD : Dn (manyF zs) (jobsF zs) s := by rw [e]; exact Dn.run _ hA (Dn.run _ hst hD0)
  have hl : ∀ k, k < manyF zs → s.l k = [] := by
    rcases hor with h1 | h1
    · have := costAll_le true (jobsF zs)
      have hz : n2 = 0 := by omega
      subst hz
      exact mu_zero hI (by rw [e]; exact hM2)
    · rw [e]; exact h1
  refine ⟨fun y hy => ?_, hI.lb, fun k hk => ?_, ?_⟩
  · rcases hI.free y hy with h1 | ⟨k, hk, -, hm⟩
    · exact h1
    · rcases hI.shp k with h2 | ⟨p, t, h2, -⟩
      · rw [h2] at hm; cases hm
      · rw [hl k hk] at h2; cases h2
  · have := hD.each k hk
    rw [hl k hk] at this
    simpa using this
  · have := hD.all
    have hz : lenL s.L = 0 := by
      have : ∀ L : List (List Pr), (∀ k, k < L.length → L.getD k [] = []) → lenL L = 0 := by
        intro L
        induction L with
        | nil => intro _; rfl
        | cons x t ih =>
          intro h
          have h0 : x = [] := h 0 (by simp)
          have := ih (fun k hk => h (k + 1) (by simpa using hk))
          subst h0
          simp only [lenL, List.map_cons, List.sum_cons, List.length_nil] at this ⊢
          omega
      exact this s.L (fun k hk => hl k (by rw [← hI.lL]; exact hk))
    omega
end Go.Proofs.Ythbabhmpkniliaa
