/-
  Plain numbers behind LifeSeqs: the words of a run; no two that are Waking are the same.
-/
import Derived.Test.YtijbnojcehjcaaaDoorLfM
namespace Go.Proofs.YtijbnojcehjcaaaDoor
namespace Lf
open Pk

/-- The word, and all words so far. -/
def rs (s : Int × List Int) (x : Int × Int) : Int × List Int := if nxE s.1 x.1 x.2 = 0 then (nxW s.1 x.1 x.2, s.2 ++ [nxW s.1 x.1 x.2]) else s
def runSt (w : Int) (l : List (Int × Int)) : Int × List Int := l.foldl rs (w, [w])
theorem rs_yes {s : Int × List Int} {x : Int × Int} (h : nxE s.1 x.1 x.2 = 0) : rs s x = (nxW s.1 x.1 x.2, s.2 ++ [nxW s.1 x.1 x.2]) := by unfold rs; rw [if_pos h]
theorem rs_no {s : Int × List Int} {x : Int × Int} (h : nxE s.1 x.1 x.2 ≠ 0) : rs s x = s := by unfold rs; rw [if_neg h]
theorem runSt_snoc (w : Int) (l : List (Int × Int)) (k : Nat) (hk : k < l.length) : runSt w (l.take (k + 1)) = rs (runSt w (l.take k)) (l.getD k (0, 0)) := by
  have e : l.take (k + 1) = l.take k ++ [l.getD k (0, 0)] := by
    rw [List.take_succ_eq_append_getElem hk]; simp [List.getD, hk]
  unfold runSt
  rw [e, List.foldl_append]
  rfl
theorem rs_len (s : Int × List Int) (x : Int × Int) : s.2.length ≤ (rs s x).2.length ∧ (rs s x).2.length ≤ s.2.length + 1 := by
  by_cases h : nxE s.1 x.1 x.2 = 0
  · rw [rs_yes h]; simp
  · rw [rs_no h]; omega
theorem fold_len (l : List (Int × Int)) (s : Int × List Int) : s.2.length ≤ (l.foldl rs s).2.length := by
  induction l generalizing s with
  | nil => exact Nat.le_refl _
  | cons x l ih => exact Nat.le_trans (rs_len s x).1 (ih (rs s x))
theorem run_len (w : Int) (l : List (Int × Int)) (k : Nat) (hk : k ≤ l.length) : (runSt w (l.take k)).2.length ≤ k + 1 := by
  induction k with
  | zero => simp [runSt]
  | succ k ih =>
    rw [runSt_snoc w l k (by omega)]
    have := (rs_len (runSt w (l.take k)) (l.getD k (0, 0))).2
    have := ih (by omega)
    omega
/-- All are numbers of 64 bits. -/
theorem run_U {w : Int} (hw : U w) (l : List (Int × Int)) (k : Nat) (hk : k ≤ l.length) : U (runSt w (l.take k)).1 ∧ ∀ x ∈ (runSt w (l.take k)).2, U x := by
  induction k with
  | zero => simp [runSt, hw]
  | succ k ih =>
    rw [runSt_snoc w l k (by omega)]
    obtain ⟨h1, h2⟩ := ih (by omega)
    by_cases h : nxE (runSt w (l.take k)).1 (l.getD k (0, 0)).1 (l.getD k (0, 0)).2 = 0
    · rw [rs_yes h]
      refine ⟨nx_U, fun x hx => ?_⟩
      rcases List.mem_append.1 hx with hx | hx
      · exact h2 x hx
      · simp only [List.mem_singleton] at hx; rw [hx]; exact nx_U
    · rw [rs_no h]; exact ⟨h1, h2⟩

/-- What never falls, and grows at each claim. -/
def rank (w : Int) : Int := if K w = 0 then (G w + 1) * 65536 else G w * 65536 + S w
theorem of_zero : ∀ i, i < 16 → i ≠ 0 → ∀ b, ofB i 0 b = false := by decide
theorem to_zero : ∀ i, i < 16 → i ≠ 1 → toK i ≠ 0 := by decide
theorem to_two : ∀ i, i < 16 → i ≠ 2 → toK i ≠ 2 := by decide
theorem ch_same (i : Nat) (h0 : i ≠ 0) (h1 : i ≠ 1) (h2 : i ≠ 2) (s g : Int) : chS i s = s ∧ chG i g = g := by
  refine ⟨?_, ?_⟩
  · unfold chS; split <;> first | rfl | omega
  · unfold chG; split <;> first | rfl | omega
theorem rank_step {w ev cpu : Int} (h : nxE w ev cpu = 0) (hs : S w ≤ 60000) :
    rank w ≤ rank (nxW w ev cpu) ∧ S (nxW w ev cpu) ≤ S w + 1 ∧ (K (nxW w ev cpu) = 2 → rank w < rank (nxW w ev cpu)) := by
  obtain ⟨p, pK, -, -, pS, pG⟩ := nx_parts h
  obtain ⟨⟨hw, he, -⟩, ho, -⟩ := nx_inv h
  obtain ⟨-, -, ps, pg, -⟩ := parts_may hw
  obtain ⟨i, hi, rfl, hn⟩ := sixteen he
  rw [hn] at pK pS pG ho
  unfold rank
  rw [pK, pS, pG]
  by_cases h0 : i = 0
  · subst h0
    have hk : K w = 0 := by
      have : cn [0] (K w) = true := ho
      simpa [cn] using this
    rw [hk]
    refine ⟨?_, ?_, ?_⟩
    · show (G w + 1) * 65536 ≤ (G w + 1) * 65536 + 0; omega
    · show 0 ≤ S w + 1; omega
    · intro hh; exact absurd hh (by decide)
  have hk : K w ≠ 0 := fun e => by
    rw [e, of_zero i hi h0] at ho
    cases ho
  rw [if_neg hk]
  by_cases h1 : i = 1
  · subst h1
    refine ⟨?_, ?_, ?_⟩
    · show G w * 65536 + S w ≤ (G w + 1) * 65536; omega
    · show 0 ≤ S w + 1; omega
    · intro hh; exact absurd hh (by decide)
  rw [if_neg (to_zero i hi h1)]
  by_cases h2 : i = 2
  · subst h2
    have e1 : chS 2 (S w) = S w + 1 := by show (S w + 1) % 65536 = S w + 1; omega
    have e2 : chG 2 (G w) = G w := rfl
    rw [e1, e2]
    exact ⟨by omega, by omega, fun _ => by omega⟩
  · obtain ⟨e1, e2⟩ := ch_same i h0 h1 h2 (S w) (G w)
    rw [e1, e2]
    exact ⟨by omega, by omega, fun hh => absurd hh (to_two i hi h2)⟩

/-- No two that are Waking are the same. -/
def apart (l : List Int) : Prop := ∀ i k, k < i → i < l.length → K (l.getD i 0) = 2 → l.getD i 0 ≠ l.getD k 0
theorem apart_snoc {l : List Int} {v : Int} (h : apart l) (hv : K v = 2 → ∀ x ∈ l, x ≠ v) : apart (l ++ [v]) := by
  intro i k hk hi hK
  rw [List.length_append] at hi
  simp only [List.length_cons, List.length_nil] at hi
  have hk' : k < l.length := by omega
  have ek : (l ++ [v]).getD k 0 = l.getD k 0 := by simp [List.getD, List.getElem?_append_left hk']
  rw [ek]
  by_cases e : i < l.length
  · have ei : (l ++ [v]).getD i 0 = l.getD i 0 := by simp [List.getD, List.getElem?_append_left e]
    rw [ei] at hK ⊢
    exact h i k hk e hK
  · have e' : i = l.length := by omega
    subst e'
    have ei : (l ++ [v]).getD l.length 0 = v := by simp [List.getD]
    rw [ei] at hK ⊢
    have hm : l.getD k 0 ∈ l := by
      have : l.getD k 0 = l[k] := by simp [List.getD, hk']
      rw [this]; exact List.getElem_mem hk'
    exact fun e => hv hK _ hm e.symm
def Inv (s : Int × List Int) (j : Int) : Prop := isW s.1 ∧ S s.1 ≤ j ∧ (∀ x ∈ s.2, rank x ≤ rank s.1) ∧ apart s.2
theorem inv_step {s : Int × List Int} {j : Int} (h : Inv s j) (hj : j ≤ 60000) (x : Int × Int) : Inv (rs s x) (j + 1) := by
  obtain ⟨h1, h2, h3, h4⟩ := h
  by_cases hn : nxE s.1 x.1 x.2 = 0
  · rw [rs_yes hn]
    obtain ⟨r1, r2, r3⟩ := rank_step hn (by omega)
    refine ⟨(nx_parts hn).1, by simp only; omega, fun y hy => ?_, apart_snoc h4 (fun hK y hy e => ?_)⟩
    · rcases List.mem_append.1 hy with hy | hy
      · have := h3 y hy; simp only; omega
      · simp only [List.mem_singleton] at hy; rw [hy]; exact Int.le_refl _
    · have := h3 y hy
      have := r3 hK
      rw [e] at *
      omega
  · rw [rs_no hn]
    exact ⟨h1, by omega, h3, h4⟩
theorem inv_run (l : List (Int × Int)) (hl : l.length ≤ 60000) (k : Nat) (hk : k ≤ l.length) : Inv (runSt 0 (l.take k)) k := by
  induction k with
  | zero =>
    have e0 : runSt 0 (l.take 0) = (0, [0]) := by simp [runSt]
    rw [e0]
    refine ⟨by decide, by decide, fun x hx => ?_, ?_⟩
    · simp only [List.mem_singleton] at hx; rw [hx]; exact Int.le_refl _
    · intro i k hk hi
      simp only [List.length_cons, List.length_nil] at hi
      omega
  | succ k ih =>
    rw [runSt_snoc 0 l k (by omega)]
    have := inv_step (ih (by omega)) (by omega) (l.getD k (0, 0))
    simpa using this
/-- **No two words of a run that are Waking are the same.** -/
theorem seqs_apart (l : List (Int × Int)) (hl : l.length ≤ 60000) : apart (runSt 0 l).2 := by
  have := (inv_run l hl l.length (Nat.le_refl _)).2.2.2
  rwa [List.take_length] at this
theorem seqs_more (c : Int) (hc : 0 ≤ c ∧ c ≤ 63) (l : List (Int × Int)) : 1 < (runSt 0 ((0, c) :: l)).2.length := by
  have hn : nxE 0 0 c = 0 := (nx_yes (w := 0) (ev := 0) (cpu := c) ⟨by decide, by decide, hc⟩ (by decide) (by decide)).1
  have e : runSt 0 ((0, c) :: l) = l.foldl rs (rs (0, [0]) (0, c)) := rfl
  have hr : rs (0, [0]) (0, c) = (nxW 0 0 c, [0] ++ [nxW 0 0 c]) := rs_yes hn
  rw [e, hr]
  have h2 : (nxW 0 0 c, [0] ++ [nxW 0 0 c]).2.length = 2 := by simp
  have := fold_len l (nxW 0 0 c, [0] ++ [nxW 0 0 c])
  rw [h2] at this
  exact Nat.lt_of_lt_of_le (by decide) this
end Lf
end Go.Proofs.YtijbnojcehjcaaaDoor
