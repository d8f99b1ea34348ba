/-
  Plain facts behind the laws of layer 13: who goes, one by one.
-/
import Derived.Test.YtnjbcblhciblcaaSpV
namespace Go.Proofs.Ytnjbcblhciblcaa.Sp
open Go.Proofs.Ytnjbcblhciblcaa Go.Proofs.Ytnjbcblhciblcaa.Mk

/-- Those at places below last go, the greatest place first, each a gain, from here h and there t on. -/
def Walks (to : Int) (c : List C) : Int → Int → Int → List Int → Prop
  | _, _, _, [] => True
  | last, h, t, k :: g => ∃ j : Nat, k = (j : Int) ∧ (j : Int) < last ∧ j < c.length ∧ may to (c.getD j default) = true ∧ gain h t (c.getD j default).wt = true ∧ Walks to c (j : Int) (h + (c.getD j default).wt) (t - (c.getD j default).wt) g
theorem Walks.lift {to : Int} {c : List C} {last last' h t : Int} (hl : last ≤ last') : ∀ {g : List Int}, Walks to c last h t g → Walks to c last' h t g
  | [], _ => trivial
  | _ :: _, ⟨j, h1, h2, h3⟩ => ⟨j, h1, by omega, h3⟩
/-- Each has its place as Id. -/
def Placed (c : List C) : Prop := ∀ k, k < c.length → (c.getD k default).id = (k : Int)
theorem take_rev (c : List C) (k : Nat) (hk : k < c.length) : (c.take (k + 1)).reverse = c.getD k default :: (c.take k).reverse := by
  have e : c.getD k default = c[k] := by simp [List.getD, hk]
  rw [e, List.take_succ_eq_append_getElem hk, List.reverse_append]; rfl
theorem upto_yes' {to most : Int} {c : List C} {k : Nat} (hk : k < c.length) (h : may to (c.getD k default) = true) (s : St) : ((c.take (k + 1)).reverse.filter (may to)).foldl (stp most) s = ((c.take k).reverse.filter (may to)).foldl (stp most) (stp most s (c.getD k default)) := by
  rw [take_rev c k hk, List.filter_cons_of_pos h]; rfl
theorem upto_no' {to most : Int} {c : List C} {k : Nat} (hk : k < c.length) (h : may to (c.getD k default) = false) (s : St) : ((c.take (k + 1)).reverse.filter (may to)).foldl (stp most) s = ((c.take k).reverse.filter (may to)).foldl (stp most) s := by
  rw [take_rev c k hk, List.filter_cons_of_neg (by rw [h]; simp)]
theorem walks_upto {to most : Int} {c : List C} (hp : Placed c) : ∀ (k : Nat), k ≤ c.length → ∀ (s : St), ∃ g, (((c.take k).reverse.filter (may to)).foldl (stp most) s).gone = s.gone ++ g ∧ Walks to c (k : Int) s.h s.t g
  | 0, _, s => ⟨[], by simp, trivial⟩
  | k + 1, hk, s => by
    have hkl : k < c.length := by omega
    cases hm : may to (c.getD k default) with
    | false =>
      obtain ⟨g, h1, h2⟩ := walks_upto (most := most) hp k (by omega) s
      exact ⟨g, by rw [upto_no' hkl hm]; exact h1, h2.lift (by omega)⟩
    | true =>
      rw [upto_yes' hkl hm]
      by_cases hg : gain s.h s.t (c.getD k default).wt = true ∧ (s.gone.length : Int) < most
      · obtain ⟨g, h1, h2⟩ := walks_upto (most := most) hp k (by omega) (stp most s (c.getD k default))
        rw [stp_yes hg.1 hg.2] at h1 h2
        rw [stp_yes hg.1 hg.2]
        refine ⟨(k : Int) :: g, ?_, k, rfl, by omega, hkl, hm, hg.1, h2⟩
        rw [h1, hp k hkl]; simp
      · have e : stp most s (c.getD k default) = s := by unfold stp; rw [if_neg hg]
        rw [e]
        obtain ⟨g, h1, h2⟩ := walks_upto (most := most) hp k (by omega) s
        exact ⟨g, h1, h2.lift (by omega)⟩
theorem walks_plan {to h t most : Int} {c : List C} (hp : Placed c) : Walks to c (c.length : Int) h t (planS to h t most c).gone := by
  obtain ⟨g, h1, h2⟩ := walks_upto (to := to) (most := most) hp c.length (Nat.le_refl _) ⟨[], h, t⟩
  rw [List.take_length] at h1
  unfold planS
  rw [h1]
  exact h2
theorem placed_made (zs : List Int) (k : Nat) : Placed (madeUp zs k) := by
  intro i hi
  rw [madeUp_len] at hi
  rw [madeUp_at zs k i hi]; rfl
/-- Nothing is wrong with what is made. -/
theorem made_good {to h t most : Int} {zs : List Int} {k : Nat} (hk : k ≤ 40) (h1 : 0 ≤ to ∧ to ≤ 63) (h2 : 0 ≤ h ∧ h ≤ 1099511627776) (h3 : 0 ≤ t ∧ t ≤ 1099511627776) (h4 : 0 ≤ most) :
    planE to h t most (madeUp zs k) = 0 ∧ planG to h t most (madeUp zs k) = (planS to h t most (madeUp zs k)).gone := by
  refine plan_ok (by rw [madeUp_len]; omega) ?_
  unfold bad
  rw [(isLd_iff _).2 h2, (isLd_iff _).2 h3, madeUp_wt]
  have a1 : decide (0 ≤ to) = true := by simpa using h1.1
  have a2 : decide (to ≤ 63) = true := by simpa using h1.2
  have a3 : decide (most < 0) = false := by simpa using h4
  rw [a1, a2, a3]; rfl
theorem may3_at (m : Nat) : has m 3 = true ↔ m / 8 % 2 = 1 := by
  have : has m ((3 : Nat) : Int) = m.testBit 3 := has_at m 3
  rw [show (3 : Int) = ((3 : Nat) : Int) from rfl, this, Nat.testBit_eq_decide_div_mod_eq]
  simp
/-- The lesser most: the beginning of the same. -/
theorem take_fold {m m' : Int} (hm : m ≤ m') (r : List C) : ∀ (s s' : St), s'.gone.take m.toNat = s.gone → ((s.gone.length : Int) < m → s' = s) → (s.gone.length : Int) ≤ m → 0 ≤ m → (s.gone.length : Int) = min m (s'.gone.length : Int) →
    (r.foldl (stp m') s').gone.take m.toNat = (r.foldl (stp m) s).gone ∧ (((r.foldl (stp m) s).gone.length : Int) = min m ((r.foldl (stp m') s').gone.length : Int)) := by
  induction r with
  | nil => intro s s' h1 h2 h3 h4 h5; exact ⟨h1, h5⟩
  | cons c r ih =>
    intro s s' h1 h2 h3 h4 h5
    rw [List.foldl_cons, List.foldl_cons]
    by_cases hl : (s.gone.length : Int) < m
    · obtain rfl := h2 hl
      by_cases hg : gain s'.h s'.t c.wt = true
      · rw [stp_yes hg hl, stp_yes hg (by omega)]
        refine ih _ _ ?_ (fun _ => rfl) (by simp; omega) h4 (by simp; omega)
        exact List.take_of_length_le (by simp; omega)
      · have hg' : gain s'.h s'.t c.wt = false := by simpa using hg
        rw [stp_no hg', stp_no hg']
        exact ih _ _ h1 (fun _ => rfl) h3 h4 h5
    · rw [stp_full c hl]
      have hlen : m.toNat ≤ s'.gone.length := by omega
      refine ih _ _ ?_ (fun h => absurd h hl) h3 h4 ?_
      · unfold stp
        split
        · dsimp only; rw [List.take_append_of_le_length hlen]; exact h1
        · exact h1
      · unfold stp
        split
        · simp; omega
        · exact h5
theorem plan_less {to h t m m' : Int} {c : List C} (hm : m ≤ m') (h0 : 0 ≤ m) : (planS to h t m' c).gone.take m.toNat = (planS to h t m c).gone ∧ ((planS to h t m c).gone.length : Int) = min m ((planS to h t m' c).gone.length : Int) :=
  take_fold hm _ ⟨[], h, t⟩ ⟨[], h, t⟩ (by simp) (fun _ => rfl) (by simpa using h0) h0 (by simp; omega)
end Go.Proofs.Ytnjbcblhciblcaa.Sp
