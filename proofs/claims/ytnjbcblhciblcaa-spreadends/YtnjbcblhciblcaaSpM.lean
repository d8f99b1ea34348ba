/-
  Plain facts of layer 13: loads, gains, who goes; the foremost of a row. No program in sight.
-/
import Derived.Test.YtnjbcblhciblcaaMskM
namespace Go.Proofs.Ytnjbcblhciblcaa.Sp
open Go.Proofs.Ytnjbcblhciblcaa.Mk

structure C where
  id : Int
  wt : Int
  m : Nat
deriving Inhabited

def isLd (n : Int) : Bool := decide (0 ≤ n) && decide (n ≤ 1099511627776)
theorem isLd_iff (n : Int) : isLd n = true ↔ 0 ≤ n ∧ n ≤ 1099511627776 := by simp [isLd]
def gain (h t w : Int) : Bool := isLd h && (isLd t && (decide (1 ≤ w) && decide (2 * w ≤ t - h)))
theorem gain_iff (h t w : Int) : gain h t w = true ↔ (0 ≤ h ∧ h ≤ 1099511627776) ∧ (0 ≤ t ∧ t ≤ 1099511627776) ∧ 1 ≤ w ∧ 2 * w ≤ t - h := by simp [gain, isLd_iff]
def wtOk (c : C) : Bool := decide (1 ≤ c.wt) && decide (c.wt ≤ 88761)
theorem wtOk_iff (c : C) : wtOk c = true ↔ 1 ≤ c.wt ∧ c.wt ≤ 88761 := by simp [wtOk]

/-- Half of a difference of loads. -/
theorem half (d w : Int) (hw : 1 ≤ w) : w ≤ d.tdiv 2 ↔ 2 * w ≤ d := by
  rcases Int.le_total 0 d with h | h
  · rw [Int.tdiv_eq_ediv_of_nonneg h]; omega
  · have e : d.tdiv 2 = -((-d) / 2) := by
      have : d = -(-d) := by omega
      rw [this, Int.neg_tdiv, Int.tdiv_eq_ediv_of_nonneg (by omega)]; simp
    rw [e]; omega

structure St where
  gone : List Int
  h : Int
  t : Int

def stp (most : Int) (s : St) (c : C) : St := if gain s.h s.t c.wt = true ∧ (s.gone.length : Int) < most then ⟨s.gone ++ [c.id], s.h + c.wt, s.t - c.wt⟩ else s
def may (to : Int) (c : C) : Bool := has c.m to
/-- Who goes, of those that are come by in this order. -/
def going (to most : Int) (s : St) (r : List C) : St := (r.filter (may to)).foldl (stp most) s

/-- Loads, both. -/
def Ok (s : St) : Prop := (0 ≤ s.h ∧ s.h ≤ 1099511627776) ∧ (0 ≤ s.t ∧ s.t ≤ 1099511627776)
theorem stp_yes {most : Int} {s : St} {c : C} (h1 : gain s.h s.t c.wt = true) (h2 : (s.gone.length : Int) < most) : stp most s c = ⟨s.gone ++ [c.id], s.h + c.wt, s.t - c.wt⟩ := by unfold stp; rw [if_pos ⟨h1, h2⟩]
theorem stp_no {most : Int} {s : St} {c : C} (h1 : gain s.h s.t c.wt = false) : stp most s c = s := by unfold stp; rw [if_neg (by simp [h1])]
theorem stp_full {most : Int} {s : St} (c : C) (h2 : ¬ (s.gone.length : Int) < most) : stp most s c = s := by unfold stp; rw [if_neg (fun h => h2 h.2)]
theorem stp_ok {most : Int} {s : St} (c : C) (h : Ok s) : Ok (stp most s c) := by
  unfold stp
  split
  · rename_i hg
    have := (gain_iff _ _ _).1 hg.1
    unfold Ok
    dsimp only
    omega
  · exact h
theorem stp_len (most : Int) (s : St) (c : C) : (stp most s c).gone.length ≤ s.gone.length + 1 := by
  unfold stp
  split
  · simp
  · omega
theorem fold_full {most : Int} {s : St} (r : List C) (h2 : ¬ (s.gone.length : Int) < most) : r.foldl (stp most) s = s := by
  induction r with
  | nil => rfl
  | cons c r ih => rw [List.foldl_cons, stp_full c h2]; exact ih
theorem fold_ok {most : Int} (r : List C) : ∀ s, Ok s → Ok (r.foldl (stp most) s) := by
  induction r with
  | nil => intro s h; exact h
  | cons c r ih => intro s h; exact ih _ (stp_ok c h)
theorem fold_len {most : Int} (r : List C) : ∀ s : St, (r.foldl (stp most) s).gone.length ≤ s.gone.length + r.length := by
  induction r with
  | nil => intro s; simp
  | cons c r ih => intro s; rw [List.foldl_cons, List.length_cons]; have := ih (stp most s c); have := stp_len most s c; omega
theorem fold_le {most : Int} (r : List C) : ∀ s : St, (s.gone.length : Int) ≤ most → ((r.foldl (stp most) s).gone.length : Int) ≤ most := by
  induction r with
  | nil => intro s h; exact h
  | cons c r ih =>
    intro s h
    refine ih _ ?_
    unfold stp
    split
    · rename_i hg; have := hg.2; simp; omega
    · exact h
theorem fold_ids {most : Int} {p : Int → Prop} (r : List C) : ∀ s : St, (∀ z ∈ s.gone, p z) → (∀ c ∈ r, p c.id) → ∀ z ∈ (r.foldl (stp most) s).gone, p z := by
  induction r with
  | nil => intro s h _; exact h
  | cons c r ih =>
    intro s h hr
    refine ih _ ?_ (fun x hx => hr x (List.mem_cons_of_mem _ hx))
    unfold stp
    split
    · intro z hz
      simp at hz
      rcases hz with hz | rfl
      · exact h z hz
      · exact hr c (by simp)
    · exact h

/-! ### from the last one on -/
theorem drop_rev (l : List C) (k : Nat) (hk : k < l.length) : (l.drop k).reverse = (l.drop (k + 1)).reverse ++ [l.getD k default] := by
  have e : l.getD k default = l[k] := by simp [List.getD, hk]
  rw [e, List.drop_eq_getElem_cons hk, List.reverse_cons]
theorem filt_yes {to : Int} (l : List C) (k : Nat) (hk : k < l.length) (h : may to (l.getD k default) = true) : (l.drop k).reverse.filter (may to) = (l.drop (k + 1)).reverse.filter (may to) ++ [l.getD k default] := by
  rw [drop_rev l k hk, List.filter_append, List.filter_cons_of_pos h, List.filter_nil]
theorem filt_no {to : Int} (l : List C) (k : Nat) (hk : k < l.length) (h : may to (l.getD k default) = false) : (l.drop k).reverse.filter (may to) = (l.drop (k + 1)).reverse.filter (may to) := by
  rw [drop_rev l k hk, List.filter_append, List.filter_cons_of_neg (by rw [h]; simp), List.filter_nil, List.append_nil]
theorem filt_end {to : Int} (l : List C) : (l.drop l.length).reverse.filter (may to) = [] := by simp
theorem filt_pre {to : Int} (l : List C) (k : Nat) : (l.drop k).reverse.filter (may to) <+: l.reverse.filter (may to) := by
  refine ⟨(l.take k).reverse.filter (may to), ?_⟩
  rw [← List.filter_append, ← List.reverse_append, List.take_append_drop]
theorem filt_len {to : Int} (l : List C) (k : Nat) (hk : k < l.length) : ((l.drop (k + 1)).reverse.filter (may to)).length < l.length := by
  have := List.length_filter_le (may to) (l.drop (k + 1)).reverse
  rw [List.length_reverse, List.length_drop] at this
  omega
theorem filt_mem {to : Int} (l : List C) : ∀ c ∈ l.reverse.filter (may to), c ∈ l ∧ may to c = true := by
  intro c hc
  rw [List.mem_filter, List.mem_reverse] at hc
  exact hc

/-- What is wrong. -/
def bad (to h t most : Int) (l : List C) : Bool := !(decide (0 ≤ to) && decide (to ≤ 63)) || (!isLd h || (!isLd t || (decide (most < 0) || !l.all wtOk)))
def planE (to h t most : Int) (l : List C) : Int := if 64 < l.length then 2 else if bad to h t most l then 1 else 0
def planS (to h t most : Int) (l : List C) : St := (l.reverse.filter (may to)).foldl (stp most) ⟨[], h, t⟩
def planG (to h t most : Int) (l : List C) : List Int := if planE to h t most l = 0 then (planS to h t most l).gone else []
theorem plan_long {to h t most : Int} {l : List C} (hl : 64 < l.length) : planE to h t most l = 2 ∧ planG to h t most l = [] := by
  have e : planE to h t most l = 2 := by unfold planE; rw [if_pos hl]
  exact ⟨e, by unfold planG; rw [e]; rfl⟩
theorem plan_bad {to h t most : Int} {l : List C} (hl : ¬ 64 < l.length) (hb : bad to h t most l = true) : planE to h t most l = 1 ∧ planG to h t most l = [] := by
  have e : planE to h t most l = 1 := by unfold planE; rw [if_neg hl, if_pos hb]
  exact ⟨e, by unfold planG; rw [e]; rfl⟩
theorem plan_ok {to h t most : Int} {l : List C} (hl : ¬ 64 < l.length) (hb : bad to h t most l = false) : planE to h t most l = 0 ∧ planG to h t most l = (planS to h t most l).gone := by
  have e : planE to h t most l = 0 := by unfold planE; rw [if_neg hl, if_neg (by simp [hb])]
  exact ⟨e, by unfold planG; rw [if_pos e]⟩

/-! ### the foremost -/
def ahd (lt : Int → Int → Bool) (zs : List Int) (k : Nat) (o : Option Nat) : Bool := match o with | none => true | some p => lt (zs.getD k 0) (zs.getD p 0)
def fm (lt : Int → Int → Bool) (but : Int) (zs : List Int) : Nat → Option Nat
  | 0 => none
  | k + 1 => if ((k : Int) == but) = false ∧ ahd lt zs k (fm lt but zs k) = true then some k else fm lt but zs k
def fmI (o : Option Nat) : Int := match o with | none => 0 | some p => (p : Int)
def fmJ (o : Option Nat) : Int := match o with | none => -1 | some p => (p : Int)
theorem fm_lt {lt : Int → Int → Bool} {but : Int} {zs : List Int} : ∀ {k p : Nat}, fm lt but zs k = some p → p < k
  | 0, p, h => by simp [fm] at h
  | k + 1, p, h => by
    unfold fm at h
    split at h
    · have := Option.some.inj h; omega
    · have := fm_lt h; omega
theorem fm_but {lt : Int → Int → Bool} {but : Int} {zs : List Int} (k : Nat) (h : (k : Int) = but) : fm lt but zs (k + 1) = fm lt but zs k := by
  conv => lhs; unfold fm
  rw [if_neg (by simp [h])]
theorem fm_first {lt : Int → Int → Bool} {but : Int} {zs : List Int} (k : Nat) (h : ¬ (k : Int) = but) (h1 : fm lt but zs k = none) : fm lt but zs (k + 1) = some k := by
  conv => lhs; unfold fm
  rw [h1, if_pos (by simp [h, ahd])]
theorem fm_yes {lt : Int → Int → Bool} {but : Int} {zs : List Int} (k : Nat) {p : Nat} (h : ¬ (k : Int) = but) (h1 : fm lt but zs k = some p) (h2 : lt (zs.getD k 0) (zs.getD p 0) = true) : fm lt but zs (k + 1) = some k := by
  conv => lhs; unfold fm
  rw [h1, if_pos ⟨by simp [h], h2⟩]
theorem fm_no {lt : Int → Int → Bool} {but : Int} {zs : List Int} (k : Nat) {p : Nat} (h1 : fm lt but zs k = some p) (h2 : lt (zs.getD k 0) (zs.getD p 0) = false) : fm lt but zs (k + 1) = fm lt but zs k := by
  conv => lhs; unfold fm
  rw [h1, if_neg (fun hh => by have := hh.2; unfold ahd at this; simp only at this; rw [h2] at this; cases this)]
def gtB (a b : Int) : Bool := decide (b < a)
def ltB (a b : Int) : Bool := decide (a < b)
end Go.Proofs.Ytnjbcblhciblcaa.Sp
