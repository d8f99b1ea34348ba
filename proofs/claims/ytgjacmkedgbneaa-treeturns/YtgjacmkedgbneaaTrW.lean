/-
  Plain facts on trees: what is met is a tree as one; a tree is whole just if its nodes are one.
-/
import Derived.Test.YtgjacmkedgbneaaTrB
namespace Go.Proofs.Ytgjacmkedgbneaa
namespace Tr
open Wd Tn Ky

/-- As Sub, whatever In says. -/
def Subm (t : T) : B → Int → Prop
  | .L, _ => True
  | .N i c v k, u => t.has i ∧ (∃ b, t.nd i = ⟨b, c, v, (k false).rid, (k true).rid, u⟩) ∧ Subm t (k false) i ∧ Subm t (k true) i
theorem Subm.has {t : T} : {b : B} → {u : Int} → Subm t b u → ∀ i ∈ b.ids, t.has i
  | .L, _, _, i, hi => by cases hi
  | .N j c v k, u, h, i, hi => by
    simp only [B.ids, List.mem_append, List.mem_cons] at hi
    rcases hi with hi | rfl | hi
    · exact Subm.has h.2.2.1 i hi
    · exact h.1
    · exact Subm.has h.2.2.2 i hi
theorem Sub.subm {t : T} : {b : B} → {u : Int} → Sub t b u → Subm t b u
  | .L, _, _ => trivial
  | .N _ _ _ _, _, h => ⟨h.1, ⟨_, h.2.1⟩, Sub.subm h.2.2.1, Sub.subm h.2.2.2⟩
theorem Subm.sub {t : T} : {b : B} → {u : Int} → Subm t b u → (∀ i ∈ b.ids, (t.nd i).inn = true) → Sub t b u
  | .L, _, _, _ => trivial
  | .N j c v k, u, h, hi => by
    simp only [B.ids, List.mem_append, List.mem_cons] at hi
    obtain ⟨x, hx⟩ := h.2.1
    have : x = true := by have := hi j (.inr (.inl rfl)); rw [hx] at this; exact this
    subst this
    exact ⟨h.1, hx, Subm.sub h.2.2.1 (fun i h' => hi i (.inl h')), Subm.sub h.2.2.2 (fun i h' => hi i (.inr (.inr h')))⟩
/-- What is met behind b. -/
def Behind (met met' : List Bool) (b : B) : Prop := ∀ k : Nat, met'.getD k false = (met.getD k false || decide ((k : Int) ∈ b.ids))
theorem getD_set (met : List Bool) (x k : Nat) (hx : x < met.length) : (met.set x true).getD k false = if k = x then true else met.getD k false := by
  by_cases h : k = x
  · subst h; simp [List.getD, hx]
  · simp [List.getD, h, show ¬ x = k from fun e => h e.symm]
/-- All that is met is a tree as one. -/
theorem meet_tree (t : T) (n : Nat) : ∀ (x u : Int) (met met' : List Bool), t.ns.length ≤ met.length → meetF t n x u met = (true, met') →
    ∃ b : B, b.rid = x ∧ Subm t b u ∧ b.ids.Nodup ∧ (∀ i ∈ b.ids, met.getD i.toNat false = false) ∧ Behind met met' b := by
  have leaf : ∀ (u : Int) (met : List Bool), ∃ b : B, b.rid = -1 ∧ Subm t b u ∧ b.ids.Nodup ∧ (∀ i ∈ b.ids, met.getD i.toNat false = false) ∧ Behind met met b := fun u met =>
    ⟨.L, rfl, trivial, List.nodup_nil, fun i hi => (by cases hi), fun k => by simp [B.ids]⟩
  induction n with
  | zero =>
    intro x u met met' hl h
    simp only [meetF, Prod.mk.injEq, decide_eq_true_eq] at h
    obtain ⟨rfl, rfl⟩ := h
    exact leaf u met
  | succ n ih =>
    intro x u met met' hl h
    unfold meetF at h
    split at h
    · rename_i hx
      subst hx
      obtain ⟨-, rfl⟩ := Prod.mk.inj h
      exact leaf u met
    · rename_i hx
      split at h
      · rename_i hg
        obtain ⟨hh, hm, hu⟩ := hg
        have hxl : x.toNat < met.length := by unfold T.has at hh; omega
        split at h
        · rename_i hok
          have e1 : meetF t n (t.kid x false) x (met.set x.toNat true) = (true, (meetF t n (t.kid x false) x (met.set x.toNat true)).2) := Prod.ext hok rfl
          obtain ⟨b1, r1, s1, d1, f1, m1⟩ := ih _ _ _ _ (by rw [List.length_set]; exact hl) e1
          obtain ⟨b2, r2, s2, d2, f2, m2⟩ := ih _ _ _ _ (by rw [meetF_len, List.length_set]; exact hl) h
          have g1 : ∀ i ∈ b1.ids, 0 ≤ i ∧ i ≠ x ∧ met.getD i.toNat false = false := fun i hi => by
            have h1 := f1 i hi
            rw [getD_set _ _ _ hxl] at h1
            have h2 := s1.has i hi
            unfold T.has at h2 hh
            split at h1
            · cases h1
            · exact ⟨h2.1, by omega, h1⟩
          have g2 : ∀ i ∈ b2.ids, 0 ≤ i ∧ i ≠ x ∧ i ∉ b1.ids ∧ met.getD i.toNat false = false := fun i hi => by
            have h1 := f2 i hi
            rw [m1, getD_set _ _ _ hxl, Bool.or_eq_false_iff] at h1
            have h2 := s2.has i hi
            unfold T.has at h2 hh
            obtain ⟨h3, h4⟩ := h1
            rw [show ((i.toNat : Nat) : Int) = i by omega] at h4
            split at h3
            · cases h3
            · exact ⟨h2.1, by omega, by simpa using h4, h3⟩
          refine ⟨.N x (t.nd x).red (t.nd x).v (fun s => if s then b2 else b1), rfl, ⟨hh, ⟨(t.nd x).inn, ?_⟩, s1, s2⟩, ?_, ?_, ?_⟩
          · simp only [r1, r2, if_true, if_false, Bool.false_eq_true]
            rw [← N_eq]
            exact ⟨rfl, rfl, rfl, rfl, rfl, hu⟩
          · simp only [B.ids, if_true, if_false, Bool.false_eq_true]
            rw [List.nodup_append]
            refine ⟨d1, List.nodup_cons.2 ⟨fun h' => (g2 x h').2.1 rfl, d2⟩, ?_⟩
            intro a ha c hc e
            subst e
            rcases List.mem_cons.1 hc with rfl | hc
            · exact (g1 a ha).2.1 rfl
            · exact (g2 a hc).2.2.1 ha
          · intro i hi
            simp only [B.ids, if_true, if_false, Bool.false_eq_true, List.mem_append, List.mem_cons] at hi
            rcases hi with hi | rfl | hi
            · exact (g1 i hi).2.2
            · exact hm
            · exact (g2 i hi).2.2.2
          · intro k
            rw [m2, m1, getD_set _ _ _ hxl]
            simp only [B.ids, if_true, if_false, Bool.false_eq_true, List.mem_append, List.mem_cons]
            unfold T.has at hh
            by_cases hk : k = x.toNat
            · have : (k : Int) = x := by omega
              rw [if_pos hk]
              simp [this]
            · have : ¬ (k : Int) = x := by omega
              rw [if_neg hk]
              by_cases h1 : (k : Int) ∈ b1.ids <;> by_cases h2 : (k : Int) ∈ b2.ids <;> simp [h1, h2, this]
        · cases (Prod.mk.inj h).1
      · cases (Prod.mk.inj h).1
/-- A tree as one is met whole. -/
theorem tree_meet (t : T) : (b : B) → ∀ (u : Int) (n : Nat) (met : List Bool), t.ns.length ≤ met.length → Subm t b u → b.ids.Nodup → (∀ i ∈ b.ids, met.getD i.toNat false = false) → b.ids.length ≤ n →
    ∃ met', meetF t n b.rid u met = (true, met') ∧ Behind met met' b
  | .L, u, n, met, hl, hs, hd, hf, hn => by
    refine ⟨met, ?_, fun k => by simp [B.ids]⟩
    cases n with
    | zero => rfl
    | succ n => simp [meetF, B.rid]
  | .N i c v k, u, n, met, hl, hs, hd, hf, hn => by
    simp only [B.ids, List.length_append, List.length_cons] at hn
    obtain ⟨n, rfl⟩ : ∃ m, n = m + 1 := ⟨n - 1, by omega⟩
    obtain ⟨hi, ⟨x, hx⟩, s1, s2⟩ := hs
    simp only [B.ids] at hd
    rw [List.nodup_append] at hd
    obtain ⟨d1, d2, d3⟩ := hd
    obtain ⟨d4, d5⟩ := List.nodup_cons.1 d2
    simp only [B.ids, List.mem_append, List.mem_cons] at hf
    have hxl : i.toNat < met.length := by unfold T.has at hi; omega
    have hne1 : ∀ j ∈ (k false).ids, j ≠ i := fun j hj e => d3 j hj i (by simp) e
    have hne2 : ∀ j ∈ (k true).ids, j ≠ i := fun j hj e => d4 (e ▸ hj)
    have nn : ∀ (s : Bool) j, j ∈ (k s).ids → 0 ≤ j := fun s j hj => by
      cases s
      · exact (s1.has j hj).1
      · exact (s2.has j hj).1
    obtain ⟨m1, e1, b1⟩ := tree_meet t (k false) i n (met.set i.toNat true) (by rw [List.length_set]; exact hl) s1 d1 (fun j hj => by
      rw [getD_set _ _ _ hxl, if_neg (by have := nn false j hj; have := hne1 j hj; unfold T.has at hi; omega)]
      exact hf j (.inl hj)) (by omega)
    have hl1 : t.ns.length ≤ m1.length := by
      have := meetF_len t n (k false).rid i (met.set i.toNat true)
      rw [e1, List.length_set] at this
      simp only at this
      omega
    obtain ⟨m2, e2, b2⟩ := tree_meet t (k true) i n m1 hl1 s2 d5 (fun j hj => by
      rw [b1, getD_set _ _ _ hxl, if_neg (by have := nn true j hj; have := hne2 j hj; unfold T.has at hi; omega), hf j (.inr (.inr hj))]
      have hj0 := nn true j hj
      rw [show ((j.toNat : Nat) : Int) = j by omega]
      have : j ∉ (k false).ids := fun h => d3 j h j (List.mem_cons_of_mem _ hj) rfl
      simp [this]) (by omega)
    refine ⟨m2, ?_, ?_⟩
    · unfold meetF
      have hi1 : i ≠ -1 := by unfold T.has at hi; omega
      rw [B.rid, if_neg hi1, if_pos ⟨hi, hf i (.inr (.inl rfl)), by unfold T.up; rw [hx]⟩]
      have k1 : t.kid i false = (k false).rid := by unfold T.kid N.kid; rw [hx]; rfl
      have k2 : t.kid i true = (k true).rid := by unfold T.kid N.kid; rw [hx]; rfl
      rw [k1, k2, e1]
      simp only [if_true]
      exact e2
    · intro q
      rw [b2, b1, getD_set _ _ _ hxl]
      simp only [B.ids, List.mem_append, List.mem_cons]
      unfold T.has at hi
      by_cases hk : q = i.toNat
      · have : (q : Int) = i := by omega
        rw [if_pos hk]
        simp [this]
      · have : ¬ (q : Int) = i := by omega
        rw [if_neg hk]
        by_cases h1 : (q : Int) ∈ (k false).ids <;> by_cases h2 : (q : Int) ∈ (k true).ids <;> simp [h1, h2, this]
/-- A tree is whole just if it is one. -/
theorem whole_iff (t : T) : wholeP t ↔ ∃ b, Whole t b := by
  constructor
  · rintro ⟨hl, hok, hall⟩
    have e1 : meetF t 64 t.root (-1) (List.replicate 64 false) = (true, (meetF t 64 t.root (-1) (List.replicate 64 false)).2) := Prod.ext hok rfl
    obtain ⟨b, hr, hs, hd, -, hm⟩ := meet_tree t 64 _ _ _ _ (by rw [List.length_replicate]; exact hl) e1
    have hin : ∀ i, t.has i → okN t (meetF t 64 t.root (-1) (List.replicate 64 false)).2 i.toNat := fun i hi => hall i.toNat (by unfold T.has at hi; omega)
    have key : ∀ i, t.has i → ((t.nd i).inn = decide (i ∈ b.ids)) ∧ ((t.nd i).inn = true ∨ t.nd i = nE) := fun i hi => by
      obtain ⟨h1, h2⟩ := hin i hi
      have e : ((i.toNat : Nat) : Int) = i := by unfold T.has at hi; omega
      rw [hm, e] at h1
      rw [e] at h2
      have hz : (List.replicate 64 false).getD i.toNat false = false := by
        rw [List.getD, List.getElem?_replicate]
        split <;> rfl
      rw [hz, Bool.false_or] at h1
      exact ⟨h1, h2⟩
    refine ⟨b, hl, hr.symm, hs.sub (fun i hi => ?_), hd, fun i hi hn => ?_⟩
    · rw [(key i (hs.has i hi)).1]; simpa using hi
    · rcases (key i hi).2 with h | h
      · rw [(key i hi).1] at h; exact absurd (by simpa using h) hn
      · exact h
  · rintro ⟨b, h⟩
    have hz : ∀ k : Nat, (List.replicate 64 false).getD k false = false := fun k => by
      rw [List.getD, List.getElem?_replicate]
      split <;> rfl
    obtain ⟨met', e, hm⟩ := tree_meet t b (-1) 64 (List.replicate 64 false) (by rw [List.length_replicate]; exact h.len) h.sub.subm h.nod (fun i _ => hz _) (by rw [B.ids_len]; exact h.size)
    rw [← h.root] at e
    refine ⟨h.len, by rw [e], fun i hi => ?_⟩
    rw [e]
    have hh : t.has i := by unfold T.has; omega
    unfold okN
    simp only
    rw [hm, hz, Bool.false_or]
    by_cases hin : (i : Int) ∈ b.ids
    · rw [(h.sub.has _ hin).2]
      exact ⟨by simpa using hin, .inl rfl⟩
    · rw [h.rest i hh hin]
      exact ⟨by simp [hin, nE], .inr rfl⟩
end Tr
end Go.Proofs.Ytgjacmkedgbneaa
