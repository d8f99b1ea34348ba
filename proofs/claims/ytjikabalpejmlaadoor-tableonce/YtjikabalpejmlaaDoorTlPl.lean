/-
  Plain facts behind the laws of layer 14: who is there, behind one that is created, exits, or goes through an event.
-/
import Derived.Test.YtjikabalpejmlaaDoorTlM
namespace Go.Proofs.YtjikabalpejmlaaDoor
namespace Tl
open Pk Lf
open Mk (V allM cpus fstI anyB)

theorem getD_set (ws : List Int) (i : Nat) (w : Int) (j : Nat) (hi : i < ws.length) : (ws.set i w).getD j 0 = if j = i then w else ws.getD j 0 := by
  simp only [List.getD_eq_getElem?_getD]
  by_cases h : j = i
  · subst h; rw [if_pos rfl, List.getElem?_set_self hi]; rfl
  · rw [if_neg h, List.getElem?_set_ne (fun e => h e.symm)]
/-- One more. -/
theorem live_more (ws : List Int) (i : Nat) (w : Int) (hi : i < ws.length) (h0 : K (ws.getD i 0) = 0) (h1 : K w ≠ 0) (n : Nat) : (live (ws.set i w) n).length = (live ws n).length + (if i < n then 1 else 0) := by
  induction n with
  | zero => simp [live]
  | succ n ih =>
    simp only [live, getD_set ws i w n hi]
    by_cases e : n = i
    · subst e
      rw [if_pos rfl, if_neg h1, if_pos h0, List.length_append, ih]
      simp
    · rw [if_neg e]
      by_cases hk : K (ws.getD n 0) = 0
      · rw [if_pos hk, if_pos hk, ih]
        by_cases hlt : i < n
        · rw [if_pos hlt, if_pos (by omega)]
        · rw [if_neg hlt, if_neg (by omega)]
      · rw [if_neg hk, if_neg hk, List.length_append, List.length_append, ih]
        by_cases hlt : i < n
        · rw [if_pos hlt, if_pos (by omega)]; simp
        · rw [if_neg hlt, if_neg (by omega)]; simp
/-- One less. -/
theorem live_less (ws : List Int) (i : Nat) (w : Int) (hi : i < ws.length) (h0 : K (ws.getD i 0) ≠ 0) (h1 : K w = 0) (n : Nat) : (live (ws.set i w) n).length + (if i < n then 1 else 0) = (live ws n).length := by
  induction n with
  | zero => simp [live]
  | succ n ih =>
    simp only [live, getD_set ws i w n hi]
    by_cases e : n = i
    · subst e
      rw [if_pos rfl, if_pos h1, if_neg h0, List.length_append, ← ih]
      simp
    · rw [if_neg e]
      by_cases hk : K (ws.getD n 0) = 0
      · rw [if_pos hk, if_pos hk, ← ih]
        by_cases hlt : i < n
        · rw [if_pos hlt, if_pos (by omega)]
        · rw [if_neg hlt, if_neg (by omega)]
      · rw [if_neg hk, if_neg hk, List.length_append, List.length_append, ← ih]
        by_cases hlt : i < n
        · rw [if_pos hlt, if_pos (by omega)]; simp
        · rw [if_neg hlt, if_neg (by omega)]; simp
/-- The same. -/
theorem live_same (ws : List Int) (i : Nat) (w : Int) (hi : i < ws.length) (h0 : K (ws.getD i 0) ≠ 0) (h1 : K w ≠ 0) (hg : G w = G (ws.getD i 0)) (n : Nat) : live (ws.set i w) n = live ws n := by
  induction n with
  | zero => simp [live]
  | succ n ih =>
    simp only [live, getD_set ws i w n hi]
    by_cases e : n = i
    · subst e
      rw [if_pos rfl, if_neg h1, if_neg h0, ih, hg]
    · rw [if_neg e, ih]
theorem K_one {w c : Int} (h : nxE w 0 c = 0) : K (nxW w 0 c) = 1 := (nx_parts h).2.1
theorem G_one {w c : Int} (h : nxE w 0 c = 0) : G (nxW w 0 c) = G w + 1 := by
  have := gen_more h
  rwa [if_pos rfl] at this
/-- Behind Create. -/
theorem cr_facts {t : T} {c n : Int} {m : Nat} (h : crE t c n m = 0) :
    ∃ i, i = vac t.ws ∧ i < t.ws.length ∧ K (W t i) = 0 ∧ crH t c n m = ⟨(i : Nat), G (W t i) + 1⟩ ∧ (crT t c n m).ws.length = t.ws.length ∧ (crT t c n m).ts.length = t.ts.length ∧
      (∀ j, j ≠ i → W (crT t c n m) j = W t j ∧ X (crT t c n m) j = X t j) ∧ K (W (crT t c n m) i) = 1 ∧ G (W (crT t c n m) i) = G (W t i) + 1 ∧
      (live (crT t c n m).ws t.ws.length).length = (live t.ws t.ws.length).length + 1 ∧ chk (crT t c n m) (i : Nat) (G (W t i) + 1) = 0 := by
  obtain ⟨hr, ⟨hc, hn, hm⟩, hv⟩ := crE_inv h
  have hx := (take_iff (hr.2.2 _ hv).1 (fst_in (x := al c m))).2 (vac_fr hv).1
  have hf := (vac_fr hv).1
  unfold fr at hf
  rw [Bool.and_eq_true, decide_eq_true_eq, decide_eq_true_eq] at hf
  obtain ⟨e1, e2⟩ := cr_yes h
  have hts : vac t.ws < t.ts.length := by rw [hr.2.1]; exact hv
  have hK : K (crW t c m) = 1 := K_one hx
  have hG : G (crW t c m) = G (W t (vac t.ws)) + 1 := G_one hx
  have hWi : W (crT t c n m) (vac t.ws) = crW t c m := by rw [e1, W_put _ _ _ _ _ hv, if_pos rfl]
  refine ⟨vac t.ws, rfl, hv, hf.1, by rw [e2, hG], by rw [e1]; exact (put_len _ _ _ _).1, by rw [e1]; exact (put_len _ _ _ _).2, fun j hj => ⟨by rw [e1, W_put _ _ _ _ _ hv, if_neg hj], by rw [e1, X_put _ _ _ _ _ hts, if_neg hj]⟩, by rw [hWi]; exact hK, by rw [hWi]; exact hG, ?_, ?_⟩
  · rw [e1]
    show (live (t.ws.set _ _) _).length = _
    rw [live_more t.ws _ _ hv hf.1 (by rw [hK]; decide), if_pos hv]
  · rw [chk_in (by rw [e1, (put_len _ _ _ _).1]; exact hv), hWi, if_neg (fun e => by
      rcases e with e | e
      · rw [hK] at e; cases e
      · exact e hG)]
/-- Behind Step. -/
theorem st_facts {t : T} {s e c : Int} (h : stE t s e c = 0) :
    right (stT t s e c) ∧ (stT t s e c).ws.length = t.ws.length ∧ (stT t s e c).ts = t.ts ∧ ∀ n, live (stT t s e c).ws n = live t.ws n := by
  obtain ⟨hr, ⟨hs, h0, h1⟩, hx⟩ := stE_inv h
  have hrt := right_st h
  rw [st_yes h] at hrt ⊢
  obtain ⟨⟨-, he, -⟩, ho, -⟩ := nx_inv hx
  obtain ⟨p, pk, -⟩ := nx_parts hx
  have hg := gen_more hx
  rw [if_neg h0, Int.add_zero] at hg
  obtain ⟨i, hi, rfl, hn⟩ := sixteen he
  rw [hn] at pk ho
  have hlt : s.toNat < t.ws.length := by omega
  refine ⟨hrt, (put_len _ _ _ _).1, ?_, fun n => live_same t.ws _ _ hlt (ofB_zero hi (fun x => h0 (by rw [x]; rfl)) ho) (by rw [pk]; exact toK_zero hi (fun x => h1 (by rw [x]; rfl))) hg n⟩
  show t.ts.set s.toNat (t.ts.getD s.toNat k0) = t.ts
  by_cases hl : s.toNat < t.ts.length
  · rw [List.getD_eq_getElem?_getD, List.getElem?_eq_getElem hl]
    simp
  · exact List.set_eq_of_length_le (by omega)
/-- The least one that may be taken, looked for from above. -/
def fdown (t : T) : Nat → Int
  | 0 => -1
  | d + 1 => if fr (W t (4 - d)) = true then ((4 - d : Nat) : Int) else fdown t d
theorem fdown_is (t : T) (d : Nat) (hd : d ≤ 5) : (fdown t d = -1 ∧ ∀ j, 5 - d ≤ j → j < 5 → fr (W t j) = false) ∨ ∃ i : Nat, fdown t d = (i : Int) ∧ 5 - d ≤ i ∧ i < 5 ∧ fr (W t i) = true ∧ ∀ j, 5 - d ≤ j → j < i → fr (W t j) = false := by
  induction d with
  | zero => exact .inl ⟨rfl, fun j h1 h2 => by omega⟩
  | succ d ih =>
    cases hf : fr (W t (4 - d)) with
    | true =>
      refine .inr ⟨4 - d, by simp only [fdown, hf, if_true], by omega, by omega, hf, fun j h1 h2 => by omega⟩
    | false =>
      have e : fdown t (d + 1) = fdown t d := by simp only [fdown, hf]; rfl
      have ext : ∀ j, 5 - (d + 1) ≤ j → j = 4 - d ∨ 5 - d ≤ j := fun j h => by omega
      rcases ih (by omega) with ⟨h1, h2⟩ | ⟨i, h1, h2, h3, h4, h5⟩
      · refine .inl ⟨by rw [e, h1], fun j hj hj5 => ?_⟩
        rcases ext j hj with rfl | h
        · exact hf
        · exact h2 j h hj5
      · refine .inr ⟨i, by rw [e, h1], by omega, h3, h4, fun j hj hji => ?_⟩
        rcases ext j hj with rfl | h
        · exact hf
        · exact h5 j h hji
theorem fdown_vac {t : T} (h5 : t.ws.length = 5) : fdown t 5 = vacI t.ws := by
  rcases fdown_is t 5 (Nat.le_refl _) with ⟨h1, h2⟩ | ⟨i, h1, -, h3, h4, h6⟩
  · have := vac_none (ws := t.ws) (fun j hj => h2 j (by omega) (by omega))
    unfold vacI; rw [this, if_neg (by omega), h1]
  · have := vac_at (ws := t.ws) (by omega) h4 (fun j hj => h6 j (by omega) hj)
    unfold vacI; rw [this, if_pos (by omega), h1]
/-- A mask with its lowest bit. -/
theorem al_odd (m : Nat) : al 8 (m ||| 1) ≠ 0 := by
  intro h
  have : (al 8 (m ||| 1)).testBit 0 = true := by
    unfold al
    rw [Nat.testBit_and, Nat.testBit_or, Mk.tb_all]
    simp
  rw [h] at this
  simp at this
end Tl
end Go.Proofs.YtjikabalpejmlaaDoor
