/-
  Plain facts behind layer 14: a table as a list of words and one of tasks; which is right, what is told of a handle, and what comes of one that is created, exits, or goes through an event.
-/
import Derived.Test.YtjikabalpejmlaaDoorLfM
import Derived.Test.YtjikabalpejmlaaDoorMskM
namespace Go.Proofs.YtjikabalpejmlaaDoor
namespace Tl
open Pk Lf
open Mk (V allM cpus fstI anyB)

structure Tk where
  nice : Int
  mask : Nat
  lag : Int
deriving Inhabited, DecidableEq
def k0 : Tk := ⟨0, 0, 0⟩
structure Hd where
  slot : Int
  gen : Int
deriving Inhabited, DecidableEq
structure T where
  ws : List Int
  ts : List Tk
deriving DecidableEq
def t0 : T := ⟨[], []⟩
def h0 : Hd := ⟨0, 0⟩

def mayK (x : Tk) : Prop := (-20 ≤ x.nice ∧ x.nice ≤ 19) ∧ x.mask ≠ 0 ∧ (-1125899906842624 ≤ x.lag ∧ x.lag ≤ 1125899906842624)
instance (x : Tk) : Decidable (mayK x) := by unfold mayK; infer_instance
def fits (w : Int) (x : Tk) : Prop := isW w ∧ (K w = 0 → x = k0) ∧ (K w ≠ 0 → mayK x)
instance (w : Int) (x : Tk) : Decidable (fits w x) := by unfold fits; infer_instance
def fitsB (w : Int) (x : Tk) : Bool := decide (fits w x)
def W (t : T) (i : Nat) : Int := t.ws.getD i 0
def X (t : T) (i : Nat) : Tk := t.ts.getD i k0
def right (t : T) : Prop := t.ws.length ≤ 64 ∧ t.ts.length = t.ws.length ∧ ∀ i, i < t.ws.length → fits (W t i) (X t i)
instance (t : T) : Decidable (right t) := by unfold right; infer_instance
def rightB (t : T) : Bool := decide (right t)

/-- Check's error. -/
def chk (t : T) (s g : Int) : Int := if 0 ≤ s ∧ s < t.ws.length then (if K (W t s.toNat) = 0 ∨ G (W t s.toNat) ≠ g then 6 else 0) else 1
theorem chk_out {t : T} {s g : Int} (h : ¬ (0 ≤ s ∧ s < t.ws.length)) : chk t s g = 1 := by unfold chk; rw [if_neg h]
theorem chk_in {t : T} {i : Nat} {g : Int} (h : i < t.ws.length) : chk t (i : Int) g = if K (W t i) = 0 ∨ G (W t i) ≠ g then 6 else 0 := by
  unfold chk; rw [if_pos (by omega), Int.toNat_natCast]
theorem chk_zero {t : T} {s g : Int} (h : chk t s g = 0) : ∃ i : Nat, s = (i : Int) ∧ i < t.ws.length ∧ K (W t i) ≠ 0 ∧ G (W t i) = g := by
  unfold chk at h
  split at h
  · rename_i hs
    refine ⟨s.toNat, by omega, by omega, ?_⟩
    split at h
    · cases h
    · rename_i h2
      exact ⟨fun e => h2 (.inl e), by by_cases e : G (W t s.toNat) = g; exact e; exact absurd (.inr e) h2⟩
  · cases h

/-- A table with another word and task in slot i. -/
def put (t : T) (i : Nat) (w : Int) (x : Tk) : T := ⟨t.ws.set i w, t.ts.set i x⟩
/-- The slot may be taken. -/
def fr (w : Int) : Bool := decide (K w = 0) && decide (G w < 4294967295)
def vac (ws : List Int) : Nat := ws.findIdx fr
def vacI (ws : List Int) : Int := if vac ws < ws.length then (vac ws : Int) else -1
theorem vac_at {ws : List Int} {i : Nat} (hi : i < ws.length) (h : fr (ws.getD i 0) = true) (hb : ∀ j, j < i → fr (ws.getD j 0) = false) : vac ws = i := by
  unfold vac
  rw [List.findIdx_eq hi]
  rw [List.getD_eq_getElem?_getD, List.getElem?_eq_getElem hi] at h
  refine ⟨h, fun j hj => ?_⟩
  have := hb j hj
  rwa [List.getD_eq_getElem?_getD, List.getElem?_eq_getElem (by omega)] at this
theorem vac_none {ws : List Int} (hb : ∀ j, j < ws.length → fr (ws.getD j 0) = false) : vac ws = ws.length := by
  unfold vac
  rw [List.findIdx_eq_length]
  intro x hx
  obtain ⟨j, hj, rfl⟩ := List.getElem_of_mem hx
  have := hb j hj
  rwa [List.getD_eq_getElem?_getD, List.getElem?_eq_getElem hj] at this
theorem vac_le (ws : List Int) : vac ws ≤ ws.length := List.findIdx_le_length
theorem vac_fr {ws : List Int} (h : vac ws < ws.length) : fr (ws.getD (vac ws) 0) = true ∧ ∀ j, j < vac ws → fr (ws.getD j 0) = false := by
  unfold vac at h ⊢
  constructor
  · have := List.findIdx_getElem (p := fr) (w := h)
    rwa [List.getD_eq_getElem?_getD, List.getElem?_eq_getElem h]
  · intro j hj
    have := List.not_of_lt_findIdx hj
    rw [List.getD_eq_getElem?_getD, List.getElem?_eq_getElem (by omega)]
    simpa using this

/-- The CPUs that are asked for and are there. -/
def al (cpus : Int) (m : Nat) : Nat := m &&& allM cpus
theorem V_al {c : Int} {m : Nat} (h : V m) : V (al c m) := Mk.V_and h
def okC (cpus nice : Int) (m : Nat) : Prop := (1 ≤ cpus ∧ cpus ≤ 64) ∧ (-20 ≤ nice ∧ nice ≤ 19) ∧ al cpus m ≠ 0
instance (c n : Int) (m : Nat) : Decidable (okC c n m) := by unfold okC; infer_instance
theorem any_ne {x : Nat} (hx : V x) : anyB (Mk.cpus x) = decide (x ≠ 0) := by
  by_cases h : x = 0
  · subst h; simp [Mk.cpus_zero, Mk.anyB]
  · obtain ⟨i, hi⟩ := Nat.exists_testBit_of_ne_zero h
    have := (Mk.mem_cpus hx i).2 hi
    cases hc : Mk.cpus x with
    | nil => rw [hc] at this; cases this
    | cons a l => simp [Mk.anyB, h]
theorem fst_in {x : Nat} : 0 ≤ fstI (Mk.cpus x) ∧ fstI (Mk.cpus x) ≤ 63 := by
  cases hc : Mk.cpus x with
  | nil => simp [Mk.fstI]
  | cons a l =>
    have := Mk.cpus_lt (x := x) (i := a) (by rw [hc]; simp)
    simp only [Mk.fstI]; omega

/-- Create. -/
def crE (t : T) (cpus nice : Int) (m : Nat) : Int := if right t then (if okC cpus nice m then (if vac t.ws < t.ws.length then 0 else 5) else 1) else 4
def crW (t : T) (cpus : Int) (m : Nat) : Int := nxW (W t (vac t.ws)) 0 (fstI (Mk.cpus (al cpus m)))
def crT (t : T) (cpus nice : Int) (m : Nat) : T := if crE t cpus nice m = 0 then put t (vac t.ws) (crW t cpus m) ⟨nice, al cpus m, 0⟩ else t0
def crH (t : T) (cpus nice : Int) (m : Nat) : Hd := if crE t cpus nice m = 0 then ⟨(vac t.ws : Nat), G (crW t cpus m)⟩ else h0
theorem cr_no {t : T} {c n : Int} {m : Nat} (h : crE t c n m ≠ 0) : crT t c n m = t0 ∧ crH t c n m = h0 := by simp [crT, crH, h]
theorem cr_yes {t : T} {c n : Int} {m : Nat} (h : crE t c n m = 0) : crT t c n m = put t (vac t.ws) (crW t c m) ⟨n, al c m, 0⟩ ∧ crH t c n m = ⟨(vac t.ws : Nat), G (crW t c m)⟩ := by simp [crT, crH, h]
theorem crE_left {t : T} {c n : Int} {m : Nat} (h : ¬ right t) : crE t c n m = 4 := by unfold crE; rw [if_neg h]
theorem crE_arg {t : T} {c n : Int} {m : Nat} (h : right t) (h2 : ¬ okC c n m) : crE t c n m = 1 := by unfold crE; rw [if_pos h, if_neg h2]
theorem crE_full {t : T} {c n : Int} {m : Nat} (h : right t) (h2 : okC c n m) (h3 : ¬ vac t.ws < t.ws.length) : crE t c n m = 5 := by unfold crE; rw [if_pos h, if_pos h2, if_neg h3]
theorem crE_ok {t : T} {c n : Int} {m : Nat} (h : right t) (h2 : okC c n m) (h3 : vac t.ws < t.ws.length) : crE t c n m = 0 := by unfold crE; rw [if_pos h, if_pos h2, if_pos h3]
theorem crE_inv {t : T} {c n : Int} {m : Nat} (h : crE t c n m = 0) : right t ∧ okC c n m ∧ vac t.ws < t.ws.length := by
  by_cases a : right t
  · by_cases b : okC c n m
    · by_cases d : vac t.ws < t.ws.length
      · exact ⟨a, b, d⟩
      · rw [crE_full a b d] at h; cases h
    · rw [crE_arg a b] at h; cases h
  · rw [crE_left a] at h; cases h
/-- Of a word of a right table: it can be taken just where it is free, and may be taken once more. -/
theorem take_iff {w : Int} {c : Int} (hw : isW w) (hc : 0 ≤ c ∧ c ≤ 63) : nxE w 0 c = 0 ↔ fr w = true := by
  have hg : 0 ≤ G w ∧ G w ≤ 4294967295 := (parts_may hw).2.2.2.1
  have ho : okA w 0 c := ⟨hw, by decide, hc⟩
  have e : ofB (0 : Int).toNat (K w) (B w) = decide (K w = 0) := by
    show (([0] : List Int).contains (K w)) = _
    simp
  constructor
  · intro h
    obtain ⟨-, b, d⟩ := nx_inv h
    rw [e] at b
    have b' : K w = 0 := of_decide_eq_true b
    have d' : G w ≠ 4294967295 := fun x => d ⟨rfl, x⟩
    unfold fr; rw [decide_eq_true b', decide_eq_true (by omega)]; rfl
  · intro h
    unfold fr at h
    rw [Bool.and_eq_true, decide_eq_true_eq, decide_eq_true_eq] at h
    exact (nx_yes ho (by rw [e]; exact decide_eq_true h.1) (fun x => by omega)).1

/-- Exit. -/
def exE (t : T) (s g : Int) : Int := if right t then (if chk t s g = 0 then nxE (W t s.toNat) 1 0 else chk t s g) else 4
def exT (t : T) (s g : Int) : T := if exE t s g = 0 then put t s.toNat (nxW (W t s.toNat) 1 0) k0 else t0
theorem exE_left {t : T} {s g : Int} (h : ¬ right t) : exE t s g = 4 := by unfold exE; rw [if_neg h]
theorem exE_chk {t : T} {s g : Int} (h : right t) (h2 : chk t s g ≠ 0) : exE t s g = chk t s g := by unfold exE; rw [if_pos h, if_neg h2]
theorem exE_nx {t : T} {s g : Int} (h : right t) (h2 : chk t s g = 0) : exE t s g = nxE (W t s.toNat) 1 0 := by unfold exE; rw [if_pos h, if_pos h2]
theorem ex_no {t : T} {s g : Int} (h : exE t s g ≠ 0) : exT t s g = t0 := by simp [exT, h]
theorem ex_yes {t : T} {s g : Int} (h : exE t s g = 0) : exT t s g = put t s.toNat (nxW (W t s.toNat) 1 0) k0 := by simp [exT, h]
theorem exE_inv {t : T} {s g : Int} (h : exE t s g = 0) : right t ∧ chk t s g = 0 ∧ nxE (W t s.toNat) 1 0 = 0 := by
  by_cases a : right t
  · by_cases b : chk t s g = 0
    · rw [exE_nx a b] at h; exact ⟨a, b, h⟩
    · rw [exE_chk a b] at h; exact absurd h b
  · rw [exE_left a] at h; cases h

/-- Step. -/
def okS (t : T) (s ev : Int) : Prop := (0 ≤ s ∧ s < t.ws.length) ∧ ev ≠ 0 ∧ ev ≠ 1
instance (t : T) (s ev : Int) : Decidable (okS t s ev) := by unfold okS; infer_instance
def stE (t : T) (s ev cpu : Int) : Int := if right t then (if okS t s ev then nxE (W t s.toNat) ev cpu else 1) else 4
def stT (t : T) (s ev cpu : Int) : T := if stE t s ev cpu = 0 then put t s.toNat (nxW (W t s.toNat) ev cpu) (X t s.toNat) else t0
theorem stE_left {t : T} {s e c : Int} (h : ¬ right t) : stE t s e c = 4 := by unfold stE; rw [if_neg h]
theorem stE_arg {t : T} {s e c : Int} (h : right t) (h2 : ¬ okS t s e) : stE t s e c = 1 := by unfold stE; rw [if_pos h, if_neg h2]
theorem stE_nx {t : T} {s e c : Int} (h : right t) (h2 : okS t s e) : stE t s e c = nxE (W t s.toNat) e c := by unfold stE; rw [if_pos h, if_pos h2]
theorem st_no {t : T} {s e c : Int} (h : stE t s e c ≠ 0) : stT t s e c = t0 := by simp [stT, h]
theorem st_yes {t : T} {s e c : Int} (h : stE t s e c = 0) : stT t s e c = put t s.toNat (nxW (W t s.toNat) e c) (X t s.toNat) := by simp [stT, h]
theorem stE_inv {t : T} {s e c : Int} (h : stE t s e c = 0) : right t ∧ okS t s e ∧ nxE (W t s.toNat) e c = 0 := by
  by_cases a : right t
  · by_cases b : okS t s e
    · rw [stE_nx a b] at h; exact ⟨a, b, h⟩
    · rw [stE_arg a b] at h; cases h
  · rw [stE_left a] at h; cases h

/-- Live, of the first n slots. -/
def live (ws : List Int) : Nat → List Hd
  | 0 => []
  | n + 1 => if K (ws.getD n 0) = 0 then live ws n else live ws n ++ [⟨(n : Nat), G (ws.getD n 0)⟩]
theorem live_skip {ws : List Int} {n : Nat} (h : K (ws.getD n 0) = 0) : live ws (n + 1) = live ws n := by rw [live, if_pos h]
theorem live_put {ws : List Int} {n : Nat} (h : K (ws.getD n 0) ≠ 0) : live ws (n + 1) = live ws n ++ [⟨(n : Nat), G (ws.getD n 0)⟩] := by rw [live, if_neg h]
theorem live_le (ws : List Int) (n : Nat) : (live ws n).length ≤ n := by
  induction n with
  | zero => simp [live]
  | succ n ih =>
    unfold live; split
    · omega
    · simp; omega

/-! ### what is put -/
theorem W_put (t : T) (i : Nat) (w : Int) (x : Tk) (j : Nat) (hi : i < t.ws.length) : W (put t i w x) j = if j = i then w else W t j := by
  unfold W put
  simp only [List.getD_eq_getElem?_getD]
  by_cases h : j = i
  · subst h; rw [if_pos rfl, List.getElem?_set_self hi]; rfl
  · rw [if_neg h, List.getElem?_set_ne (fun e => h e.symm)]
theorem X_put (t : T) (i : Nat) (w : Int) (x : Tk) (j : Nat) (hi : i < t.ts.length) : X (put t i w x) j = if j = i then x else X t j := by
  unfold X put
  simp only [List.getD_eq_getElem?_getD]
  by_cases h : j = i
  · subst h; rw [if_pos rfl, List.getElem?_set_self hi]; rfl
  · rw [if_neg h, List.getElem?_set_ne (fun e => h e.symm)]
theorem right_put {t : T} {i : Nat} {w : Int} {x : Tk} (h : right t) (hi : i < t.ws.length) (hf : fits w x) : right (put t i w x) := by
  obtain ⟨a, b, c⟩ := h
  refine ⟨by simpa [put] using a, by simpa [put] using b, fun j hj => ?_⟩
  rw [W_put _ _ _ _ _ hi, X_put _ _ _ _ _ (by omega)]
  by_cases e : j = i
  · rw [if_pos e, if_pos e]; exact hf
  · rw [if_neg e, if_neg e]; exact c j (by simpa [put] using hj)
theorem put_len (t : T) (i : Nat) (w : Int) (x : Tk) : (put t i w x).ws.length = t.ws.length ∧ (put t i w x).ts.length = t.ts.length := by simp [put]
/-- Kinds behind events: 0 just behind EvExit. -/
theorem toK_zero {i : Nat} (h : i < 16) (h1 : i ≠ 1) : toK i ≠ 0 := by
  rcases (show i = 0 ∨ i = 2 ∨ i = 3 ∨ i = 4 ∨ i = 5 ∨ i = 6 ∨ i = 7 ∨ i = 8 ∨ i = 9 ∨ i = 10 ∨ i = 11 ∨ i = 12 ∨ i = 13 ∨ i = 14 ∨ i = 15 by omega) with rfl | rfl | rfl | rfl | rfl | rfl | rfl | rfl | rfl | rfl | rfl | rfl | rfl | rfl | rfl <;> decide
theorem ofB_zero {i : Nat} (h : i < 16) (h1 : i ≠ 0) {k : Int} {b : Bool} (ho : ofB i k b = true) : k ≠ 0 := by
  intro hk; subst hk
  rcases (show i = 1 ∨ i = 2 ∨ i = 3 ∨ i = 4 ∨ i = 5 ∨ i = 6 ∨ i = 7 ∨ i = 8 ∨ i = 9 ∨ i = 10 ∨ i = 11 ∨ i = 12 ∨ i = 13 ∨ i = 14 ∨ i = 15 by omega) with rfl | rfl | rfl | rfl | rfl | rfl | rfl | rfl | rfl | rfl | rfl | rfl | rfl | rfl | rfl <;> revert ho <;> cases b <;> decide
theorem right_cr {t : T} {c n : Int} {m : Nat} (h : crE t c n m = 0) : right (crT t c n m) := by
  obtain ⟨hr, ⟨hc, hn, hm⟩, hv⟩ := crE_inv h
  rw [(cr_yes h).1]
  have hw := (hr.2.2 _ hv).1
  have hx := (take_iff hw (fst_in (x := al c m))).2 (vac_fr hv).1
  obtain ⟨p, pk, -⟩ := nx_parts hx
  refine right_put hr hv ⟨p, fun e => ?_, fun _ => ⟨hn, hm, show (-1125899906842624 : Int) ≤ 0 ∧ (0 : Int) ≤ 1125899906842624 by decide⟩⟩
  exact absurd (pk.symm.trans e) (by decide)
theorem right_ex {t : T} {s g : Int} (h : exE t s g = 0) : right (exT t s g) := by
  obtain ⟨hr, hc, hx⟩ := exE_inv h
  rw [ex_yes h]
  obtain ⟨i, rfl, hi, -⟩ := chk_zero hc
  rw [Int.toNat_natCast] at hx ⊢
  obtain ⟨p, pk, -⟩ := nx_parts hx
  exact right_put hr hi ⟨p, fun _ => rfl, fun e => absurd pk e⟩
theorem right_st {t : T} {s e c : Int} (h : stE t s e c = 0) : right (stT t s e c) := by
  obtain ⟨hr, ⟨hs, h0, h1⟩, hx⟩ := stE_inv h
  rw [st_yes h]
  obtain ⟨p, pk, -⟩ := nx_parts hx
  obtain ⟨⟨-, he, -⟩, ho, -⟩ := nx_inv hx
  obtain ⟨i, hi, rfl, hn⟩ := sixteen he
  rw [hn] at pk ho
  obtain ⟨-, -, f⟩ := hr.2.2 s.toNat (by omega)
  exact right_put hr (by omega) ⟨p, fun e => absurd (pk.symm.trans e) (toK_zero hi (fun x => h1 (by rw [x]; rfl))), fun _ => f (ofB_zero hi (fun x => h0 (by rw [x]; rfl)) ho)⟩
end Tl
end Go.Proofs.YtjikabalpejmlaaDoor
