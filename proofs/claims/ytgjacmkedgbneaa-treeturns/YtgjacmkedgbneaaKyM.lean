/-
  Plain facts on keys (nothing of the program is imported here): what layer 8 tells, as functions of lists of pairs of numbers.
-/
import Derived.Test.YtgjacmkedgbneaaTurnM
namespace Go.Proofs.Ytgjacmkedgbneaa
namespace Ky
open Wd Tn

/-- A key: its time, its Id. -/
abbrev K := Int × Int
/-- A key's numbers lie in their kinds' bounds. -/
def Kin (k : K) : Prop := U k.1 ∧ I k.2
/-- Is a less than b, by m? -/
def ltK (m : Int) (a b : K) : Bool := decide (lagN a.1 m < lagN b.1 m ∨ (lagN a.1 m = lagN b.1 m ∧ a.2 < b.2))
theorem ltK_iff (m : Int) (a b : K) : ltK m a b = true ↔ (lagN a.1 m < lagN b.1 m ∨ (lagN a.1 m = lagN b.1 m ∧ a.2 < b.2)) := decide_eq_true_iff
theorem ltK_not (m : Int) (a b : K) : ltK m a b = false ↔ ¬ (lagN a.1 m < lagN b.1 m ∨ (lagN a.1 m = lagN b.1 m ∧ a.2 < b.2)) := decide_eq_false_iff_not
theorem lt_irrefl (m : Int) (a : K) : ltK m a a = false := by rw [ltK_not]; omega
theorem lt_trans {m : Int} {a b c : K} (h : ltK m a b = true) (k : ltK m b c = true) : ltK m a c = true := by rw [ltK_iff] at *; omega
theorem lt_ntrans {m : Int} {a b c : K} (h : ltK m a b = false) (k : ltK m b c = false) : ltK m a c = false := by rw [ltK_not] at *; omega
theorem lt_asymm {m : Int} {a b : K} (h : ltK m a b = true) : ltK m b a = false := by rw [ltK_iff] at h; rw [ltK_not]; omega
/-- Neither is less: they are one. -/
theorem lt_same {m : Int} {a b : K} (ha : Kin a) (hb : Kin b) (h : ltK m a b = false) (k : ltK m b a = false) : a = b := by
  rw [ltK_not] at h k
  have e1 : a.1 = b.1 := lag_inj ha.1 hb.1 (m := m) (by omega)
  have e2 : a.2 = b.2 := by omega
  exact Prod.ext e1 e2

/-! ### Sorted -/
/-- Keys are sorted. -/
def okK (m : Int) (l : List K) : Prop := l.Pairwise fun a b => ltK m a b = true ∧ a.2 ≠ b.2
instance (m : Int) (l : List K) : Decidable (okK m l) := by unfold okK; infer_instance
theorem okK_take {m : Int} {l : List K} (h : okK m l) (i : Nat) : okK m (l.take i) := h.sublist (List.take_sublist i l)
theorem okK_at {m : Int} {l : List K} (h : okK m l) {i j : Nat} (hij : i < j) (hj : j < l.length) : ltK m (l.getD i (0, 0)) (l.getD j (0, 0)) = true ∧ (l.getD i (0, 0)).2 ≠ (l.getD j (0, 0)).2 := by
  have := List.pairwise_iff_getElem.1 h i j (by omega) hj hij
  simpa [List.getD, show i < l.length by omega, hj] using this
theorem okK_of {m : Int} {l : List K} (h : ∀ i j, i < j → j < l.length → ltK m (l.getD i (0, 0)) (l.getD j (0, 0)) = true ∧ (l.getD i (0, 0)).2 ≠ (l.getD j (0, 0)).2) : okK m l :=
  List.pairwise_iff_getElem.2 fun i j hi hj hij => by
    have := h i j hij hj
    simpa [List.getD, hi, hj] using this
/-- One more, behind all. -/
theorem okK_more {m : Int} {l : List K} {i : Nat} (hi : i < l.length) (h : okK m (l.take i)) (h1 : 0 < i → ltK m (l.getD (i - 1) (0, 0)) (l.getD i (0, 0)) = true) (h2 : ∀ j, j < i → (l.getD j (0, 0)).2 ≠ (l.getD i (0, 0)).2) : okK m (l.take (i + 1)) := by
  refine okK_of fun a b hab hb => ?_
  have hb' : b < i + 1 := by simp [List.length_take] at hb; omega
  have ga : (l.take (i + 1)).getD a (0, 0) = l.getD a (0, 0) := by simp [List.getD, show a < i + 1 by omega]
  have gb : (l.take (i + 1)).getD b (0, 0) = l.getD b (0, 0) := by simp [List.getD, hb']
  rw [ga, gb]
  have old : ∀ a b, a < b → b < i → ltK m (l.getD a (0, 0)) (l.getD b (0, 0)) = true ∧ (l.getD a (0, 0)).2 ≠ (l.getD b (0, 0)).2 := fun a b h3 h4 => by
    have := okK_at h h3 (by simp [List.length_take]; omega)
    simpa [List.getD, List.getElem?_take, show a < i by omega, h4] using this
  by_cases hbi : b = i
  · subst hbi
    refine ⟨?_, h2 a hab⟩
    have hl := h1 (by omega)
    by_cases hai : a = b - 1
    · subst hai; exact hl
    · exact lt_trans (old a (b - 1) (by omega) (by omega)).1 hl
  · exact old a b hab (by omega)
theorem okK_less {m : Int} {l : List K} {i : Nat} (hi : i < l.length) (h : okK m l) (h0 : 0 < i) : ltK m (l.getD (i - 1) (0, 0)) (l.getD i (0, 0)) = true := (okK_at h (by omega) hi).1
/-- Turned on by the same, or by another least time that keeps all lags' order. -/
theorem okK_map {m m' : Int} {l : List K} {f : K → K} (h : okK m l) (hf : ∀ a b, a ∈ l → b ∈ l → ltK m a b = true → ltK m' (f a) (f b) = true) (hi : ∀ a, (f a).2 = a.2) : okK m' (l.map f) := by
  unfold okK at *
  rw [List.pairwise_map]
  refine List.Pairwise.imp_of_mem ?_ h
  intro a b ha hb hab
  exact ⟨hf a b ha hb hab.1, by rw [hi, hi]; exact hab.2⟩

/-! ### The first one -/
def fstK (m : Int) (a : K) (l : List K) : K := l.foldl (fun best k => if ltK m k best = true then k else best) a
/-- The first of all; nothing of none. -/
def firstK (m : Int) (l : List K) : K := fstK m (l.headD (0, 0)) l.tail
theorem fstK_more (m : Int) (a : K) (l : List K) (k : K) : fstK m a (l ++ [k]) = if ltK m k (fstK m a l) = true then k else fstK m a l := by unfold fstK; rw [List.foldl_append]; rfl
theorem fstK_mem (m : Int) (a : K) (l : List K) : fstK m a l = a ∨ fstK m a l ∈ l := by
  induction l generalizing a with
  | nil => exact .inl rfl
  | cons x l ih =>
    show fstK m (if ltK m x a = true then x else a) l = a ∨ fstK m (if ltK m x a = true then x else a) l ∈ x :: l
    rcases ih (if ltK m x a = true then x else a) with h | h
    · rw [h]; split
      · exact .inr (List.mem_cons_self ..)
      · exact .inl rfl
    · exact .inr (List.mem_cons_of_mem _ h)
theorem fstK_least (m : Int) (a : K) (l : List K) : ltK m a (fstK m a l) = false ∧ ∀ x ∈ l, ltK m x (fstK m a l) = false := by
  induction l generalizing a with
  | nil => exact ⟨lt_irrefl m a, fun x hx => by cases hx⟩
  | cons x l ih =>
    show ltK m a (fstK m (if ltK m x a = true then x else a) l) = false ∧ ∀ y ∈ x :: l, ltK m y (fstK m (if ltK m x a = true then x else a) l) = false
    cases hx : ltK m x a with
    | true =>
      rw [if_pos rfl]
      obtain ⟨h1, h2⟩ := ih x
      refine ⟨lt_ntrans (lt_asymm hx) h1, fun y hy => ?_⟩
      rcases List.mem_cons.1 hy with rfl | hy
      · exact h1
      · exact h2 y hy
    | false =>
      rw [if_neg (by decide)]
      obtain ⟨h1, h2⟩ := ih a
      refine ⟨h1, fun y hy => ?_⟩
      rcases List.mem_cons.1 hy with rfl | hy
      · exact lt_ntrans hx h1
      · exact h2 y hy

/-! ### Sorting -/
/-- A key, ahead of the first one that is greater. -/
def insK (m : Int) (k : K) : List K → List K
  | [] => [k]
  | x :: l => if ltK m k x = true then k :: x :: l else x :: insK m k l
def srtK (m : Int) (l : List K) : List K := l.foldl (fun out k => insK m k out) []
theorem srtK_more (m : Int) (l : List K) (k : K) : srtK m (l ++ [k]) = insK m k (srtK m l) := by unfold srtK; rw [List.foldl_append]; rfl
theorem insK_length (m : Int) (k : K) (l : List K) : (insK m k l).length = l.length + 1 := by
  induction l with
  | nil => rfl
  | cons x l ih => unfold insK; split <;> simp [ih]
theorem insK_perm (m : Int) (k : K) (l : List K) : (insK m k l).Perm (k :: l) := by
  induction l with
  | nil => exact .refl _
  | cons x l ih =>
    unfold insK
    split
    · exact .refl _
    · exact (ih.cons x).trans (.swap ..)
theorem fold_perm (m : Int) (l out : List K) : (l.foldl (fun out k => insK m k out) out).Perm (out ++ l) := by
  induction l generalizing out with
  | nil => simp
  | cons x l ih =>
    refine (ih (insK m x out)).trans ?_
    exact ((insK_perm m x out).append_right l).trans (List.perm_middle.symm)
theorem srtK_perm (m : Int) (l : List K) : (srtK m l).Perm l := fold_perm m l []
theorem srtK_length (m : Int) (l : List K) : (srtK m l).length = l.length := (srtK_perm m l).length_eq
theorem srtK_mem (m : Int) (l : List K) (k : K) : k ∈ srtK m l ↔ k ∈ l := (srtK_perm m l).mem_iff
/-- Ascending: no later one is less than an earlier one. -/
def Asc (m : Int) (l : List K) : Prop := l.Pairwise fun a b => ltK m b a = false
theorem insK_asc {m : Int} {k : K} {l : List K} (h : Asc m l) : Asc m (insK m k l) := by
  induction l with
  | nil => exact List.pairwise_singleton _ _
  | cons x l ih =>
    have hx := List.pairwise_cons.1 h
    unfold insK
    cases hk : ltK m k x with
    | true =>
      rw [if_pos rfl]
      refine List.pairwise_cons.2 ⟨fun y hy => ?_, h⟩
      rcases List.mem_cons.1 hy with rfl | hy
      · exact lt_asymm hk
      · exact lt_ntrans (hx.1 y hy) (lt_asymm hk)
    | false =>
      rw [if_neg (by decide)]
      refine List.pairwise_cons.2 ⟨fun y hy => ?_, ih hx.2⟩
      rcases List.mem_cons.1 ((insK_perm m k l).mem_iff.1 hy) with rfl | hy
      · exact hk
      · exact hx.1 y hy
theorem fold_asc (m : Int) (l out : List K) (h : Asc m out) : Asc m (l.foldl (fun out k => insK m k out) out) := by
  induction l generalizing out with
  | nil => exact h
  | cons x l ih => exact ih _ (insK_asc h)
theorem srtK_asc (m : Int) (l : List K) : Asc m (srtK m l) := fold_asc m l [] List.Pairwise.nil
/-- There is one ascending row. -/
theorem asc_one {m : Int} {a b : List K} (hin : ∀ k ∈ a, Kin k) (ha : Asc m a) (hb : Asc m b) (hp : a.Perm b) : a = b :=
  List.Perm.eq_of_pairwise (le := fun x y => ltK m y x = false) (fun x y hx hy h1 h2 => lt_same (hin x hx) (hin y (hp.mem_iff.2 hy)) h2 h1) ha hb hp
theorem srtK_one {m : Int} {l d : List K} (hin : ∀ k ∈ l, Kin k) (hd : Asc m d) (hp : d.Perm l) : d = srtK m l :=
  asc_one (fun k hk => hin k (hp.mem_iff.1 hk)) hd (srtK_asc m l) (hp.trans (srtK_perm m l).symm)
theorem okK_asc {m : Int} {l : List K} (h : okK m l) : Asc m l := h.imp fun hab => lt_asymm hab.1
/-- Ascending, and no Id twice: sorted. -/
theorem asc_okK {m : Int} {l : List K} (hin : ∀ k ∈ l, Kin k) (h : Asc m l) (hn : (l.map (·.2)).Nodup) : okK m l := by
  have h2 : l.Pairwise fun a b => a.2 ≠ b.2 := by rw [List.nodup_iff_pairwise_ne, List.pairwise_map] at hn; exact hn
  have h3 := List.pairwise_and_iff.2 ⟨h, h2⟩
  refine List.Pairwise.imp_of_mem ?_ h3
  intro a b ha hb hab
  refine ⟨?_, hab.2⟩
  cases hl : ltK m a b with
  | true => rfl
  | false => exact absurd (congrArg Prod.snd (lt_same (hin a ha) (hin b hb) hl hab.1)) hab.2
theorem okK_ids {m : Int} {l : List K} (h : okK m l) : (l.map (·.2)).Nodup := by
  rw [List.nodup_iff_pairwise_ne, List.pairwise_map]
  exact h.imp fun hab => hab.2

/-! ### Where one stands -/
/-- How many are not greater than k. -/
def posK (m : Int) (k : K) (l : List K) : Nat := l.countP fun x => !ltK m k x
theorem posK_le (m : Int) (k : K) (l : List K) : posK m k l ≤ l.length := List.countP_le_length
theorem insK_pos {m : Int} {k : K} {l : List K} (h : okK m l) : insK m k l = l.take (posK m k l) ++ k :: l.drop (posK m k l) := by
  induction l with
  | nil => rfl
  | cons x l ih =>
    have hx := List.pairwise_cons.1 h
    unfold insK posK
    cases hk : ltK m k x with
    | true =>
      have h0 : (x :: l).countP (fun y => !ltK m k y) = 0 := by
        rw [List.countP_eq_zero]
        intro y hy
        rcases List.mem_cons.1 hy with rfl | hy
        · simp [hk]
        · simp [lt_trans hk (hx.1 y hy).1]
      rw [if_pos rfl, h0]; rfl
    | false =>
      have h1 : (x :: l).countP (fun y => !ltK m k y) = posK m k l + 1 := by rw [List.countP_cons]; simp [hk, posK]
      rw [if_neg (by decide), h1, ih hx.2]; rfl
/-- What the search asks at each place. -/
theorem pos_mono {m : Int} {k : K} {l : List K} (h : okK m l) (a b : Nat) (hab : a ≤ b) (hb : b < l.length) (hp : ltK m k (l.getD a (0, 0)) = true) : ltK m k (l.getD b (0, 0)) = true := by
  rcases Nat.lt_or_ge a b with h1 | h1
  · exact lt_trans hp (okK_at h h1 hb).1
  · obtain rfl : a = b := by omega
    exact hp
theorem pos_range (m : Int) (k : K) (l : List K) : (List.range l.length).countP (fun i => !ltK m k (l.getD i (0, 0))) = posK m k l := by
  have h : l = (List.range l.length).map (fun i => l.getD i (0, 0)) := by
    apply List.ext_getElem
    · simp
    · intro i h1 h2
      simp [List.getD, h1]
  unfold posK
  conv => rhs; rw [h]
  rw [List.countP_map]; rfl

/-- Where an Id is; below 0: nowhere. -/
def idxK (id : Int) (l : List K) : Nat := l.findIdx fun x => decide (x.2 = id)
theorem idxK_le (id : Int) (l : List K) : idxK id l ≤ l.length := List.findIdx_le_length
theorem idxK_at {id : Int} {l : List K} {i : Nat} (hi : i < l.length) (h : (l.getD i (0, 0)).2 = id) (hn : ∀ j, j < i → (l.getD j (0, 0)).2 ≠ id) : idxK id l = i := by
  unfold idxK
  rw [List.findIdx_eq hi]
  refine ⟨by simpa [List.getD, hi] using h, fun j hj => ?_⟩
  have := hn j hj
  simpa [List.getD, show j < l.length by omega] using this
theorem idxK_none {id : Int} {l : List K} (h : ∀ j, j < l.length → (l.getD j (0, 0)).2 ≠ id) : idxK id l = l.length := by
  unfold idxK
  rw [List.findIdx_eq_length]
  intro x hx
  obtain ⟨j, hj, rfl⟩ := List.mem_iff_getElem.1 hx
  have := h j hj
  simpa [List.getD, hj] using this
theorem idxK_has {id : Int} {l : List K} (h : idxK id l < l.length) : (l.getD (idxK id l) (0, 0)).2 = id := by
  have := List.findIdx_getElem (p := fun x : K => decide (x.2 = id)) (xs := l) (w := h)
  unfold idxK at h ⊢
  simpa [List.getD, h] using this
theorem idxK_mem {id : Int} {l : List K} : idxK id l < l.length ↔ id ∈ l.map (·.2) := by
  unfold idxK
  rw [List.findIdx_lt_length]
  simp

/-! ### Put and Drop -/
def putE (m : Int) (l : List K) (k : K) : Int := if okK m l then (if idxK k.2 l < l.length then 1 else 0) else 4
def putL (m : Int) (l : List K) (k : K) : List K := if okK m l then (if idxK k.2 l < l.length then [] else insK m k l) else []
def dropE (m : Int) (l : List K) (id : Int) : Int := if okK m l then (if idxK id l < l.length then 0 else 8) else 4
def dropL (m : Int) (l : List K) (id : Int) : List K := if okK m l then (if idxK id l < l.length then l.take (idxK id l) ++ l.drop (idxK id l + 1) else []) else []
theorem put_unsorted {m : Int} {l : List K} (h : ¬ okK m l) (k : K) : putE m l k = 4 ∧ putL m l k = [] := by unfold putE putL; rw [if_neg h, if_neg h]; exact ⟨rfl, rfl⟩
theorem put_has {m : Int} {l : List K} (h : okK m l) {k : K} (hk : idxK k.2 l < l.length) : putE m l k = 1 ∧ putL m l k = [] := by unfold putE putL; rw [if_pos h, if_pos h, if_pos hk, if_pos hk]; exact ⟨rfl, rfl⟩
theorem put_new {m : Int} {l : List K} (h : okK m l) {k : K} (hk : ¬ idxK k.2 l < l.length) : putE m l k = 0 ∧ putL m l k = insK m k l := by unfold putE putL; rw [if_pos h, if_pos h, if_neg hk, if_neg hk]; exact ⟨rfl, rfl⟩
theorem drop_unsorted {m : Int} {l : List K} (h : ¬ okK m l) (id : Int) : dropE m l id = 4 ∧ dropL m l id = [] := by unfold dropE dropL; rw [if_neg h, if_neg h]; exact ⟨rfl, rfl⟩
theorem drop_has {m : Int} {l : List K} (h : okK m l) {id : Int} (hk : idxK id l < l.length) : dropE m l id = 0 ∧ dropL m l id = l.take (idxK id l) ++ l.drop (idxK id l + 1) := by unfold dropE dropL; rw [if_pos h, if_pos h, if_pos hk, if_pos hk]; exact ⟨rfl, rfl⟩
theorem drop_none {m : Int} {l : List K} (h : okK m l) {id : Int} (hk : ¬ idxK id l < l.length) : dropE m l id = 8 ∧ dropL m l id = [] := by unfold dropE dropL; rw [if_pos h, if_pos h, if_neg hk, if_neg hk]; exact ⟨rfl, rfl⟩
theorem insK_in {m : Int} {k : K} {l : List K} (hl : ∀ x ∈ l, Kin x) (hk : Kin k) : ∀ x ∈ insK m k l, Kin x := fun x hx => by
  rcases List.mem_cons.1 ((insK_perm m k l).mem_iff.1 hx) with rfl | h
  · exact hk
  · exact hl x h
/-- With one more it is sorted still. -/
theorem insK_ok {m : Int} {k : K} {l : List K} (hl : ∀ x ∈ l, Kin x) (hk : Kin k) (h : okK m l) (hn : ¬ idxK k.2 l < l.length) : okK m (insK m k l) := by
  refine asc_okK (insK_in hl hk) (insK_asc (okK_asc h)) ?_
  have hp : ((insK m k l).map (·.2)).Perm (k.2 :: l.map (·.2)) := (insK_perm m k l).map _
  rw [hp.nodup_iff]
  exact List.nodup_cons.2 ⟨fun hm => hn (idxK_mem.2 hm), okK_ids h⟩
end Ky
end Go.Proofs.Ytgjacmkedgbneaa
