/-
  Plain facts on keys by numbers (the law's Made), and what follows of them: put one by one, dropped one by one, turned on.
-/
import Derived.Test.YtdmkaclihopmkaaKyM
namespace Go.Proofs.Ytdmkaclihopmkaa
namespace Ky
open Wd Tn

/-- A key by a number, near m. -/
def mkK (m z : Int) : K := (IntKind.u64.wrap (IntKind.u64.wrap (m + z / 64) - 300), z % 64)
def idsK (l : List K) : List Int := l.map (·.2)
/-- One number more. -/
def stepK (m : Int) (out : List K) (z : Int) : List K := if z % 64 ∈ idsK out then out else out ++ [mkK m z]
def foldM (m : Int) (zs : List Int) : List K := zs.foldl (stepK m) []
def madeK (m : Int) (zs : List Int) : List K := foldM m (zs.take 40)
theorem foldM_more (m : Int) (zs : List Int) (z : Int) : foldM m (zs ++ [z]) = stepK m (foldM m zs) z := by unfold foldM; rw [List.foldl_append]; rfl
theorem foldM_len (m : Int) (zs : List Int) : (foldM m zs).length ≤ zs.length := by
  suffices h : ∀ out : List K, (zs.foldl (stepK m) out).length ≤ out.length + zs.length by simpa [foldM] using h []
  induction zs with
  | nil => intro out; simp
  | cons z zs ih =>
    intro out
    refine Nat.le_trans (ih _) ?_
    unfold stepK
    split <;> simp <;> omega
theorem madeK_len (m : Int) (zs : List Int) : (madeK m zs).length ≤ 40 := Nat.le_trans (foldM_len m _) (by rw [List.length_take]; omega)
/-- What holds of each, if it holds of each by a number. -/
theorem foldM_all {m : Int} {p : K → Prop} {zs : List Int} (h : ∀ z ∈ zs, p (mkK m z)) : ∀ x ∈ foldM m zs, p x := by
  suffices hh : ∀ out : List K, (∀ x ∈ out, p x) → ∀ x ∈ zs.foldl (stepK m) out, p x from hh [] (by simp)
  induction zs with
  | nil => intro out ho; exact ho
  | cons z zs ih =>
    intro out ho
    refine ih (fun y hy => h y (List.mem_cons_of_mem _ hy)) _ ?_
    intro x hx
    unfold stepK at hx
    split at hx
    · exact ho x hx
    · rcases List.mem_append.1 hx with h1 | h1
      · exact ho x h1
      · simp at h1; subst h1; exact h z (List.mem_cons_self ..)
theorem foldM_nodup (m : Int) (zs : List Int) : (idsK (foldM m zs)).Nodup := by
  suffices h : ∀ out : List K, (idsK out).Nodup → (idsK (zs.foldl (stepK m) out)).Nodup from h [] List.nodup_nil
  induction zs with
  | nil => intro out h; exact h
  | cons z zs ih =>
    intro out h
    refine ih _ ?_
    unfold stepK
    split
    · exact h
    · rename_i hn
      unfold idsK at *
      rw [List.map_append, List.nodup_append]
      refine ⟨h, by simp, fun a ha b hb e => ?_⟩
      simp [mkK] at hb
      subst hb e
      exact hn ha
/-- A key near m: its lag, its Id. -/
def Near (m : Int) (k : K) : Prop := Kin k ∧ -300 ≤ lagN k.1 m ∧ lagN k.1 m ≤ 723 ∧ 0 ≤ k.2 ∧ k.2 < 64
theorem mkK_near {m z : Int} (h0 : 0 ≤ z) (h1 : z ≤ 65535) : Near m (mkK m z) := by
  have hl : lagN (mkK m z).1 m = z / 64 - 300 := by unfold mkK lagN; rw [wrapM, wrapM]; unfold M; omega
  refine ⟨⟨?_, ?_⟩, by rw [hl]; omega, by rw [hl]; omega, ?_, ?_⟩
  · unfold mkK; exact U_wrap _
  · unfold mkK I; simp only; omega
  · unfold mkK; simp only; omega
  · unfold mkK; simp only; omega
theorem madeK_near {m : Int} {zs : List Int} (h : ∀ z ∈ zs, 0 ≤ z ∧ z ≤ 65535) : ∀ x ∈ madeK m zs, Near m x := foldM_all fun z hz => mkK_near (h z (List.mem_of_mem_take hz)).1 (h z (List.mem_of_mem_take hz)).2
theorem madeK_kin {m : Int} {zs : List Int} (h : ∀ z ∈ zs, 0 ≤ z ∧ z ≤ 65535) : ∀ x ∈ madeK m zs, Kin x := fun x hx => (madeK_near h x hx).1
theorem madeK_nodup (m : Int) (zs : List Int) : (idsK (madeK m zs)).Nodup := foldM_nodup m _
theorem srt_ok {m : Int} {l : List K} (hk : ∀ x ∈ l, Kin x) (hn : (idsK l).Nodup) : okK m (srtK m l) := by
  refine asc_okK (fun x hx => hk x ((srtK_mem m l x).1 hx)) (srtK_asc m l) ?_
  have hp : ((srtK m l).map (·.2)).Perm (idsK l) := (srtK_perm m l).map _
  rw [hp.nodup_iff]; exact hn

/-! ### Turned on -/
theorem near_lag {m : Int} {k : K} (h : Near m k) (d : Int) (h0 : 0 ≤ d) (h1 : d < 4611686018427387904) : lagN k.1 (IntKind.u64.wrap (m + d)) = lagN k.1 m - d := by
  obtain ⟨-, h2, h3, -⟩ := h
  rw [wrapM]
  unfold lagN M at *
  omega
theorem ok_later {m : Int} {l : List K} (hn : ∀ x ∈ l, Near m x) (h : okK m l) (d : Int) (h0 : 0 ≤ d) (h1 : d < 4611686018427387904) : okK (IntKind.u64.wrap (m + d)) l := by
  have := okK_map (f := fun x => x) (m' := IntKind.u64.wrap (m + d)) h (fun a b ha hb hab => by
    rw [ltK_iff] at hab ⊢
    rw [near_lag (hn a ha) d h0 h1, near_lag (hn b hb) d h0 h1]
    omega) (fun _ => rfl)
  simpa using this
def turnK (d : Int) (k : K) : K := (IntKind.u64.wrap (k.1 + d), k.2)
theorem ok_turned {m : Int} {l : List K} (h : okK m l) (d : Int) : okK (IntKind.u64.wrap (m + d)) (l.map (turnK d)) :=
  okK_map h (fun a b _ _ hab => by
    rw [ltK_iff] at hab ⊢
    unfold turnK
    simp only
    rw [lag_more, lag_more]
    exact hab) (fun _ => rfl)
theorem turnK_kin {d : Int} {k : K} (h : Kin k) : Kin (turnK d k) := ⟨by unfold turnK; exact U_wrap _, h.2⟩

/-! ### Put one by one -/
/-- All of l, put one behind the other. -/
theorem put_all {m : Int} {l : List K} (hk : ∀ x ∈ l, Kin x) (hn : (idsK l).Nodup) (i : Nat) (hi : i < l.length) : putE m (srtK m (l.take i)) (l.getD i (0, 0)) = 0 ∧ putL m (srtK m (l.take i)) (l.getD i (0, 0)) = srtK m (l.take (i + 1)) := by
  have hkt : ∀ x ∈ l.take i, Kin x := fun x hx => hk x (List.mem_of_mem_take hx)
  have hnt : (idsK (l.take i)).Nodup := by unfold idsK at *; rw [List.map_take]; exact hn.sublist (List.take_sublist _ _)
  have hok := srt_ok (m := m) hkt hnt
  have hno : ¬ idxK (l.getD i (0, 0)).2 (srtK m (l.take i)) < (srtK m (l.take i)).length := fun h => by
    have h1 := idxK_mem.1 h
    obtain ⟨x, hx, he⟩ := List.mem_map.1 h1
    have hx' := (srtK_mem m _ x).1 hx
    obtain ⟨j, hj, rfl⟩ := List.mem_iff_getElem.1 hx'
    have hjl : j < i := by rw [List.length_take] at hj; omega
    have hne := List.pairwise_iff_getElem.1 (List.nodup_iff_pairwise_ne.1 hn) j i (by simp [idsK]; omega) (by simp [idsK]; exact hi) hjl
    simp only [idsK, List.getElem_map, List.getElem_take] at hne he
    apply hne
    simpa [List.getD, hi] using he
  obtain ⟨h1, h2⟩ := put_new hok hno
  refine ⟨h1, h2.trans ?_⟩
  rw [List.take_add_one, List.getElem?_eq_getElem hi]
  simp only [Option.toList_some]
  rw [srtK_more]
  simp [List.getD, hi]
/-- In whatever order they stand, sorted they are the same. -/
theorem srt_perm {m : Int} {a b : List K} (hk : ∀ x ∈ a, Kin x) (h : a.Perm b) : srtK m a = srtK m b :=
  srtK_one (fun x hx => hk x (h.mem_iff.2 hx)) (srtK_asc m a) ((srtK_perm m a).trans h)
theorem first_srt {m : Int} {l : List K} (hk : ∀ x ∈ l, Kin x) (hp : 0 < l.length) : firstK m l = (srtK m l).getD 0 (0, 0) := by
  obtain ⟨a, t, rfl⟩ : ∃ a t, l = a :: t := by
    cases l with
    | nil => simp at hp
    | cons a t => exact ⟨a, t, rfl⟩
  have hf : firstK m (a :: t) = fstK m a t := rfl
  obtain ⟨h1, h2⟩ := fstK_least m a t
  have hmem : fstK m a t ∈ a :: t := by
    rcases fstK_mem m a t with h | h
    · rw [h]; exact List.mem_cons_self ..
    · exact List.mem_cons_of_mem _ h
  have hleast : ∀ x ∈ a :: t, ltK m x (fstK m a t) = false := fun x hx => by
    rcases List.mem_cons.1 hx with rfl | hx
    · exact h1
    · exact h2 x hx
  rw [hf]
  obtain ⟨s, r, hs⟩ : ∃ s r, srtK m (a :: t) = s :: r := by
    cases h : srtK m (a :: t) with
    | nil => have := srtK_length m (a :: t); rw [h] at this; simp at this
    | cons s r => exact ⟨s, r, rfl⟩
  have hasc := srtK_asc m (a :: t)
  rw [hs] at hasc ⊢
  show fstK m a t = s
  have hsm : s ∈ a :: t := (srtK_mem m _ s).1 (by rw [hs]; exact List.mem_cons_self ..)
  have hfm : fstK m a t ∈ s :: r := by rw [← hs]; exact (srtK_mem m _ _).2 hmem
  refine lt_same (m := m) (hk _ hmem) (hk s hsm) ?_ (hleast s hsm)
  rcases List.mem_cons.1 hfm with h | h
  · rw [h]; exact lt_irrefl m s
  · exact (List.pairwise_cons.1 hasc).1 _ h

/-! ### Dropped one by one -/
theorem drop_next {m : Int} {l : List K} {id : Int} (hok : okK m l) (h : id ∈ idsK l) : dropE m l id = 0 ∧ (dropL m l id).length = l.length - 1 ∧ okK m (dropL m l id) ∧ (∀ x ∈ dropL m l id, x ∈ l) ∧ (∀ x ∈ l, x.2 ≠ id → x ∈ dropL m l id) := by
  have hlt := idxK_mem.2 h
  obtain ⟨h1, h2⟩ := drop_has hok hlt
  refine ⟨h1, ?_, ?_, ?_, ?_⟩
  · rw [h2, List.length_append, List.length_take, List.length_drop]; omega
  · rw [h2, ← List.eraseIdx_eq_take_drop_succ]
    exact hok.sublist (List.eraseIdx_sublist _ _)
  · intro x hx
    rw [h2] at hx
    rcases List.mem_append.1 hx with h3 | h3
    · exact List.mem_of_mem_take h3
    · exact List.mem_of_mem_drop h3
  · intro x hx hne
    rw [h2]
    obtain ⟨j, hj, rfl⟩ := List.mem_iff_getElem.1 hx
    have hji : j ≠ idxK id l := fun e => by
      apply hne
      have := idxK_has hlt
      rw [← e] at this
      simpa [List.getD, hj] using this
    rcases Nat.lt_or_gt_of_ne hji with h3 | h3
    · exact List.mem_append_left _ (List.mem_iff_getElem.2 ⟨j, by rw [List.length_take]; omega, by simp⟩)
    · exact List.mem_append_right _ (List.mem_iff_getElem.2 ⟨j - (idxK id l + 1), by rw [List.length_drop]; omega, by simp; congr 1; omega⟩)
end Ky
end Go.Proofs.Ytdmkaclihopmkaa
