/-
  Plain facts behind TableOnce: no handle is told twice, and each is there from when it is told to when it has gone.
-/
import Derived.Test.YtjikabalpejmlaaDoorTlPl
namespace Go.Proofs.YtjikabalpejmlaaDoor
namespace Tl
open Pk Lf
open Mk (V allM cpus fstI anyB)

/-- A handle is stale. -/
def old (t : T) (h : Hd) : Bool := decide (chk t h.slot h.gen ≠ 0)
/-- So many are stale of the first n. -/
def olds (t : T) (l : List Hd) : Nat := l.countP (old t)
/-- Of four slots; who was told is of a slot, and of a Gen that its word has come to; no two are the same; so many as have gone are stale, the others are there. -/
structure Once (t : T) (l : List Hd) (g : Nat) : Prop where
  rt : right t
  four : t.ws.length = 4
  ofs : ∀ h ∈ l, ∃ i : Nat, i < 4 ∧ h.slot = (i : Int) ∧ h.gen ≤ G (W t i)
  nd : l.Nodup
  st : olds t l = g
  lv : (live t.ws 4).length + g = l.length
theorem chk06 {t : T} {i : Nat} {g : Int} (h : i < t.ws.length) : chk t (i : Int) g = 0 ∨ chk t (i : Int) g = 6 := by
  rw [chk_in h]; split
  · exact .inr rfl
  · exact .inl rfl
variable {t : T} {l : List Hd} {g : Nat}
theorem Once.chk (h : Once t l g) {x : Hd} (hx : x ∈ l) : Tl.chk t x.slot x.gen = if old t x = true then 6 else 0 := by
  obtain ⟨i, hi, hs, -⟩ := h.ofs x hx
  unfold old
  rw [hs]
  rcases chk06 (t := t) (i := i) (g := x.gen) (by rw [h.four]; exact hi) with e | e <;> rw [e] <;> decide
theorem Once.zero : Once ⟨[0, 0, 0, 0], [k0, k0, k0, k0]⟩ [] 0 := ⟨by decide +kernel, rfl, by simp, .nil, rfl, by decide +kernel⟩
/-- Who is created was not told before. -/
theorem Once.fresh (h : Once t l g) {c n : Int} {m : Nat} (he : crE t c n m = 0) : crH t c n m ∉ l := fun hm => by
  obtain ⟨i, -, hi, -, hH, -⟩ := cr_facts he
  obtain ⟨j, -, hs, hg⟩ := h.ofs _ hm
  rw [hH] at hs hg
  have : i = j := by have : (i : Int) = (j : Int) := hs; omega
  subst this
  have : G (W t i) + 1 ≤ G (W t i) := hg
  omega
theorem Once.create (h : Once t l g) {c n : Int} {m : Nat} (he : crE t c n m = 0) : Once (crT t c n m) (l ++ [crH t c n m]) g := by
  have hf := h.fresh he
  obtain ⟨i, -, hi, hK, hH, h1, h2, h3, h4, h5, h6, h7⟩ := cr_facts he
  rw [h.four] at hi h1 h6
  have hr := right_cr he
  generalize crT t c n m = u at *
  rw [hH] at hf ⊢
  have hWG : ∀ j : Nat, G (W t j) ≤ G (W u j) := fun j => by
    by_cases e : j = i
    · subst e; rw [h5]; omega
    · rw [(h3 j e).1]; exact Int.le_refl _
  have hold : ∀ x ∈ l, old u x = old t x := fun x hx => by
    obtain ⟨j, hj, hs, hg⟩ := h.ofs x hx
    unfold old
    rw [hs, chk_in (by rw [h1]; exact hj), chk_in (by rw [h.four]; exact hj)]
    by_cases e : j = i
    · subst e
      rw [if_pos (.inr (by rw [h5]; omega)), if_pos (.inl hK)]
    · rw [(h3 j e).1]
  refine ⟨hr, h1, ?_, ?_, ?_, ?_⟩
  · intro x hx
    rcases List.mem_append.1 hx with hx | hx
    · obtain ⟨j, hj, hs, hg⟩ := h.ofs x hx
      exact ⟨j, hj, hs, Int.le_trans hg (hWG j)⟩
    · simp only [List.mem_singleton] at hx
      subst hx
      exact ⟨i, hi, rfl, by rw [h5]; exact Int.le_refl _⟩
  · exact List.nodup_append.2 ⟨h.nd, by simp, fun a ha b hb => by
      simp only [List.mem_singleton] at hb
      subst hb
      exact fun e => hf (e ▸ ha)⟩
  · unfold olds
    rw [List.countP_append]
    have e1 : old u ⟨(i : Nat), G (W t i) + 1⟩ = false := by unfold old; simp [h7]
    have e2 : l.countP (old u) = l.countP (old t) := List.countP_congr (fun x hx => by rw [hold x hx])
    have := h.st
    unfold olds at this
    rw [e2, this]
    simp [e1]
  · rw [h6, List.length_append]
    have := h.lv
    simp; omega
theorem countP_one {p q : Hd → Bool} {h : Hd} : ∀ {l : List Hd}, l.Nodup → h ∈ l → (∀ x ∈ l, x ≠ h → q x = p x) → p h = false → q h = true → l.countP q = l.countP p + 1
  | [], _, hm, _, _, _ => by cases hm
  | a :: l, hn, hm, he, hp, hq => by
    obtain ⟨ha, hn'⟩ := List.nodup_cons.1 hn
    by_cases e : a = h
    · subst e
      have : l.countP q = l.countP p := List.countP_congr (fun x hx => by rw [he x (List.mem_cons_of_mem _ hx) (fun e => ha (e ▸ hx))])
      rw [List.countP_cons_of_pos hq, List.countP_cons_of_neg (by simp [hp]), this]
    · have hm' : h ∈ l := by
        rcases List.mem_cons.1 hm with e' | h'
        · exact absurd e'.symm e
        · exact h'
      have ih := countP_one hn' hm' (fun x hx hne => he x (List.mem_cons_of_mem _ hx) hne) hp hq
      have ea := he a (List.mem_cons_self ..) e
      rw [List.countP_cons, List.countP_cons, ih, ea]
      omega
theorem Once.exit (h : Once t l g) {x : Hd} (hx : x ∈ l) (he : exE t x.slot x.gen = 0) : Once (exT t x.slot x.gen) l (g + 1) := by
  obtain ⟨hr, hc, hn⟩ := exE_inv he
  obtain ⟨i, hs, hi, hK, hG⟩ := chk_zero hc
  have hru := right_ex he
  have hx0 := hn
  rw [ex_yes he] at hru ⊢
  rw [hs, Int.toNat_natCast] at hru hn ⊢
  have hti : i < t.ts.length := by rw [hr.2.1]; exact hi
  obtain ⟨-, pk, -⟩ := nx_parts hn
  have pk0 : K (nxW (W t i) 1 0) = 0 := pk
  have pg : G (nxW (W t i) 1 0) = G (W t i) := by have := gen_more hn; rw [if_neg (by decide)] at this; omega
  have hW : ∀ j, W (put t i (nxW (W t i) 1 0) k0) j = if j = i then nxW (W t i) 1 0 else W t j := fun j => W_put _ _ _ _ _ hi
  have hlen : (put t i (nxW (W t i) 1 0) k0).ws.length = 4 := (put_len _ _ _ _).1.trans h.four
  have hL := live_less t.ws i (nxW (W t i) 1 0) hi hK pk0 4
  rw [if_pos (by rw [← h.four]; exact hi)] at hL
  have hL2 : (live (put t i (nxW (W t i) 1 0) k0).ws 4).length + 1 = (live t.ws 4).length := hL
  generalize put t i (nxW (W t i) 1 0) k0 = u at *
  refine ⟨hru, hlen, ?_, h.nd, ?_, ?_⟩
  · intro y hy
    obtain ⟨j, hj, hs', hg'⟩ := h.ofs y hy
    refine ⟨j, hj, hs', ?_⟩
    rw [hW]
    by_cases e : j = i
    · subst e; rw [if_pos rfl, pg]; exact hg'
    · rw [if_neg e]; exact hg'
  · unfold olds
    rw [countP_one (p := old t) (q := old u) h.nd hx ?_ ?_ ?_]
    · have := h.st
      unfold olds at this
      rw [this]
    · intro y hy hne
      obtain ⟨j, hj, hs', -⟩ := h.ofs y hy
      unfold old
      rw [hs', chk_in (by rw [hlen]; exact hj), chk_in (by rw [h.four]; exact hj), hW]
      by_cases e : j = i
      · subst e
        have hgn : G (W t j) ≠ y.gen := fun eg => hne (by
          obtain ⟨ys, yg⟩ := y
          obtain ⟨xs, xg⟩ := x
          have h1 : ys = xs := hs'.trans hs.symm
          have h2 : yg = xg := eg.symm.trans hG
          rw [h1, h2])
        rw [if_pos rfl, if_pos (.inl pk0), if_pos (.inr hgn)]
      · rw [if_neg e]
    · unfold old; simp [hc]
    · unfold old
      rw [hs, chk_in (by rw [hlen, ← h.four]; exact hi), hW, if_pos rfl, if_pos (.inl pk0)]
      decide
  · have := h.lv
    omega
end Tl
end Go.Proofs.YtjikabalpejmlaaDoor
