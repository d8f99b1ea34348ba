/-
  Contract of a game's step.
-/
import Derived.Test.YthbabhmpkniliaaLkI
import Derived.Deep.RegionWith
import Derived.WalkMore
import Derived.ScopeJumps
namespace Go.Proofs.Ythbabhmpkniliaa
open Go.RowKit Go.ChangeAt Go.ChangeShapes Go.WideShapes Go.Sort Go.Deep Lk

/-- A scope in which the run jumps forward once, to label l. -/
theorem wp_scope_then {P : Program} {a : Act} {w : World} {Q : Exit → Act → World → Prop} {c rest : Code} (l : Nat) (hf : findLabel c l = some rest)
    (first : c.wp P (Exit.jump l (fun a w => rest.wp P (Exit.noGoto Q) a w) Q) a w) : (Code.scope c).wp P Q a w :=
  wp_scope_jumps l (fun a w => rest.wp P (Exit.noGoto Q) a w) (fun _ _ => 0) hf first (fun a w h => wp_mono h (fun e a w hq => by cases e <;> first | exact hq | exact hq.elim))
theorem heap_size_alloc (w : World) (o : Obj) : (w.alloc o).heap.size = w.heap.size + 1 := by simp
theorem own_shape {k : IntKind} {w : World} {B : Nat} {e : TypeId} {v : Value} {zs : List Int} (h : Own k w B e v zs) : ∃ a cap, v = .slice a zs.length cap := by
  obtain ⟨hl, hr⟩ := h
  rcases hr with ⟨rfl, h1⟩ | ⟨g, cap, cur, rfl, _⟩
  · exact ⟨none, 0, by rw [h1]⟩
  · exact ⟨_, _, rfl⟩
/-- What a step tells. -/
def Stepped (W : World) (G Jb n : Nat) (o : Bool) (s : St) (e : Ending) (w' : World) : Prop := e = .returned (.tuple #[]) ∧ ∃ vl' R', Gm W G Jb n o w' s vl' R'

set_option maxHeartbeats 2000000 in
set_option maxRecDepth 100000 in
theorem step_any {W w : World} {G Jb n : Nat} {o : Bool} {s : St} {vl R : Nat → Value} (h : Gm W G Jb n o w s vl R) {k : Nat} (hk : k < n) (hD : s.D.length ≤ 100000) :
    Calls Try.prog 36 #[.pointer (some ⟨G, 0, none⟩), .int .i64 k] w (Stepped W G Jb n o (stepF o s k)) := by
  have HG := Lib.hid h
  have g1 := h.c.g1
  have g3 := h.c.g3
  have l0 := h.c.l k hk
  have l1 : w.cell? ⟨Jb, k * 2 + 1, none⟩ = some (R (k + 2)) := h.c.r (k + 2) (by omega)
  have hn64 := h.n64
  obtain ⟨lock, hlock⟩ : ∃ lock, wantsF o (s.l k) (s.h k) = lock := ⟨_, rfl⟩
  have hcg : ∀ q os, Calls Try.prog 41 #[.agg #[vl k, R (k + 2)], .bool o] (grow (w.drewN q) os) fun e w' => e = .returned (.int .i64 lock) ∧ ∃ q' os', w' = grow ((grow (w.drewN q) os).drewN q') os' := fun q os => by
    have hb : Below w.heap.size w (grow (w.drewN q) os) := Gr.below ⟨q, os, rfl⟩
    rw [← hlock]
    exact wants_gr ((h.ps hk).below hb) ((h.ints (i := k + 2) (by omega)).below hb) o
  obtain ⟨vk, hvk⟩ : ∃ vk, vl k = vk := ⟨_, rfl⟩
  obtain ⟨rk, hrk⟩ : ∃ rk, R (k + 2) = rk := ⟨_, rfl⟩
  rw [hvk] at l0 hcg
  rw [hrk] at l1 hcg
  have HVK := Lib.hid hvk
  have HRK := Lib.hid hrk
  have HL := Lib.hid hlock
  have mixed : Try.prog.follows .mixedOrders = true := by kernel_rfl
  have f0 : ∀ q os, (grow (w.drewN q) os).cell? ⟨Jb, k * 2, none⟩ = some vk := fun q os => Gr.cell ⟨q, os, rfl⟩ l0
  have f1 : ∀ q os, (grow (w.drewN q) os).cell? ⟨Jb, k * 2 + 1, none⟩ = some rk := fun q os => Gr.cell ⟨q, os, rfl⟩ l1
  have f2 : ∀ q os, (grow (w.drewN q) os).cell? ⟨G, 3, none⟩ = some (.bool o) := fun q os => Gr.cell ⟨q, os, rfl⟩ g3
  clear h hlock hvk hrk
  by_cases hw : lock = -1
  · subst hw
    have HIR : Hid (Ints .i64 w rk (s.h k)) := Lib.hid (by rw [← HRK.out]; exact HG.out.ints (i := k + 2) (by omega))
    obtain ⟨ar, cr, hrk⟩ := ints_shape HIR.out
    obtain ⟨nh, hnh⟩ : ∃ nh, (s.h k).length = nh := ⟨_, rfl⟩
    rw [hnh] at hrk
    subst hrk
    have HNH := Lib.hid hnh
    by_cases h0 : nh = 0
    · have HS : Hid (stepF o s k = s) := Lib.hid (by unfold stepF; rw [HL.out, if_neg (fun h => h rfl), if_neg (by omega)])
      clear hnh
      subst h0
      go_enter Try.func36, Try.ntmps36
      go_wp2
      go_step3
      go_wp2_with fail
      go_quiet_grown (first | (go_at_call 41; refine Calls.grown_of (hcg _ _)))
      have f4 := f1 nq osq
      have HG1 := Lib.hid (HG.out.grow (Gr.below ⟨nq, osq, rfl⟩))
      generalize grow (w.drewN nq) osq = w1 at HG1 f4 ⊢
      clear hcg f0 f1 f2 l0 l1 g1 g3
      go_wp2
      rw [Exit.noGoto_ret]
      exact bodyPost_ret (results_none rfl _ _ _) rfl ⟨rfl, vl, R, by rw [HS.out]; exact HG1.out⟩
    · have hd3 : decide ((nh : Int) > 0) = true := decide_eq_true (by omega)
      have hnh2 : nh ≤ 2 := by rw [← hnh]; exact (HG.out.good.h k).2
      clear hnh
      go_enter Try.func36, Try.ntmps36
      go_wp2
      refine wp_scope_then 1 rfl ?_
      go_wp2_with fail
      go_quiet_grown (first | (go_at_call 41; refine Calls.grown_of (hcg _ _)))
      have f4 := f1 nq osq
      have HG1 := Lib.hid (HG.out.grow (Gr.below ⟨nq, osq, rfl⟩))
      generalize grow (w.drewN nq) osq = w1 at HG1 f4 ⊢
      clear hcg f0 f1 f2 l0 l1 g1 g3 HG HIR
      go_wp2_with fail
      go_step3
      refine And.intro rfl ?_
      go_wp2
      go_loopw [63] (fun u wr => ∃ i : Nat, i ≤ nh ∧ u = .int .i64 i ∧ Hid (∃ R', Gm W G Jb n o wr { s with b := giveAll s.b ((s.h k).take i) k } vl R' ∧ R' (k + 2) = .slice ar nh cr)) (fun u _ => nh - (intOf u).toNat)
      case atStart => exact ⟨0, by omega, rfl, Lib.hid ⟨R, HG1.out, HRK.out⟩⟩
      case round =>
        obtain ⟨i, hi, rfl, HR⟩ := hrel
        by_cases hlt : i < nh
        · obtain ⟨R', hG, hR⟩ := HR.out
          have hI : Ints .i64 wr (R' (k + 2)) (s.h k) := hG.ints (i := k + 2) (by omega)
          rw [hR] at hI
          rcases hI.parts with ⟨e, -⟩ | ⟨-, -, b, off, cap, e, hbl, hc⟩
          · have := HNH.out; rw [e] at this; simp at this; omega
          obtain ⟨rfl⟩ : ar = some ⟨b, off, none⟩ := by simp only [Value.slice.injEq] at e; exact e.1
          have c1 := hc i (by rw [HNH.out]; exact hlt)
          obtain ⟨x, hx⟩ : ∃ x, (s.h k).getD i 0 = x := ⟨_, rfl⟩
          rw [hx] at c1
          have HX := Lib.hid hx
          have c0 : wr.cell? ⟨G, 0, none⟩ = some (R' 0) := hG.c.r 0 (by omega)
          obtain ⟨r0, hr0⟩ : ∃ r0, R' 0 = r0 := ⟨_, rfl⟩
          rw [hr0] at c0
          have HI0 : Hid (Ints .i64 wr r0 (giveAll s.b ((s.h k).take i) k)) := Lib.hid (by rw [← hr0]; exact hG.ints (i := 0) (by omega))
          have HGi := Lib.hid hG
          have HRi := Lib.hid hR
          clear hG hR hI hc e hr0 hx HG1 f4
          obtain ⟨bi, hbi⟩ : ∃ bi, giveAll s.b ((s.h k).take i) k = bi := ⟨_, rfl⟩
          rw [hbi] at HI0 HGi
          have HBI := Lib.hid hbi
          clear hbi
          go_wp2_with fail
          refine (give_any HI0.out (show bi.length ≤ 1000 from Nat.le_trans HGi.out.good.b.1 (by omega)) x k).mono ?_
          rintro e w2 ⟨⟨vb, rfl, hO⟩, hb2⟩
          have HGW := Lib.hid (HGi.out.give (giveL bi x k) (giveL_good HGi.out.good.b) hb2 vb (hO.mono HGi.out.bel.size) (fun r hr => hO.lt r hr))
          have hC := HGi.out.grow hb2
          have d0 : w2.cell? ⟨G, 0, none⟩ = some (R' 0) := hC.c.r 0 (by omega)
          have e0 := hC.c.fG 0
          obtain ⟨ab, cb, hvb⟩ := own_shape hO
          generalize (giveL bi x k).length = nb at hvb
          subst hvb
          clear hO hb2 hC
          go_wp2
          refine ⟨⟨i + 1, by omega, by go_num, Lib.hid ⟨upd R' 0 (.slice ab nb cb), ?_, ?_⟩⟩, by simp [intOf]; omega⟩
          · have he : giveAll s.b ((s.h k).take (i + 1)) k = giveL bi x k := by
              rw [← HBI.out, ← HX.out]
              unfold giveAll
              rw [List.take_add_one, List.getElem?_eq_getElem (show i < (s.h k).length by rw [HNH.out]; exact hlt)]
              rw [List.foldl_append]
              simp [List.getD, show i < (s.h k).length by rw [HNH.out]; exact hlt]
            rw [he]
            exact HGW.out
          · rw [upd_ne _ _ (by omega)]; exact HRi.out
        · obtain rfl : i = nh := by omega
          obtain ⟨R', hG, hR⟩ := HR.out
          have hall : (s.h k).take i = s.h k := List.take_of_length_le (by rw [HNH.out]; omega)
          rw [hall] at hG
          have hHne : s.h k ≠ [] := by intro e; have := HNH.out; rw [e] at this; simp at this; omega
          have hLne : s.l k ≠ [] := fun e => hHne (hG.good.nz k e)
          have HS : Hid (stepF o s k = { b := giveAll s.b (s.h k) k, L := s.L.set k (s.l k).tail, H := s.H.set k [], D := s.D ++ [(k : Int)] }) := Lib.hid (by unfold stepF; rw [HL.out, if_neg (fun h => h rfl), if_pos (by rw [HNH.out]; omega)])
          rcases (show Ps W (vl k) (s.l k) from hG.l k hk).parts with ⟨e, -⟩ | ⟨hp, b, off, cap, e, hm, hbl, hc⟩
          · exact absurd e hLne
          have l0 : wr.cell? ⟨Jb, k * 2, none⟩ = some vk := by rw [← HVK.out]; exact hG.c.l k hk
          rw [HVK.out] at e
          obtain ⟨nl, hnl⟩ : ∃ nl, (s.l k).length = nl := ⟨_, rfl⟩
          rw [hnl] at e hm hp
          have HP : Hid (Ps W (.slice (if cap = 1 then some ⟨b, off, none⟩ else some ⟨b, off + 2, none⟩) (nl - 1) (cap - 1)) (s.l k).tail) := Lib.hid (by
            refine ⟨if cap = 1 then some ⟨b, off, none⟩ else some ⟨b, off + 2, none⟩, cap - 1, by rw [List.length_tail, hnl], ⟨by rw [List.length_tail, hnl]; omega, by omega⟩, fun x hx => hG.good.l k x (List.mem_of_mem_tail hx), fun hne => ⟨b, off + 2, if_neg (by have h1 : 0 < (s.l k).tail.length := List.length_pos_iff.2 hne; rw [List.length_tail, hnl] at h1; omega), fun j hj => ?_⟩⟩
            rw [List.length_tail] at hj
            have := hc (j + 1) (by omega)
            rw [show off + 2 + j * 2 = off + (j + 1) * 2 by omega]
            have ht : (s.l k).tail.getD j (0, 0) = (s.l k).getD (j + 1) (0, 0) := by cases s.l k with
              | nil => rfl
              | cons p t => rfl
            rw [ht]
            exact this)
          subst e
          have l1 : wr.cell? ⟨Jb, k * 2 + 1, none⟩ = some (R' (k + 2)) := hG.c.r (k + 2) (by omega)
          have g2 : wr.cell? ⟨G, 2, none⟩ = some (R' 1) := hG.c.r 1 (by omega)
          have e1 := hG.c.fJ (k * 2)
          have e2 := hG.c.fJ (k * 2 + 1)
          have e3 := hG.c.fG 2
          have hne : ¬ G = Jb := hG.c.ne
          have hne2 : ¬ Jb = G := fun e => hne e.symm
          rw [hR] at l1
          have HG5 := Lib.hid (hG.next hk _ HP.out)
          have HR1 : Hid (upd R' (k + 2) (.slice none 0 0) 1 = R' 1) := Lib.hid (upd_ne _ _ (by omega))
          generalize R' 1 = r1 at g2 HR1
          have HD := Lib.hid hD
          have HQ : Hid (((((wr.setCell ⟨Jb, k * 2, none⟩ (.slice (if cap = 1 then some ⟨b, off, none⟩ else some ⟨b, off + 2, none⟩) (nl - 1) (cap - 1))).setCell ⟨Jb, k * 2 + 1, none⟩ (.slice none 0 0)).alloc (.cells #[.int .i64 k] 3)).cell? ⟨wr.heap.size, 0, none⟩ = some (.int .i64 k))) := Lib.hid (by
            have := (at_new ((wr.setCell ⟨Jb, k * 2, none⟩ (.slice (if cap = 1 then some ⟨b, off, none⟩ else some ⟨b, off + 2, none⟩) (nl - 1) (cap - 1))).setCell ⟨Jb, k * 2 + 1, none⟩ (.slice none 0 0)) (.int .i64 k) 3).1
            simpa [World.setCell] using this)
          have HSZ : Hid (W.heap.size ≤ ((wr.setCell ⟨Jb, k * 2, none⟩ (.slice (if cap = 1 then some ⟨b, off, none⟩ else some ⟨b, off + 2, none⟩) (nl - 1) (cap - 1))).setCell ⟨Jb, k * 2 + 1, none⟩ (.slice none 0 0)).heap.size) := Lib.hid HG5.out.bel.size
          have HO5 : Hid (Own .i64 ((wr.setCell ⟨Jb, k * 2, none⟩ (.slice (if cap = 1 then some ⟨b, off, none⟩ else some ⟨b, off + 2, none⟩) (nl - 1) (cap - 1))).setCell ⟨Jb, k * 2 + 1, none⟩ (.slice none 0 0)) W.heap.size 3 r1 s.D) := Lib.hid (by rw [← HR1.out]; exact HG5.out.r.own 1 (by omega))
          have HKK : Hid (∀ v3 w3, Own .i64 w3 W.heap.size 3 v3 (s.D ++ [(k : Int)]) → (((wr.setCell ⟨Jb, k * 2, none⟩ (.slice (if cap = 1 then some ⟨b, off, none⟩ else some ⟨b, off + 2, none⟩) (nl - 1) (cap - 1))).setCell ⟨Jb, k * 2 + 1, none⟩ (.slice none 0 0)).alloc (.cells #[.int .i64 k] 3)).grownBy w3 r1.ownBlock →
              (v3.ownBlock = r1.ownBlock ∨ ∃ r, v3.ownBlock = some r ∧ (((wr.setCell ⟨Jb, k * 2, none⟩ (.slice (if cap = 1 then some ⟨b, off, none⟩ else some ⟨b, off + 2, none⟩) (nl - 1) (cap - 1))).setCell ⟨Jb, k * 2 + 1, none⟩ (.slice none 0 0)).alloc (.cells #[.int .i64 k] 3)).heap.size ≤ r) →
              Hid (∃ vl' R', Gm W G Jb n o (w3.setCell ⟨G, 2, none⟩ v3) (stepF o s k) vl' R') ∧ Hid (w3.cell? ⟨G, 2, none⟩ = some r1 ∧ w3.frozen? ⟨G, 2, none⟩ = false)) := Lib.hid (fun v3 w3 hO3 hg3 hl3 => by
            generalize (wr.setCell ⟨Jb, k * 2, none⟩ (.slice (if cap = 1 then some ⟨b, off, none⟩ else some ⟨b, off + 2, none⟩) (nl - 1) (cap - 1))).setCell ⟨Jb, k * 2 + 1, none⟩ (.slice none 0 0) = w5 at HG5 hg3 hl3
            have hg4 : w5.grownBy w3 (upd R' (k + 2) (.slice none 0 0) 1).ownBlock := by rw [HR1.out]; exact (World.grownBy_alloc w5 _ _).trans hg3
            have hC := HG5.out.c.grown hg4 (HG5.out.r.away 1 (by omega)).1 (HG5.out.r.away 1 (by omega)).2
            refine ⟨?_, ⟨by rw [← HR1.out]; exact hC.r 1 (by omega), hC.fG 2⟩⟩
            rw [HS.out]
            refine ⟨_, _, HG5.out.did k (by unfold I; omega) (Below.refl _ _) v3 hO3 hg4 ?_⟩
            rw [HR1.out]
            rcases hl3 with h | ⟨r, h1, h2⟩
            · exact .inl h
            · exact .inr ⟨r, h1, by simp at h2; omega⟩)
          clear hG hR hall hHne hLne hc HR HG1 f4 hnl
          go_wp2_with (at_builtin; go_loud (refine wpList_append_one rfl (.tmp 96) (.tmp 98) 22 rfl W.heap.size 3 Try.underlying22 ints_info (by decide) r1 (by simp [Act.eval]) s.D (HO5.out.alloc _) k wr.heap.size 1 (by simp [Act.eval]) HQ.out (by have := HD.out; omega) (by have := HSZ.out; rw [heap_size_alloc]; omega) ?_); intro v3 w3 hO3 hg3 hl3; obtain ⟨HT, HD0⟩ := HKK.out v3 w3 hO3 hg3 hl3; obtain ⟨d0, e0⟩ := HD0.out; obtain ⟨a3, c3, hv3⟩ := own_shape hO3; clear hO3 hg3 hl3; generalize (s.D ++ [(k : Int)]).length = n3 at hv3; subst hv3)
          all_goals exact bodyPost_end (results_none rfl _ _ _) rfl ⟨rfl, HT.out⟩
  · have hd1 : (lock == -1) = false := by simp [hw]
    have hd2 : (lock != -1) = true := by simp [hw]
    go_enter Try.func36, Try.ntmps36
    go_wp2
    refine wp_scope_then 0 rfl ?_
    go_wp2_with fail
    go_quiet_grown (first | (go_at_call 41; refine Calls.grown_of (hcg _ _)))
    have HG1 := Lib.hid (HG.out.grow (Gr.below ⟨nq, osq, rfl⟩))
    generalize grow (w.drewN nq) osq = w1 at HG1 ⊢
    clear hcg f0 f1 f2 l0 l1 g1 g3
    go_wp2_with fail
    go_step3
    refine And.intro rfl ?_
    have c0 : w1.cell? ⟨G, 0, none⟩ = some (R 0) := HG1.out.c.r 0 (by omega)
    obtain ⟨r0, hr0⟩ : ∃ r0, R 0 = r0 := ⟨_, rfl⟩
    rw [hr0] at c0
    have HI0 : Hid (Ints .i64 w1 r0 s.b) := Lib.hid (by rw [← hr0]; exact HG1.out.ints (i := 0) (by omega))
    clear hr0
    go_wp2_with fail
    refine (take_any HI0.out (by have := HG1.out.good.b.1; omega) lock k).mono ?_
    rintro e w2 ⟨⟨vb, rfl, hO⟩, hb2⟩
    have HO := Lib.hid hO
    have HB2 := Lib.hid hb2
    obtain ⟨ab, cb, hvb⟩ := own_shape hO
    generalize (takeL s.b lock k).length = nb at hvb
    subst hvb
    obtain ⟨vb, hvb⟩ : ∃ vb, Value.slice ab nb cb = vb := ⟨_, rfl⟩
    rw [hvb] at HO
    have HVB := Lib.hid hvb
    clear hO hb2
    by_cases hE : takeE s.b lock k = 0
    · rw [hE]
      have HT : Hid (takeL s.b lock k = s.b.set lock.toNat k) := Lib.hid (by unfold takeL; rw [if_pos hE])
      rw [HT.out] at HO
      have HE := Lib.hid hE
      have HOa : Hid (Own .i64 (w2.alloc (.cells #[vb] 24)) w1.heap.size 3 vb (s.b.set lock.toNat k)) := Lib.hid (HO.out.alloc _)
      have HB3 : Hid (Below w1.heap.size w1 (w2.alloc (.cells #[vb] 24))) := Lib.hid (HB2.out.alloc HB2.out.size _)
      have c1 := (at_new w2 (.slice ab nb cb) 24).1
      rw [← hvb] at HOa HB3 HO
      have HLW : Hid (w1.heap.size ≤ w2.heap.size) := Lib.hid HB2.out.size
      clear c0 hE hvb
      have HFR : Hid (∀ r, (Value.slice ab nb cb).ownBlock = some r → w1.heap.size ≤ r) := Lib.hid (fun r hr => HO.out.lt r hr)
      have HC4 := Lib.hid (HG1.out.grow HB3.out)
      have hl4 : (w2.alloc (.cells #[.slice ab nb cb] 24)).cell? ⟨Jb, k * 2 + 1, none⟩ = some rk := by rw [← HRK.out]; exact HC4.out.c.r (k + 2) (by omega)
      clear HO HB2
      go_wp2_with fail
      obtain ⟨q2, hq2⟩ : ∃ q2, w2.heap.size = q2 := ⟨_, rfl⟩
      rw [hq2] at c1 HLW ⊢
      generalize w2.alloc (.cells #[.slice ab nb cb] 24) = w4 at HOa HB3 c1 HC4 hl4 ⊢
      clear hq2
      have HLH : Hid ((s.h k).length ≤ 2) := Lib.hid (HG1.out.good.h k).2
      have HS4 : Hid (W.heap.size ≤ w4.heap.size) := Lib.hid HC4.out.bel.size
      have HRO : Hid (Own .i64 w4 W.heap.size 3 rk (s.h k)) := Lib.hid (by rw [← HRK.out]; exact HC4.out.r.own (k + 2) (by omega))
      have HC1 := Lib.hid c1
      have hl5 := (Gr.alloc w4 (.cells #[.int .i64 lock] 3)).cell hl4
      have c5 := (Gr.alloc w4 (.cells #[.int .i64 lock] 3)).cell c1
      have HK : Hid (∀ v3 w3, Own .i64 w3 W.heap.size 3 v3 (s.h k ++ [lock]) → (w4.alloc (.cells #[.int .i64 lock] 3)).grownBy w3 rk.ownBlock → (v3.ownBlock = rk.ownBlock ∨ ∃ r, v3.ownBlock = some r ∧ (w4.alloc (.cells #[.int .i64 lock] 3)).heap.size ≤ r) →
          Hid ((∃ vl' R', Gm W G Jb n o ((w3.setCell ⟨G, 0, none⟩ (.slice ab nb cb)).setCell ⟨Jb, k * 2 + 1, none⟩ v3) (stepF o s k) vl' R') ∧ (∃ vl' R', Gm W G Jb n o ((w3.setCell ⟨Jb, k * 2 + 1, none⟩ v3).setCell ⟨G, 0, none⟩ (.slice ab nb cb)) (stepF o s k) vl' R')) ∧
          Hid (w3.cell? ⟨G, 0, none⟩ = some (R 0) ∧ w3.frozen? ⟨G, 0, none⟩ = false) ∧ Hid (w3.cell? ⟨Jb, k * 2 + 1, none⟩ = some rk ∧ w3.frozen? ⟨Jb, k * 2 + 1, none⟩ = false) ∧ Hid (w3.cell? ⟨q2, 0, none⟩ = some (.slice ab nb cb))) := Lib.hid (fun v3 w3 hO3 hg3 hl3 => by
        have hg4 : w4.grownBy w3 (R (k + 2)).ownBlock := by rw [HRK.out]; exact (World.grownBy_alloc w4 _ _).trans hg3
        have hC := HC4.out.c.grown hg4 (HG1.out.r.away (k + 2) (by omega)).1 (HG1.out.r.away (k + 2) (by omega)).2
        refine ⟨HG1.out.take hk HL.out hw HE.out HB3.out _ (HOa.out.mono HG1.out.bel.size) HFR.out v3 hO3 hg4 ?_, ⟨hC.r 0 (by omega), hC.fG 0⟩, ⟨by rw [← HRK.out]; exact hC.r (k + 2) (by omega), hC.fJ _⟩, ?_⟩
        rotate_left
        · refine (World.cell?_of_block (w := w4) (hg4.block q2 (World.block_lt_of_cell? w4 ⟨q2, 0, none⟩ HC1.out) (fun e => ?_))).trans HC1.out
          have := (World.ownsRow.lt (HG1.out.r.own (k + 2) (by omega)) q2 e.symm).2
          have := HLW.out
          omega
        rw [HRK.out]
        rcases hl3 with h | ⟨r, h1, h2⟩
        · exact .inl h
        · exact .inr ⟨r, h1, by simp at h2; omega⟩)
      go_region_law (refine step_append_one rfl (.tmp 50) (.tmp 52) 22 rfl W.heap.size 3 Try.underlying22 ints_info (by decide) rk (by simp [Act.eval]) (s.h k) (HRO.out.alloc _) lock w4.heap.size 1 (by simp [Act.eval]) (at_new w4 (.int .i64 lock) 3).1 (by have := HLH.out; omega) (by have := HS4.out; show W.heap.size ≤ (w4.alloc _).heap.size; simp; omega) ?_; intro v3 w3 hO3 hg3 hl3; obtain ⟨HT, HD0, HD1, HD2⟩ := HK.out v3 w3 hO3 ⟨hg3.os, hg3.tape, hg3.output, hg3.size, hg3.block⟩ hl3; obtain ⟨d0, e0⟩ := HD0.out; obtain ⟨d1, e1⟩ := HD1.out; have d2 := HD2.out; obtain ⟨a3, c3, hv3⟩ := own_shape hO3; clear hO3 hg3 hl3; generalize (s.h k ++ [lock]).length = n3 at hv3; subst hv3)
      all_goals (
        go_wp2
        rw [Exit.noGoto_ret]
        refine bodyPost_ret (results_none rfl _ _ _) rfl ⟨rfl, ?_⟩
        first | exact HT.out.1 | exact HT.out.2)
    · have hd3 : (takeE s.b lock k == 0) = false := by simp [hE]
      have HS : Hid (stepF o s k = s) := Lib.hid (by unfold stepF; rw [HL.out, if_pos hw, if_neg hE])
      rw [HS.out]
      generalize takeE s.b lock k = E at hE hd3 ⊢
      have HGr : Hid (Gm W G Jb n o (w2.alloc (.cells #[vb] 24)) s vl R) := Lib.hid (HG1.out.grow (HB2.out.alloc HB2.out.size _))
      rw [← hvb] at HGr
      clear c0 hvb
      go_wp2
      rw [Exit.noGoto_ret]
      refine bodyPost_ret (results_none rfl _ _ _) rfl ⟨rfl, vl, R, by rw [HS.out]; exact HGr.out⟩
end Go.Proofs.Ythbabhmpkniliaa
