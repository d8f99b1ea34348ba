/-
  Contract of locks.Play.
-/
import Derived.Test.YthbabhmpkniliaaLkK
import Derived.Deep.DeepCutAuto
namespace Go.Proofs.Ythbabhmpkniliaa
open Go.RowKit Go.ChangeAt Go.ChangeShapes Go.WideShapes Go.Sort Go.Deep Lk

theorem stepF_D (o : Bool) (s : St) (k : Nat) : (stepF o s k).D.length ≤ s.D.length + 1 := by
  unfold stepF
  split
  · split <;> simp
  · split <;> simp
theorem pickF_D (o : Bool) (s : St) (z : Int) : (pickF o s z).D.length ≤ s.D.length + 1 := by
  unfold pickF
  split
  · exact stepF_D o s _
  · omega
theorem runF_D (o : Bool) : ∀ (zs : List Int) (s : St), (runF o s zs).D.length ≤ s.D.length + zs.length
  | [], s => by simp [runF]
  | z :: zs, s => by
    have h1 := runF_D o zs (pickF o s z)
    have h2 := pickF_D o s z
    show (runF o (pickF o s z) zs).D.length ≤ _
    simp only [List.length_cons]; omega
theorem runF_snoc (o : Bool) (s : St) (zs : List Int) {k : Nat} (hk : k < zs.length) : runF o s (zs.take (k + 1)) = pickF o (runF o s (zs.take k)) (zs.getD k 0) := by
  unfold runF
  rw [List.take_add_one, List.getElem?_eq_getElem hk, List.foldl_append]
  simp [List.getD, hk]

/-- What Play tells. -/
def Played (W : World) (o : Bool) (E : Int) (s : St) (e : Ending) (w' : World) : Prop :=
  (∃ vb vw vd, e = .returned (.tuple #[.agg #[vb], vw, vd, .int .i64 E]) ∧ Ints .i64 w' vb (if E = 0 then s.b else []) ∧ Wts w' vw (if E = 0 then waitF o s else []) ∧ Ints .i64 w' vd (if E = 0 then s.D else [])) ∧ Below W.heap.size W w'
theorem nil_ints (k : IntKind) (w : World) : Ints k w (.slice none 0 0) [] := ⟨none, 0, rfl, Nat.zero_le _, by simp, fun h => absurd rfl h⟩
theorem nil_wts (w : World) : Wts w (.slice none 0 0) [] := ⟨none, 0, rfl, ⟨Nat.le_refl _, Nat.zero_le _⟩, by simp, fun h => absurd rfl h⟩
theorem played_err {W w1 : World} {o : Bool} {E : Int} {s : St} (hE : E ≠ 0) (hb : Below W.heap.size W w1) (e : Ending) (he : e = .returned (.tuple #[.agg #[.slice none 0 0], .slice none 0 0, .slice none 0 0, .int .i64 E])) : Played W o E s e w1 := by
  refine ⟨⟨_, _, _, he, ?_, ?_, ?_⟩, hb⟩
  · rw [if_neg hE]; exact nil_ints _ _
  · rw [if_neg hE]; exact nil_wts _
  · rw [if_neg hE]; exact nil_ints _ _

/-- What is left of a job that has nothing is laid. -/
theorem Gm.lay {W : World} {G Jb n : Nat} {o : Bool} {w : World} {s : St} {vl R : Nat → Value} (h : Gm W G Jb n o w s vl R) {k : Nat} (hk : k < n) (h0 : s.h k = []) (v : Value) (l : List Pr) (hv : Ps W v l) :
    Gm W G Jb n o (w.setCell ⟨Jb, k * 2, none⟩ v) { s with L := s.L.set k l } (upd vl k v) R := by
  have hL : ∀ j, (s.L.set k l).getD j [] = if j = k then l else s.l j := fun j => getD_set_ite _ _ _ _ _ (by rw [h.good.lenL]; exact hk)
  refine ⟨h.c.putL hk v, ⟨fun i hi => ?_, h.r.away, h.r.apart⟩, fun i hi => ?_, h.bel.setCell (p := ⟨Jb, k * 2, none⟩) h.hB.2 v, h.hB, h.n64, ⟨h.good.b, by rw [List.length_set]; exact h.good.lenL, h.good.lenH, fun j => ?_, h.good.h, h.good.d, fun j => ?_⟩⟩
  · have := (h.r.setc (a := ⟨Jb, k * 2, none⟩) (.inr rfl) v).own i hi
    match i with
    | 0 => exact this
    | 1 => exact this
    | i + 2 => exact this
  · show Ps W (upd vl k v i) ((s.L.set k l).getD i [])
    rw [hL]
    by_cases e : i = k
    · subst e; rw [upd_same, if_pos rfl]; exact hv
    · rw [upd_ne _ _ e, if_neg e]; exact h.l i hi
  · show ∀ p ∈ (s.L.set k l).getD j [], I p.1 ∧ I p.2
    rw [hL]
    split
    · exact hv.I
    · exact h.good.l j
  · show (s.L.set k l).getD j [] = [] → s.h j = []
    rw [hL]
    split
    · next e => intro _; rw [e]; exact h0
    · exact h.good.nz j
/-- Of the first k jobs what is left is laid. -/
def layL (js : List (List Pr)) (k : Nat) : List (List Pr) := js.take k ++ (js.drop k).map (fun _ => [])
theorem layL_set (js : List (List Pr)) {k : Nat} (hk : k < js.length) : (layL js k).set k (js.getD k []) = layL js (k + 1) := by
  have h1 : (js.take k).length = k := by rw [List.length_take]; omega
  have h2 : js.drop k = js.getD k [] :: js.drop (k + 1) := by rw [List.drop_eq_getElem_cons hk]; simp [List.getD, hk]
  have h3 : js.take (k + 1) = js.take k ++ [js.getD k []] := by rw [List.take_add_one, List.getElem?_eq_getElem hk]; simp [List.getD, hk]
  unfold layL
  rw [List.set_append_right _ _ (by rw [h1]; exact Nat.le_refl _), h1, Nat.sub_self, h2, h3, List.map_cons, List.set_cons_zero, List.append_assoc]
  rfl
theorem layL_all (js : List (List Pr)) : layL js js.length = js := by simp [layL]
theorem layL_none (js : List (List Pr)) : layL js 0 = js.map (fun _ => []) := by simp [layL]
theorem info_job : (Try.prog.info? 70).map (fun i => (i.zero, i.size, i.bytes)) = some (some (.agg #[.slice none 0 0, .slice none 0 0]), 2, 48) := by kernel_rfl
theorem newL_good (n : Int) : (newL n).length ≤ 65 ∧ ∀ z ∈ newL n, I z := by
  unfold newL
  split
  · next h =>
    have h2 : ¬ (n < 0 ∨ 65 < n) := by intro e; unfold newE at h; rw [if_pos e] at h; exact absurd h (by decide)
    refine ⟨by simp; omega, fun z hz => ?_⟩
    have := List.eq_of_mem_replicate hz
    subst this; unfold I; omega
  · exact ⟨by simp, fun z hz => by simp at hz⟩
theorem st0_h (n : Int) (js : List (List Pr)) (k : Nat) : (st0 n js).h k = [] := by
  unfold st0 St.h
  simp only [List.getD, List.getElem?_map]
  cases js[k]? <;> rfl

/-- The beginning of a game, no job laid yet. -/
theorem Gm.start {W w : World} {G Jb : Nat} {o : Bool} {n : Int} {js : List (List Pr)} (hm : js.length ≤ 64) {vb : Value} (hne : G ≠ Jb) (hG : W.heap.size ≤ G) (hJ : W.heap.size ≤ Jb) (bG : w.heap[G]? = some (.cells #[vb, .slice (some ⟨Jb, 0, none⟩) js.length js.length, .slice none 0 0, .bool o] 68))
    (bJ : w.heap[Jb]? = some (.cells (madeCells #[.slice none 0 0, .slice none 0 0] (js.length * 2)) 70)) (hO : Own .i64 w W.heap.size 3 vb (newL n)) (h1 : vb.ownBlock ≠ some G) (h2 : vb.ownBlock ≠ some Jb) (hb : Below W.heap.size W w) :
    Gm W G Jb js.length o w { (st0 n js) with L := layL js 0 } (fun _ => .slice none 0 0) (upd (fun _ => .slice none 0 0) 0 vb) := by
  have cJ : ∀ p, p < js.length * 2 → w.cell? ⟨Jb, p, none⟩ = some (.slice none 0 0) := fun p hp => by
    simp only [World.cell?, bJ]
    have : (madeCells #[Value.slice none 0 0, .slice none 0 0] (js.length * 2))[p]? = some (.slice none 0 0) := by
      rcases (show p % 2 = 0 ∨ p % 2 = 1 by omega) with e | e <;> simp [madeCells, hp, e]
    exact this
  have l0 : ∀ k, ({ (st0 n js) with L := layL js 0 } : St).l k = [] := fun k => by
    show (layL js 0).getD k [] = []
    rw [layL_none]
    simp only [List.getD, List.getElem?_map]
    cases js[k]? <;> rfl
  refine ⟨⟨(Array.getElem?_eq_some_iff.1 bG).1, (Array.getElem?_eq_some_iff.1 bJ).1, hne, fun i hi => ?_, by simp only [World.cell?, bG]; rfl, by simp only [World.cell?, bG]; rfl, fun i hi => cJ _ (by omega), fun p => by simp only [World.frozen?, bG]; simp, fun p => by simp only [World.frozen?, bJ]; simp⟩,
    ⟨fun i hi => ?_, fun i hi => ?_, fun i j hi hj hij => ?_⟩, fun i hi => ?_, hb, ⟨hG, hJ⟩, hm, ⟨newL_good n, by show (layL js 0).length = _; rw [layL_none, List.length_map], by show ((js.map fun _ => ([] : List Int))).length = _; rw [List.length_map], fun k => ?_, fun k => ?_, fun z hz => ?_, fun k _ => st0_h n js k⟩⟩
  · match i with
    | 0 => rw [upd_same]; show w.cell? ⟨G, 0, none⟩ = _; simp only [World.cell?, bG]; rfl
    | 1 => rw [upd_ne _ _ (by omega)]; show w.cell? ⟨G, 2, none⟩ = _; simp only [World.cell?, bG]; rfl
    | i + 2 => rw [upd_ne _ _ (by omega)]; exact cJ _ (by omega)
  · match i with
    | 0 => rw [upd_same]; exact hO
    | 1 => rw [upd_ne _ _ (by omega)]; exact Own.nil _ _ _ _
    | i + 2 => rw [upd_ne _ _ (by omega)]; show Own .i64 w W.heap.size 3 _ ((st0 n js).h i); rw [st0_h]; exact Own.nil _ _ _ _
  · by_cases e : i = 0
    · subst e; rw [upd_same]; exact ⟨h1, h2⟩
    · rw [upd_ne _ _ e]; simp [Value.ownBlock]
  · by_cases e : i = 0
    · subst e; rw [upd_same, upd_ne _ _ (fun e => hij e.symm)]; cases vb.ownBlock <;> simp [Value.ownBlock]
    · rw [upd_ne _ _ e]; exact .inl rfl
  · rw [l0]; exact ⟨none, 0, rfl, ⟨Nat.le_refl _, Nat.zero_le _⟩, by simp, fun h => absurd rfl h⟩
  · rw [l0]; simp
  · show (∀ z ∈ (st0 n js).h k, I z) ∧ ((st0 n js).h k).length ≤ 2
    rw [st0_h]; simp
  · simp [st0] at hz

theorem two_blocks (w : World) (a b : Obj) : ((w.alloc a).alloc b).heap[w.heap.size]? = some a ∧ ((w.alloc a).alloc b).heap[w.heap.size + 1]? = some b := by
  have h1 := heap_alloc_new (w.alloc a) b
  rw [heap_size_alloc] at h1
  refine ⟨?_, h1⟩
  rw [Below.heap_alloc _ _ _ (by rw [heap_size_alloc]; omega)]
  exact heap_alloc_new w a
set_option maxHeartbeats 4000000 in
set_option maxRecDepth 100000 in
theorem Play_any {W : World} {n : Int} {vj vp : Value} {js : List (List Pr)} {o : Bool} {ps : List Int} (hj : Jbs W vj js) (hp : Ints .i64 W vp ps) (hps : ps.length ≤ 20000) :
    Calls Try.prog 23 #[.int .i64 n, vj, .bool o, vp] W (Played W o (playE n js) (playS n js o ps)) := by
  obtain ⟨aj, capj, rfl, hjc⟩ := hj.parts
  obtain ⟨ap, capp, rfl⟩ := ints_shape hp
  have HJ := Lib.hid hj
  have HP := Lib.hid hp
  have HJC := Lib.hid hjc
  obtain ⟨W1, hW1⟩ : ∃ W1, W.alloc (.cells #[.slice none 0 0] 24) = W1 := ⟨_, rfl⟩
  have HB1 : Hid (Below W.heap.size W W1) := Lib.hid (by rw [← hW1]; exact (Below.refl _ _).alloc (Nat.le_refl _) _)
  have HR1 : Hid (W1.cell? ⟨W.heap.size, 0, none⟩ = some (.slice none 0 0) ∧ W1.frozen? ⟨W.heap.size, 0, none⟩ = false) := Lib.hid (by rw [← hW1]; exact at_new W _ _)
  have HS1 : Hid (W1.heap.size = W.heap.size + 1) := Lib.hid (by rw [← hW1]; simp)
  clear hj hp hjc
  by_cases hE : newE n = 0
  · have HE : Hid (playE n js = mayF (newL n) js) := Lib.hid (by unfold playE; rw [if_neg (fun h => h hE)])
    rw [HE.out]
    have HN := new_any n W1
    rw [hE] at HN
    replace HN := Lib.hid HN
    clear HE hE
    by_cases hM : mayF (newL n) js = 0
    · have HMM := Lib.hid hM
      rw [hM]
      have hjs : js.length ≤ 64 := by
        unfold mayF at hM
        split at hM
        · exact absurd hM (by decide)
        · omega
      go_enter Try.func23, Try.ntmps23
      go_wp2_with fail
      refine HN.out.mono ?_
      rintro e w2 ⟨⟨vb, rfl, hO⟩, hb2⟩
      have HO := Lib.hid hO
      obtain ⟨ab, cb, hvb⟩ := own_shape hO
      generalize hnb : (newL n).length = nb at hvb
      subst hvb
      clear hO
      have HNB : Hid (nb ≤ 65) := Lib.hid (by rw [← hnb]; exact (newL_good n).1)
      clear hnb hM
      have HB3 : Hid (Below W1.heap.size W1 (w2.alloc (.cells #[.slice ab nb cb] 24))) := Lib.hid (hb2.alloc hb2.size _)
      have HV : Hid (∀ r, (Value.slice ab nb cb).ownBlock = some r → r < w2.heap.size) := Lib.hid (fun r hr => (World.ownsRow.lt HO.out r hr).2)
      have c1 := (at_new w2 (.slice ab nb cb) 24).1
      have HO3 : Hid (Own .i64 (w2.alloc (.cells #[.slice ab nb cb] 24)) W1.heap.size 3 (.slice ab nb cb) (newL n)) := Lib.hid (HO.out.alloc _)
      have HLT : Hid (w2.heap.size < (w2.alloc (.cells #[.slice ab nb cb] 24)).heap.size) := Lib.hid (by simp)
      clear hb2 hW1 HN HO
      go_wp2_with fail
      obtain ⟨q2, hq2⟩ : ∃ q2, w2.heap.size = q2 := ⟨_, rfl⟩
      rw [hq2] at c1 HV HLT ⊢
      generalize w2.alloc (.cells #[.slice ab nb cb] 24) = w4 at HB3 c1 HO3 HLT ⊢
      clear hq2
      have HC4 := Lib.hid c1
      have HI4 : Hid (Ints .i64 w4 (.slice ab nb cb) (newL n)) := Lib.hid (HO3.out.ints (fun z hz => i64_wf ((newL_good n).2 z hz)))
      have HMP := Lib.hid (mayPlay_any HI4.out (HJ.out.below (bOn HB1.out HB3.out)) (HP.out.below (bOn HB1.out HB3.out)) hps)
      rw [HMM.out] at HMP
      refine HMP.out.mono ?_
      rintro e w5 ⟨rfl, hb5⟩
      have c5 : w5.cell? ⟨q2, 0, none⟩ = some (.slice ab nb cb) := (hb5.cell (World.block_lt_of_cell? w4 _ HC4.out)).trans HC4.out
      have HB5 : Hid (Below W1.heap.size W1 w5) := Lib.hid (HB3.out.trans (hb5.mono HB3.out.size))
      have HO5 : Hid (Own .i64 w5 W1.heap.size 3 (.slice ab nb cb) (newL n)) := Lib.hid (HO3.out.below hb5)
      have HQ : Hid (q2 < w5.heap.size) := Lib.hid (Nat.lt_of_lt_of_le HLT.out hb5.size)
      obtain ⟨i, hi, hz, hs1, hs2⟩ := info_parts info_job
      have hmk : ∀ w : World, (Instr.makeSlice 66 (.int .i64 js.length) (.int .i64 js.length)).run Try.prog w = .ok (.slice (some ⟨w.heap.size, 0, none⟩) js.length js.length) (w.alloc (.cells (madeCells #[.slice none 0 0, .slice none 0 0] (js.length * 2)) 70)) := fun w => by
        have := run_make w 66 70 i _ Try.underlying66 hi hz .i64 .i64 js.length js.length (by omega) (by omega) (by rw [hs2]; omega) (by omega)
        rw [hs1, Int.toNat_natCast] at this
        exact this
      have c5a := (Gr.alloc w5 (.cells (madeCells #[.slice none 0 0, .slice none 0 0] (js.length * 2)) 70)).cell c5
      have c5b := (Gr.alloc w5 (.cells #[.slice none 0 0, .slice none 0 0, .slice none 0 0, .bool false] 68)).cell c5
      have c5c := (Gr.alloc _ (.cells #[.slice none 0 0, .slice none 0 0, .slice none 0 0, .bool false] 68)).cell c5a
      have c5d := (Gr.alloc _ (.cells (madeCells #[.slice none 0 0, .slice none 0 0] (js.length * 2)) 70)).cell c5b
      have hjs2 : Hid (js.length ≤ 64) := Lib.hid hjs
      have HVB : Hid (∀ r, (Value.slice ab nb cb).ownBlock = some r → r < w5.heap.size) := Lib.hid (fun r hr => Nat.lt_trans (HV.out r hr) HQ.out)
      have HSZ : Hid (W1.heap.size ≤ w5.heap.size) := Lib.hid HB5.out.size
      clear hi hz hs1 hs2 i hb5 c1 HMP
      go_wp2_with fail
      go_cut [14] (fun p wx => ∃ (G Jb : Nat) (R : Nat → Value), p = .pointer (some ⟨G, 0, none⟩) ∧ Hid (Gm W1 G Jb js.length o wx { (st0 n js) with L := layL js 0 } (fun _ => .slice none 0 0) R))
      case first =>
        go_region
        all_goals
          clear c5 c5a c5b c5c c5d
          go_wp2_with fail
          go_meet
          first
            | (refine ⟨w5.heap.size + 1, w5.heap.size, _, rfl, Lib.hid (Gm.start hjs2.out (by omega) (by have := HSZ.out; omega) HSZ.out (two_blocks w5 _ _).2 (two_blocks w5 _ _).1 ((HO5.out.alloc _).alloc _) (by intro e; have := HVB.out _ e; omega) (by intro e; have := HVB.out _ e; omega) (((HB5.out.alloc HSZ.out _).alloc (by have := HSZ.out; rw [heap_size_alloc]; omega) _).drew))⟩)
            | (refine ⟨w5.heap.size, w5.heap.size + 1, _, rfl, Lib.hid (Gm.start hjs2.out (by omega) HSZ.out (by have := HSZ.out; omega) (two_blocks w5 _ _).1 (two_blocks w5 _ _).2 ((HO5.out.alloc _).alloc _) (by intro e; have := HVB.out _ e; omega) (by intro e; have := HVB.out _ e; omega) (((HB5.out.alloc HSZ.out _).alloc (by have := HSZ.out; rw [heap_size_alloc]; omega) _).drew))⟩)
      case rest =>
        obtain ⟨G, Jb, R, rfl, HC⟩ := hcut
        clear c5 c5a c5b c5c c5d hmk HO5 HB5 HVB HSZ HQ HV HO3 HB3 HI4 HC4 HLT
        go_wp2
        go_loopw [42] (fun u wr => ∃ i : Nat, i ≤ js.length ∧ u = .int .i64 i ∧ Hid (∃ vl, Gm W1 G Jb js.length o wr { (st0 n js) with L := layL js i } vl R)) (fun u _ => js.length - (intOf u).toNat)
        case atStart => exact ⟨0, by omega, rfl, Lib.hid ⟨_, HC.out⟩⟩
        case round =>
          obtain ⟨i, hi, rfl, HR⟩ := hrel
          by_cases hlt : i < js.length
          · obtain ⟨vl, hG⟩ := HR.out
            obtain ⟨b, off, rfl, hbl, hcs⟩ : ∃ b off, aj = some ⟨b, off, none⟩ ∧ b < W.heap.size ∧ ∀ i, i < js.length → ∃ u, W.cell? ⟨b, off + i, none⟩ = some u ∧ Ps W u (js.getD i []) := by
              rcases HJC.out with h | h
              · rw [h] at hlt; simp at hlt
              · exact h
            obtain ⟨u, hu, hpu⟩ := hcs i hlt
            have hu1 : wr.cell? ⟨b, off + i, none⟩ = some u := ((bOn HB1.out hG.bel).cell (p := ⟨b, off + i, none⟩) hbl).trans hu
            have HPU := Lib.hid (hpu.below HB1.out)
            obtain ⟨a1, n1, c1, e1⟩ := ps_shape hpu
            subst e1
            have HGL := Lib.hid (hG.lay hlt (st0_h n js i) _ _ HPU.out)
            have g1 := hG.c.g1
            have l0 := hG.c.l i hlt
            have f0 := hG.c.fJ (i * 2)
            generalize vl i = x0 at l0
            clear hG hcs hu hpu HC
            go_wp2
            refine ⟨⟨i + 1, by omega, by go_num, Lib.hid ⟨upd vl i (.slice a1 n1 c1), ?_⟩⟩, by simp [intOf]; omega⟩
            have := HGL.out
            rw [layL_set js hlt] at this
            exact this
          · obtain rfl : i = js.length := by omega
            have HR2 : Hid (∃ vl R, Gm W1 G Jb js.length o wr (st0 n js) vl R) := Lib.hid (by
              obtain ⟨vl, hG⟩ := HR.out
              rw [layL_all] at hG
              exact ⟨vl, R, hG⟩)
            clear HC
            go_wp2
            go_loopw [56] (fun u wr => ∃ i : Nat, i ≤ ps.length ∧ u = .int .i64 i ∧ Hid (∃ vl R, Gm W1 G Jb js.length o wr (runF o (st0 n js) (ps.take i)) vl R)) (fun u _ => ps.length - (intOf u).toNat)
            case atStart => exact ⟨0, by omega, rfl, Lib.hid (by rw [List.take_zero]; exact HR2.out)⟩
            case round =>
              obtain ⟨i, hi, rfl, HX⟩ := hrel
              by_cases hlp : i < ps.length
              · obtain ⟨vl, R2, hG⟩ := HX.out
                have hx : ∃ b off, ap = some ⟨b, off, none⟩ ∧ wr.cell? ⟨b, off + i, none⟩ = some (.int .i64 (ps.getD i 0)) := by
                  rcases HP.out.parts with ⟨h0, -⟩ | ⟨-, -, b, off, cap, e, hbl, hc⟩
                  · rw [h0] at hlp; simp at hlp
                  · simp only [Value.slice.injEq] at e
                    exact ⟨b, off, e.1, ((bOn HB1.out hG.bel).cell (p := ⟨b, off + i, none⟩) hbl).trans (hc i hlp)⟩
                obtain ⟨b, off, rfl, hc⟩ := hx
                have HSN := Lib.hid (runF_snoc o (st0 n js) ps hlp)
                have hD := runF_D o (ps.take i) (st0 n js)
                have hD0 : (st0 n js).D.length = 0 := rfl
                rw [hD0, List.length_take] at hD
                generalize runF o (st0 n js) (ps.take i) = s1 at hG HSN hD
                generalize ps.getD i 0 = z at hc HSN
                have HGG := Lib.hid hG
                have HDD : Hid (s1.D.length ≤ 100000) := Lib.hid (by omega)
                have HLN : Hid (s1.L.length = js.length) := Lib.hid hG.good.lenL
                clear hG hD hD0 HX HR2 HR
                by_cases h0 : 0 ≤ z
                · obtain ⟨k, rfl⟩ : ∃ k : Nat, z = k := ⟨z.toNat, by omega⟩
                  have hd1 : decide ((k : Int) ≥ 0) = true := decide_eq_true h0
                  by_cases h1 : k < js.length
                  · have HE : Hid (pickF o s1 k = stepF o s1 k) := Lib.hid (by unfold pickF; rw [if_pos (by rw [HLN.out]; omega)]; rfl)
                    have hd2 : decide ((k : Int) < (js.length : Int)) = true := decide_eq_true (by omega)
                    go_wp2_with fail
                    refine (step_any HGG.out h1 HDD.out).mono ?_
                    rintro e w6 ⟨rfl, hG6⟩
                    have HG6 := Lib.hid hG6
                    clear hG6
                    go_wp2
                    exact ⟨⟨i + 1, by omega, by go_num, Lib.hid (by rw [HSN.out, HE.out]; exact HG6.out)⟩, by simp [intOf]; omega⟩
                  · have HE : Hid (pickF o s1 k = s1) := Lib.hid (by unfold pickF; rw [if_neg (by rw [HLN.out]; omega)])
                    have hd2 : decide ((k : Int) < (js.length : Int)) = false := decide_eq_false (by omega)
                    go_wp2
                    exact ⟨⟨i + 1, by omega, by go_num, Lib.hid (by rw [HSN.out, HE.out]; exact ⟨_, _, HGG.out⟩)⟩, by simp [intOf]; omega⟩
                · have HE : Hid (pickF o s1 z = s1) := Lib.hid (by unfold pickF; rw [if_neg (by omega)])
                  have hd1 : decide (z ≥ 0) = false := decide_eq_false (by omega)
                  go_wp2
                  exact ⟨⟨i + 1, by omega, by go_num, Lib.hid (by rw [HSN.out, HE.out]; exact ⟨_, _, HGG.out⟩)⟩, by simp [intOf]; omega⟩
              · obtain rfl : i = ps.length := by omega
                obtain ⟨vl, R2, hG⟩ := HX.out
                rw [List.take_length] at hG
                have HF : Hid (runF o (st0 n js) ps = playS n js o ps) := Lib.hid rfl
                rw [HF.out] at hG
                generalize playS n js o ps = s1 at hG HF
                have HGG := Lib.hid hG
                obtain ⟨a0, c0, e0⟩ := ints_shape (hG.ints (i := 0) (by omega))
                obtain ⟨n0, hn0⟩ : ∃ n0, (rowL s1 0).length = n0 := ⟨_, rfl⟩
                rw [hn0] at e0
                have l0 : wr.cell? ⟨G, 0, none⟩ = some (.slice a0 n0 c0) := by rw [← e0]; exact hG.c.r 0 (by omega)
                obtain ⟨r1, hr1⟩ : ∃ r1, R2 1 = r1 := ⟨_, rfl⟩
                have l1 : wr.cell? ⟨G, 2, none⟩ = some r1 := by rw [← hr1]; exact hG.c.r 1 (by omega)
                have HE0 := Lib.hid e0
                have HE1 := Lib.hid hr1
                obtain ⟨q1, q2⟩ := cell_kept hG.bel (p := ⟨W.heap.size, 0, none⟩) (by rw [HS1.out]; show W.heap.size < W.heap.size + 1; omega) HR1.out.1 HR1.out.2
                have HLL := Lib.hid (And.intro l0 l1)
                have HQQ := Lib.hid (And.intro q1 q2)
                have HSX : Hid (∀ X, Below wr.heap.size wr X → (X.cell? ⟨G, 0, none⟩ = some (.slice a0 n0 c0) ∧ X.cell? ⟨G, 2, none⟩ = some r1)) := Lib.hid (fun X hX =>
                  ⟨(hX.cell (World.block_lt_of_cell? wr _ HLL.out.1)).trans HLL.out.1, (hX.cell (World.block_lt_of_cell? wr _ HLL.out.2)).trans HLL.out.2⟩)
                have HGZ : Hid (W.heap.size ≠ G ∧ W.heap.size < wr.heap.size) := Lib.hid (by have := hG.hB.1; have := hG.c.hG; have := HS1.out; omega)
                have HST : Hid (∀ X x, Below wr.heap.size wr X → ((X.setCell ⟨W.heap.size, 0, none⟩ x).cell? ⟨G, 0, none⟩ = some (.slice a0 n0 c0) ∧ (X.setCell ⟨W.heap.size, 0, none⟩ x).cell? ⟨G, 2, none⟩ = some r1)) := Lib.hid (fun X x hX => by
                  rw [cell_far (fun e => HGZ.out.1 e.symm), cell_far (fun e => HGZ.out.1 e.symm)]
                  exact HSX.out X hX)
                have HBZ : Hid (Below wr.heap.size wr wr) := Lib.hid (Below.refl _ _)
                have HBD : Hid (Below wr.heap.size wr wr.drew) := Lib.hid (Below.refl _ _).drew
                have HW0 : Hid (Below W.heap.size W wr) := Lib.hid (bOn HB1.out hG.bel)
                clear hG HX HR2 HR e0 hr1 hn0
                go_wp2_with fail
                go_region_held3 (fun X => X.cell? ⟨G, 0, none⟩ = some (.slice a0 n0 c0) ∧ X.cell? ⟨G, 2, none⟩ = some r1)
                  (first
                    | exact HSX.out _ HBZ.out
                    | exact HSX.out _ HBD.out
                    | exact HSX.out _ HB6.out
                    | exact HST.out _ _ HB6.out
                    | go_keep)
                  (first
                    | (go_at_call 37; refine (waiters_any (HGG.out.grow HBD.out)).mono ?_; rintro e' w6 ⟨⟨v6, rfl, hV⟩, hg6⟩; have HV6 := Lib.hid hV; have HB6 := Lib.hid (HBD.out.trans hg6); obtain ⟨z0, z1⟩ := cell_kept HB6.out (p := ⟨W.heap.size, 0, none⟩) HGZ.out.2 HQQ.out.1 HQQ.out.2))
                have HF6 := Lib.hid (World.cell?_setCell_same' w6 ⟨W.heap.size, 0, none⟩ (.slice a0 n0 c0) (by rw [z0]; rfl))
                clear hV hg6 z0 z1 q1 q2
                go_wp2
                have hY : Ab W1.heap.size w6 (w6.setCell ⟨W.heap.size, 0, none⟩ (.slice a0 n0 c0)) := Ab.set _ _ (by rw [HS1.out]; show W.heap.size < W.heap.size + 1; omega) _
                have hG6 := HGG.out.grow HB6.out
                refine bodyPost_ret (v := .tuple #[.agg #[.slice a0 n0 c0], v6, r1, .int .i64 0]) (by simp [results, Try.results23, go_sem, HF6.out]) rfl ⟨⟨_, _, _, rfl, ?_, ?_, ?_⟩, (bOn HW0.out HB6.out).setCell (Nat.le_refl _) _⟩
                · rw [if_pos rfl, show playS n js o ps = s1 from HF.out]
                  have := ((hG6.r.own 0 (by omega)).ab hY).ints (fun z hz => i64_wf (hG6.rowI 0 z hz))
                  rw [HE0.out] at this
                  exact this
                · rw [if_pos rfl, show playS n js o ps = s1 from HF.out]
                  exact HV6.out _ hY
                · rw [if_pos rfl, show playS n js o ps = s1 from HF.out]
                  have := ((hG6.r.own 1 (by omega)).ab hY).ints (fun z hz => i64_wf (hG6.rowI 1 z hz))
                  rw [HE1.out] at this
                  exact this
    · have hps' := hps
      obtain ⟨E, hEE⟩ : ∃ E, mayF (newL n) js = E := ⟨_, rfl⟩
      rw [hEE] at hM ⊢
      have hd : (E == 0) = false := by simp [hM]
      have hd2 : (E != 0) = true := by simp [hM]
      have HNE := Lib.hid hM
      have HEE := Lib.hid hEE
      clear hM hEE
      go_enter Try.func23, Try.ntmps23
      go_wp2_with fail
      refine HN.out.mono ?_
      rintro e w2 ⟨⟨vb, rfl, hO⟩, hb2⟩
      have HO := Lib.hid hO
      obtain ⟨ab, cb, hvb⟩ := own_shape hO
      generalize (newL n).length = nb at hvb
      subst hvb
      clear hO
      have HB3 : Hid (Below W1.heap.size W1 (w2.alloc (.cells #[.slice ab nb cb] 24))) := Lib.hid (hb2.alloc hb2.size _)
      have c1 := (at_new w2 (.slice ab nb cb) 24).1
      have HO3 : Hid (Own .i64 (w2.alloc (.cells #[.slice ab nb cb] 24)) W1.heap.size 3 (.slice ab nb cb) (newL n)) := Lib.hid (HO.out.alloc _)
      clear hb2 hW1 HN HO
      go_wp2_with fail
      obtain ⟨q2, hq2⟩ : ∃ q2, w2.heap.size = q2 := ⟨_, rfl⟩
      rw [hq2] at c1 ⊢
      generalize w2.alloc (.cells #[.slice ab nb cb] 24) = w4 at HB3 c1 HO3 ⊢
      clear hq2
      have HI4 : Hid (Ints .i64 w4 (.slice ab nb cb) (newL n)) := Lib.hid (HO3.out.ints (fun z hz => i64_wf ((newL_good n).2 z hz)))
      have HMP := mayPlay_any HI4.out (HJ.out.below (bOn HB1.out HB3.out)) (HP.out.below (bOn HB1.out HB3.out)) hps
      rw [HEE.out] at HMP
      replace HMP := Lib.hid HMP
      refine HMP.out.mono ?_
      rintro e w5 ⟨rfl, hb5⟩
      have HB5 : Hid (Below W1.heap.size W1 w5) := Lib.hid (HB3.out.trans (hb5.mono HB3.out.size))
      obtain ⟨r1, r2⟩ := cell_kept HB5.out (p := ⟨W.heap.size, 0, none⟩) (by rw [HS1.out]; show W.heap.size < W.heap.size + 1; omega) HR1.out.1 HR1.out.2
      have HF := Lib.hid (World.cell?_setCell_same' w5 ⟨W.heap.size, 0, none⟩ (.slice none 0 0) (by rw [r1]; rfl))
      clear hb5 HMP c1
      go_wp2
      exact bodyPost_ret (v := .tuple #[.agg #[.slice none 0 0], .slice none 0 0, .slice none 0 0, .int .i64 E]) (by simp [results, Try.results23, go_sem, HF.out]) rfl (played_err HNE.out ((bOn HB1.out HB5.out).setCell (Nat.le_refl _) _) _ rfl)
  · have HE : Hid (playE n js = newE n) := Lib.hid (by unfold playE; rw [if_pos hE])
    rw [HE.out]
    have HL : Hid (newL n = []) := Lib.hid (by unfold newL; rw [if_neg hE])
    have HN := new_any n W1
    rw [HL.out] at HN
    generalize newE n = E at hE HN ⊢
    replace HN := Lib.hid HN
    have hd : (E == 0) = false := by simp [hE]
    have hd2 : (E != 0) = true := by simp [hE]
    have HNE := Lib.hid hE
    clear HE HL
    go_enter Try.func23, Try.ntmps23
    go_wp2_with fail
    refine HN.out.mono ?_
    rintro e w2 ⟨⟨vb, rfl, hO⟩, hb2⟩
    obtain ⟨ab, cb, hvb⟩ := own_shape hO
    subst hvb
    clear hO
    have HB3 : Hid (Below W1.heap.size W1 (w2.alloc (.cells #[.slice ab 0 cb] 24))) := Lib.hid (hb2.alloc hb2.size _)
    obtain ⟨r1, r2⟩ := cell_kept HB3.out (p := ⟨W.heap.size, 0, none⟩) (by rw [HS1.out]; show W.heap.size < W.heap.size + 1; omega) HR1.out.1 HR1.out.2
    have HF := Lib.hid (World.cell?_setCell_same' _ _ (.slice none 0 0) (by rw [r1]; rfl))
    clear hb2 hW1
    go_wp2
    exact bodyPost_ret (v := .tuple #[.agg #[.slice none 0 0], .slice none 0 0, .slice none 0 0, .int .i64 E]) (by simp [results, Try.results23, go_sem, HF.out]) rfl (played_err HNE.out ((bOn HB1.out HB3.out).setCell (Nat.le_refl _) _) _ rfl)
end Go.Proofs.Ythbabhmpkniliaa
