/-
  Contracts of layer 5's writing (end, run, Print), and of Parse and Canon.
-/
import Derived.Test.YteklgnmkalippaaDoorCpB
import Derived.Test.YteklgnmkalippaaDoorCpN
import Derived.Test.YteklgnmkalippaaDoorSlT
import Derived.Test.YteklgnmkalippaaDoorMskB
namespace Go.Proofs.YteklgnmkalippaaDoor
open Go.RowKit Go.Shelf Mk Cp
attribute [local go_sem] Oper.semAt_some

theorem run_any (a b : Nat) (ha : a < 64) (hb : b < 64) (w : World) :
    Calls Tryd.prog 21 #[.int .i64 a, .int .i64 b] w fun e w' => e = .returned (.string (st (rnTxt a b))) ∧ w = w' := by
  by_cases h : a = b
  · have H : Hid (rnTxt a b = dg a) := by unfold Hid rnTxt; rw [if_pos h]
    have hq : ((a : Int) == (b : Int)) = true := by rw [h]; simp
    clear h
    go_enter Tryd.func21, Tryd.ntmps21
    go_wp2_with fail
    refine (itoa_any a ha _).mono ?_
    rintro e' w' ⟨rfl, rfl⟩
    go_wp2
    go_ret
    exact ⟨by rw [H.out]; rfl, rfl⟩
  · have hq : ((a : Int) == (b : Int)) = false := by simp; omega
    obtain ⟨x, hx⟩ : ∃ x, x = dg a := ⟨_, rfl⟩
    obtain ⟨y, hy⟩ : ∃ y, y = dg b := ⟨_, rfl⟩
    have H : Hid (rnTxt a b = (x ++ [45]) ++ y) := by unfold Hid rnTxt; rw [if_neg h, hx, hy]; simp
    obtain ⟨n1, s1⟩ : ∃ n, (st x).size = n := ⟨_, rfl⟩
    obtain ⟨n2, s2⟩ : ∃ n, (st y).size = n := ⟨_, rfl⟩
    have s1' : n1 ≤ 2 := by rw [← s1, st_size, hx]; exact (dg_len a).2
    have s2' : n2 ≤ 2 := by rw [← s2, st_size, hy]; exact (dg_len b).2
    have s3 : (st [45]).size = 1 := by rw [st_size]; rfl
    have s4 : (st x ++ st [45]).size = n1 + 1 := by rw [st_add, st_size, List.length_append, ← s1, st_size]; rfl
    have HX := Lib.hid hx
    have HY := Lib.hid hy
    have HE : Hid (st x ++ st [45] ++ st y = st ((x ++ [45]) ++ y)) := by unfold Hid; rw [st_add, st_add]
    clear h hx hy
    go_enter Tryd.func21, Tryd.ntmps21
    go_wp2_with fail
    refine (itoa_any a ha _).mono ?_
    rintro e' w' ⟨rfl, rfl⟩
    rw [← HX.out]
    have e45 : (⟨#[45]⟩ : ByteArray) = st [45] := rfl
    go_wp2_with fail
    clear e45
    refine (itoa_any b hb _).mono ?_
    rintro e' w' ⟨rfl, rfl⟩
    rw [← HY.out]
    go_wp2
    go_ret
    exact ⟨by rw [H.out, ← HE.out]; rfl, rfl⟩

set_option maxHeartbeats 1000000 in
theorem end_any (m c : Nat) (hm : V m) (hc : m.testBit c = true) (w : World) :
    Calls Tryd.prog 20 #[.int .u64 m, .int .i64 c] w fun e w' => e = .returned (.int .i64 (lastOf m c : Nat)) ∧ w = w' := by
  have HV := Lib.hid hm
  have HC := Lib.hid hc
  have hc64 : c < 64 := by
    have := (last_spec hm hc)
    omega
  clear hm hc
  go_enter Tryd.func20, Tryd.ntmps20
  go_wp2
  go_loop [1] (fun i => ∃ k : Nat, c ≤ k ∧ k < 64 ∧ i = .int .i64 k ∧ ∀ j, c ≤ j → j ≤ k → m.testBit j = true) (fun i => 64 - (intOf i).toNat)
  case atStart => exact ⟨c, Nat.le_refl _, hc64, rfl, fun j h1 h2 => by rw [show j = c by omega]; exact HC.out⟩
  case round =>
    obtain ⟨k, hk, hk2, rfl, hj⟩ := hrel
    have HJ := Lib.hid hj
    have e1 : has m ((k : Int) + 1) = m.testBit (k + 1) := by
      have := has_at m (k + 1)
      rwa [Int.natCast_add] at this
    cases hb : m.testBit (k + 1) with
    | true =>
      have HH : Hid (has m ((k : Int) + 1) = true) := by unfold Hid; rw [e1, hb]
      have hk3 : k + 1 < 64 := by
        by_cases h : k + 1 < 64
        · exact h
        · rw [hi_bit HV.out (by omega)] at hb; cases hb
      have HN : Hid (∀ j, c ≤ j → j ≤ k + 1 → m.testBit j = true) := by
        intro j h1 h2
        by_cases h : j = k + 1
        · rw [h]; exact hb
        · exact HJ.out j h1 (by omega)
      clear hj e1 hb
      go_wp2_with fail
      refine (has_any m HV.out ((k : Int) + 1) _).mono ?_
      rintro e' w' ⟨rfl, rfl⟩
      rw [HH.out]
      go_wp2
      exact ⟨⟨k + 1, by omega, by omega, by go_num, HN.out⟩, by simp [intOf]; omega⟩
    | false =>
      have HH : Hid (has m ((k : Int) + 1) = false) := by unfold Hid; rw [e1, hb]
      have HR : Hid (lastOf m c = k) := last_uniq HV.out hk HJ.out hb
      clear hj e1 hb
      go_wp2_with fail
      refine (has_any m HV.out ((k : Int) + 1) _).mono ?_
      rintro e' w' ⟨rfl, rfl⟩
      rw [HH.out]
      go_wp2
      go_ret
      exact ⟨by rw [HR.out]; rfl, rfl⟩

theorem join_any (ts : List (List UInt8)) (B : Nat) (v : Value) (w : World) (h : OwnT w B 9 v ts) (hne : ts ≠ []) (hl : (joinC ts).length ≤ 100000) (hn : ts.length ≤ 100000) :
    Calls Tryd.prog 22 #[v, .string ⟨#[44]⟩] w fun e w' => e = .returned (.string (st (joinC ts))) ∧ Below w.heap.size w w' := by
  obtain ⟨g, cap, rfl, h1, h2, h3⟩ := h.parts hne
  have e1 : (ts.map st).map (·.data.toList) = ts := by
    rw [List.map_map]
    conv => rhs; rw [← List.map_id ts]
    exact List.map_congr_left fun l _ => st_list l
  have e2 : (ts.map st).length = ts.length := List.length_map ..
  have := Any.strings_Join Tryd.lays156 Tryd.Builder_Extra_156 g 0 cap (ts.map st) ⟨#[44]⟩ w (fun j x hx => by
      rw [List.getElem?_map, Option.map_eq_some_iff] at hx
      obtain ⟨q, hq, rfl⟩ := hx
      have hj : j < ts.length := (List.getElem?_eq_some_iff.1 hq).1
      have hcj := h3 j hj
      rw [show ts.getD j [] = q by simp [List.getD, hq]] at hcj
      simpa using hcj) h2 (by omega) (by omega) (by rw [e1]; exact Nat.le_trans hl (by omega))
  rw [e1, e2] at this
  exact this

theorem str_info : (Tryd.prog.info? 9).map (fun i => (i.zero, i.size, i.bytes)) = some (some (.string ⟨#[]⟩), 1, 16) := by kernel_rfl
/-- how many CPUs may still come. -/
def ahead (f ok : Value) : Nat := match ok with
  | .bool true => 64 - (intOf f).toNat
  | _ => 0
/-- where Print stands: at a run that starts at c, those below written; or at the end. -/
def At (m : Nat) (f ok : Value) (ts : List (List UInt8)) : Prop :=
  (∃ c : Nat, c < 64 ∧ f = .int .i64 c ∧ ok = .bool true ∧ starts m c = true ∧ ts = runsTo m c) ∨ (f = .int .i64 0 ∧ ok = .bool false ∧ ts = runsTo m 64)

theorem print_zero (w : World) : Calls Tryd.prog 10 #[.int .u64 0] w fun e w' => e = .returned (.string (st (printL 0))) ∧ Below w.heap.size w w' := by
  go_enter Tryd.func10, Tryd.ntmps10
  go_wp2
  go_ret
  exact ⟨rfl, Below.refl _ _⟩

set_option maxRecDepth 100000 in
set_option maxHeartbeats 4000000 in
theorem print_some (m : Nat) (hm : V m) (h0 : m ≠ 0) (w : World) (hT : Tab w) : Calls Tryd.prog 10 #[.int .u64 m] w fun e w' => e = .returned (.string (st (printL m))) ∧ Below w.heap.size w w' := by
  have hz : ((m : Int) == 0) = false := by simpa using h0
  have HV := Lib.hid hm
  have HT := Lib.hid hT
  have H0 := Lib.hid h0
  clear hm h0 hT
  go_enter Tryd.func10, Tryd.ntmps10
  go_wp2_with fail
  refine (first_any m HV.out _ HT.out).mono ?_
  rintro e' w_b1 ⟨rfl, b1⟩
  have B1 := Lib.hid b1
  obtain ⟨c, t, hct⟩ : ∃ c t, cpus m = c :: t := by
    cases h : cpus m with
    | nil => exact absurd (cpus_nil HV.out h) H0.out
    | cons c t => exact ⟨c, t, rfl⟩
  have HF := Lib.hid (first_run HV.out hct)
  rw [hct]
  have e1 : fstI (c :: t) = (c : Int) := rfl
  have e2 : anyB (c :: t) = true := rfl
  rw [e1, e2]
  clear b1 hct e1 e2
  go_wp2
  go_loopw [3, 4, 5, 6] (fun v _ f ok wr => ∃ ts, At m f ok ts ∧ OwnT wr w.heap.size 9 v ts ∧ Below w.heap.size w wr) (fun _ _ f ok _ => ahead f ok)
  case atStart => exact ⟨[], .inl ⟨c, HF.out.1, rfl, rfl, HF.out.2.1, HF.out.2.2.symm⟩, OwnT.nil _ _ _, B1.out⟩
  case round =>
    obtain ⟨ts, hA, hO, hB⟩ := hrel
    have HO := Lib.hid hO
    have HB := Lib.hid hB
    clear hO hB B1 HF
    rcases hA with ⟨a, ha, rfl, rfl, hs, rfl⟩ | ⟨rfl, rfl, rfl⟩
    · obtain ⟨l1, l2, -⟩ := last_spec HV.out (starts_bit hs)
      obtain ⟨e, he⟩ : ∃ e, e = lastOf m a := ⟨_, rfl⟩
      rw [← he] at l1 l2
      have HE := Lib.hid he
      have HS := Lib.hid hs
      have HL := Lib.hid (runs_le m a (by omega))
      clear hs he
      go_wp2_with fail
      refine (end_any m a HV.out (starts_bit HS.out) _).mono ?_
      rintro e' w' ⟨rfl, rfl⟩
      rw [← HE.out]
      go_wp2_with fail
      refine (run_any a e ha l2 _).mono ?_
      rintro e' w' ⟨rfl, rfl⟩
      go_wp2_with (at_builtin; go_loud (refine wpList_append_text (bytes := 16) (B := w.heap.size) (ts := runsTo m a) rfl (.tmp 24) (.tmp 28) rfl Tryd.underlying37 str_info (by decide) (rnTxt a e) (HO.out.alloc _) _ _ rfl (Boxed.new _ _ _).cell (by have := HL.out; omega) (by have := HB.out.size; simp; omega) ?_); intro v' w2 hown2 hbel2)
      have B2 : Hid (Below w.heap.size w w2) := (HB.out.alloc HB.out.size _).trans hbel2
      have O2 := Lib.hid hown2
      clear hown2 hbel2 HB HO
      go_wp2_with fail
      refine (next_any m HV.out (e : Nat) _ (HT.out.below B2.out)).mono ?_
      rintro e' w_b3 ⟨rfl, b3⟩
      have B3 : Hid (Below w.heap.size w w_b3) := bOn B2.out b3
      have O3 : Hid (OwnT w_b3 w.heap.size 9 v' (runsTo m a ++ [rnTxt a e])) := O2.out.below b3
      clear b3 B2 O2
      cases hn : above m (e : Nat) with
      | nil =>
        have e1 : fstI [] = 0 := rfl
        have e2 : anyB [] = false := rfl
        rw [e1, e2]
        have HR : Hid (runsTo m a ++ [rnTxt a e] = runsTo m 64) := by
          unfold Hid
          rw [HE.out] at hn ⊢
          exact (last_run HV.out HS.out hn).symm
        clear hn e1 e2
        go_wp2
        exact ⟨⟨_, .inr ⟨rfl, rfl, HR.out⟩, O3.out, B3.out⟩, by simp [ahead, intOf]; omega⟩
      | cons d t2 =>
        have e1 : fstI (d :: t2) = (d : Int) := rfl
        have e2 : anyB (d :: t2) = true := rfl
        rw [e1, e2]
        have HR : Hid (d < 64 ∧ a < d ∧ starts m d = true ∧ runsTo m d = runsTo m a ++ [rnTxt a e]) := by
          unfold Hid
          rw [HE.out] at hn ⊢
          exact next_run HV.out HS.out hn
        clear hn e1 e2
        go_wp2
        exact ⟨⟨_, .inl ⟨d, HR.out.1, rfl, rfl, HR.out.2.2.1, HR.out.2.2.2.symm⟩, O3.out, B3.out⟩, by have := HR.out.2.1; simp [ahead, intOf]; omega⟩
    · have HN := Lib.hid (runs_ne HV.out H0.out)
      have HP : Hid (printL m = joinC (runsTo m 64)) := by unfold Hid printL; rw [if_neg H0.out]
      have HL := Lib.hid (print_len HV.out).2
      go_wp2_with fail
      refine (join_any (runsTo m 64) w.heap.size _ _ HO.out HN.out (by rw [← HP.out]; have := HL.out; omega) (by have := runs_le m 64 (by omega); omega)).mono ?_
      rintro e' w_b3 ⟨rfl, b3⟩
      go_wp2
      go_ret
      exact ⟨by rw [HP.out]; rfl, bOn HB.out b3⟩

theorem print_any (m : Nat) (hm : V m) (w : World) (hT : Tab w) : Calls Tryd.prog 10 #[.int .u64 m] w fun e w' => e = .returned (.string (st (printL m))) ∧ Below w.heap.size w w' := by
  by_cases h : m = 0
  · subst h; exact print_zero w
  · exact print_some m hm h w hT

/-! ### Parse, Canon -/
set_option maxHeartbeats 1000000 in
theorem parse_any (l : List UInt8) (hl : l.length ≤ 1000000) (w : World) (hE : Errs w) :
    Calls Tryd.prog 11 #[.string (st l)] w fun e w' => e = .returned (.tuple #[.int .u64 (parseM l : Nat), .int .i64 (parseE l)]) ∧ Below w.heap.size w w' := by
  obtain ⟨n, hn⟩ : ∃ n, n = l.length := ⟨_, rfl⟩
  have hz : (st l).size = n := by rw [st_size, hn]
  have hn2 : n ≤ 1000000 := by omega
  have HE := Lib.hid hE
  have HLL : Hid (l.length ≤ 281474976710656) := by unfold Hid; omega
  clear hE
  by_cases h1 : 1000 < n
  · have H : Hid (parseM l = 0 ∧ parseE l = 2) := by unfold Hid parseM parseE; rw [if_pos (by omega), if_pos (by omega)]; exact ⟨rfl, rfl⟩
    clear hn hl
    go_enter Tryd.func11, Tryd.ntmps11
    go_wp2
    go_ret2
    exact ⟨by rw [H.out.1, H.out.2]; rfl, Below.refl _ _⟩
  · by_cases h2 : l = [45]
    · have H : Hid (parseM l = 0 ∧ parseE l = 0) := by
        have hh : ¬ 1000 < l.length := by omega
        unfold Hid parseM parseE; simp only [if_neg hh, if_pos h2]; exact ⟨trivial, trivial⟩
      have hq : ((st l).toList == [45]) = true := by rw [h2]; exact st_one 45
      clear hn hl h2
      go_enter Tryd.func11, Tryd.ntmps11
      go_wp2
      go_ret2
      exact ⟨by rw [H.out.1, H.out.2]; rfl, Below.refl _ _⟩
    · have H : Hid (parseM l = psI l ∧ parseE l = if psB l then 0 else 3) := by
        have hh : ¬ 1000 < l.length := by omega
        unfold Hid parseM parseE; simp only [if_neg hh, if_neg h2]; exact ⟨rfl, rfl⟩
      have hq := st_one_ne h2
      clear hn hl h2
      go_enter Tryd.func11, Tryd.ntmps11
      go_wp2_with fail
      refine (items_any l HLL.out _ HE.out).mono ?_
      rintro e' w_b1 ⟨rfl, b1⟩
      cases hp : parseI l with
      | none =>
        obtain ⟨e1, e2⟩ := ps_no hp
        rw [e1, e2]
        have H2 : Hid (parseM l = 0 ∧ parseE l = 3) := by unfold Hid; rw [H.out.1, H.out.2, e1, e2]; exact ⟨rfl, rfl⟩
        clear hp e1 e2 H
        go_wp2
        go_ret2
        exact ⟨by rw [H2.out.1, H2.out.2]; rfl, b1⟩
      | some x =>
        obtain ⟨e1, e2⟩ := ps_at hp
        rw [e1, e2]
        have H2 : Hid (parseM l = x ∧ parseE l = 0) := by unfold Hid; rw [H.out.1, H.out.2, e1, e2]; exact ⟨rfl, rfl⟩
        clear hp e1 e2 H
        go_wp2
        go_ret2
        exact ⟨by rw [H2.out.1, H2.out.2]; rfl, b1⟩

/-- Canon's text. -/
def canonL (l : List UInt8) : List UInt8 := if parseE l = 0 then printL (parseM l) else []
set_option maxHeartbeats 1000000 in
theorem canon_any (l : List UInt8) (hl : l.length ≤ 1000000) (w : World) (hE : Errs w) (hT : Tab w) :
    Calls Tryd.prog 15 #[.string (st l)] w fun e w' => e = .returned (.tuple #[.string (st (canonL l)), .int .i64 (parseE l)]) ∧ Below w.heap.size w w' := by
  have HE := Lib.hid hE
  have HT := Lib.hid hT
  clear hE hT
  go_enter Tryd.func15, Tryd.ntmps15
  go_wp2_with fail
  refine (parse_any l hl _ HE.out).mono ?_
  rintro e' w_b1 ⟨rfl, b1⟩
  have T1 := Lib.hid (HT.out.below b1)
  have HV := Lib.hid (V_parseM l)
  by_cases h : parseE l = 0
  · have H : Hid (canonL l = printL (parseM l)) := by unfold Hid canonL; rw [if_pos h]
    rw [h]
    have HZ := Lib.hid h
    clear h hl
    generalize parseM l = m at *
    go_wp2_with fail
    refine (print_any m HV.out _ T1.out).mono ?_
    rintro e' w_b2 ⟨rfl, b2⟩
    go_wp2
    go_ret2
    exact ⟨by rw [H.out, HZ.out]; rfl, bOn b1 b2⟩
  · have H : Hid (canonL l = []) := by unfold Hid canonL; rw [if_neg h]
    obtain ⟨k, hk⟩ : ∃ k, parseE l = k := ⟨_, rfl⟩
    have hq : (k != 0) = true := by rw [← hk]; simpa using h
    rw [hk]
    have HK := Lib.hid hk
    clear h hl hk
    generalize parseM l = m at *
    go_wp2
    go_ret2
    exact ⟨by rw [H.out, HK.out]; rfl, b1⟩
end Go.Proofs.YteklgnmkalippaaDoor
