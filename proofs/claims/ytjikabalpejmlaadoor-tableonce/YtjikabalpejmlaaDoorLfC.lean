/-
  Contracts of life's step, Next, May, Settled and Awake, of every argument in its kind's bounds.
-/
import Derived.Test.YtjikabalpejmlaaDoorLfB
import Derived.Laws.EntriesVeiled
namespace Go.Proofs.YtjikabalpejmlaaDoor
open Go.RowKit Go.Joins Go.Maps Pk Lf

theorem wpList_look_yes {w : World} {ops : Array Oper} {rest : List Oper} {o : Oper} {a : Act} {Q : Exit → Act → World → Prop} (hg : o.guard = none) (m x : Operand) (hop : o.op = Op.lookup 100 m x true)
    (b i : Nat) (hi : i < 16) (f f' : Nat) (tk : Int) (hf : ofF i = f) (hf' : chF i = f') (ht : toK i = tk) (hm : a.eval m = .map (some b)) (hx : a.eval x = .int .i64 i) (hS : Sofar w b 16)
    (hK : ∀ n, OfAt w i n → wpList Tryd.prog ops Q rest (a.put o.dst (.tuple #[.agg #[.func (.func f) #[] #[.pointer (some ⟨n, 0, none⟩)], .int .i64 tk, .func (.func f') #[] #[]], .bool true])) w) : wpList Tryd.prog ops Q (o :: rest) a w := by
  subst hf hf' ht
  obtain ⟨k, D, -, ho, h1, -⟩ := hS
  obtain ⟨n, hat, hh, hO⟩ := h1 i hi
  refine wpList_lookup_own_ok w hg m x _ hop 3 111 key_law Tryd.underlying100 asIs (zero_rule w) (.held zeroRule) [] rfl b k D hm ho _ (.int .i64 i) hx (keyOf_int_mk Tryd.underlying3 (small_wf hi)) ?_
  intro v ps hv
  rw [hat] at hv
  obtain rfl := asIs_inv hv
  rw [hh]
  exact hK n hO
theorem wpList_look_no {w : World} {ops : Array Oper} {rest : List Oper} {o : Oper} {a : Act} {Q : Exit → Act → World → Prop} (hg : o.guard = none) (m x : Operand) (hop : o.op = Op.lookup 100 m x true)
    (b : Nat) (z : Int) (hz : z < 0 ∨ 16 ≤ z) (hw : (Lit.int .i64 z).wf = true) (hm : a.eval m = .map (some b)) (hx : a.eval x = .int .i64 z) (hS : Sofar w b 16)
    (hK : wpList Tryd.prog ops Q rest (a.put o.dst (.tuple #[.agg #[.nilFunc, .int .i64 0, .nilFunc], .bool false])) w) : wpList Tryd.prog ops Q (o :: rest) a w := by
  obtain ⟨k, D, -, ho, -, h2⟩ := hS
  have hh := h2 z hz
  refine wpList_lookup_own_ok w hg m x _ hop 3 111 key_law Tryd.underlying100 asIs (zero_rule w) (.held zeroRule) [] rfl b k D hm ho _ (.int .i64 z) hx (keyOf_int_mk Tryd.underlying3 hw) ?_
  intro v ps hv
  rw [atKey_of_not_has hh] at hv
  obtain rfl := asIs_inv hv
  rw [hh]
  exact hK

/-- The block n holds a rule. -/
def Ru (W : World) (n f m : Nat) (tk : Int) (f' : Nat) : Prop := W.heap[n]? = some (.cells #[.func (.func f) #[] #[.pointer (some ⟨m, 0, none⟩)], .int .i64 tk, .func (.func f') #[] #[]] 111 (0, 0))
theorem Ru.below {W W' : World} {B n f m : Nat} {tk : Int} {f' : Nat} (h : Ru W n f m tk f') (hb : Below B W W') (hn : n < B) : Ru W' n f m tk f' := (hb.block n hn).trans h
theorem Ru.lt {W : World} {n f m : Nat} {tk : Int} {f' : Nat} (h : Ru W n f m tk f') : n < W.heap.size := by
  unfold Ru at h
  exact (Array.getElem?_eq_some_iff.1 h).1
theorem Ru.all {W : World} {n f m : Nat} {tk : Int} {f' : Nat} (h : Ru W n f m tk f') :
    W.cell? ⟨n, 0, none⟩ = some (.func (.func f) #[] #[.pointer (some ⟨m, 0, none⟩)]) ∧ W.cell? ⟨n, 1, none⟩ = some (.int .i64 tk) ∧ W.cell? ⟨n, 2, none⟩ = some (.func (.func f') #[] #[]) ∧ n < W.heap.size :=
  ⟨by simpa using cell_of_block h 0, by simpa using cell_of_block h 1, by simpa using cell_of_block h 2, h.lt⟩
theorem Ru.new (W : World) (f m : Nat) (tk : Int) (f' : Nat) : Ru (W.alloc (.cells #[.func (.func f) #[] #[.pointer (some ⟨m, 0, none⟩)], .int .i64 tk, .func (.func f') #[] #[]] 111)) W.heap.size f m tk f' := by
  unfold Ru World.alloc; simp

theorem asks_at (i : Nat) (hi : i < 16) {f : Nat} (hf : ofF i = f) (k c : Int) (b : Bool) (s g : Int) (n : Nat) (w : World) (h : OfAt w i n) {r : Bool} (hr : ofB i k b = r) :
    Calls Tryd.prog f #[.agg #[.int .i64 k, .int .i64 c, .bool b, .int .i64 s, .int .i64 g], .pointer (some ⟨n, 0, none⟩)] w fun e w' => e = .returned (.bool r) ∧ Below w.heap.size w w' := by
  subst hf hr
  exact asks_any i hi k c b s g n w h
theorem changes_at (i : Nat) (hi : i < 16) {f : Nat} (hf : chF i = f) (k c : Int) (b : Bool) (s g cpu : Int) (hs : 0 ≤ s ∧ s ≤ 65535) (hg : 0 ≤ g ∧ g ≤ 4294967295) (w : World) :
    Calls Tryd.prog f #[.agg #[.int .i64 k, .int .i64 c, .bool b, .int .i64 s, .int .i64 g], .int .i64 cpu] w fun e w' => e = .returned (.agg #[.int .i64 k, .int .i64 (chC i c cpu), .bool b, .int .i64 (chS i s), .int .i64 (chG i g)]) ∧ Below w.heap.size w w' := by
  subst hf
  exact changes_any i hi k c b s g cpu hs hg w
theorem fns_of (i : Nat) (hi : i < 16) : ofF i = 86 ∨ ofF i = 84 := by
  unfold ofF; split <;> simp
theorem fns_two (i : Nat) (hi : i < 16) : (ofF i = 86 ∧ chF i = 80) ∨ (ofF i = 84 ∧ chF i = 80) ∨ (ofF i = 84 ∧ chF i = 82) ∨ (ofF i = 84 ∧ chF i = 77) ∨ (ofF i = 84 ∧ chF i = 78) ∨ (ofF i = 84 ∧ chF i = 79) := by
  revert i
  decide

set_option maxHeartbeats 4000000 in
/-- No state's word. -/
theorem step_no (b : Nat) (w ev cpu : Int) (hw : U w) (h : ¬ isW w) (W : World) (hT : Tab W) :
    Calls Tryd.prog 68 #[.map (some b), .int .u64 w, .int .i64 ev, .int .i64 cpu] W fun e w' => e = .returned (.tuple #[.int .u64 0, .int .i64 1]) ∧ Below W.heap.size W w' := by
  have HT := Lib.hid hT
  have HU := Lib.hid hw
  have HE := Lib.hid (un_no h)
  clear hT hw h
  go_enter Tryd.func68, Tryd.ntmps68
  go_wp2_with fail
  refine (unpack_any w HU.out _ HT.out).mono ?_
  rintro e' w_h1 ⟨rfl, h1⟩
  rw [HE.out.1, HE.out.2.1, HE.out.2.2.1, HE.out.2.2.2.1, HE.out.2.2.2.2.1, HE.out.2.2.2.2.2]
  have H1 := Lib.hid h1
  clear h1 HE
  go_wp2
  go_ret2
  exact ⟨rfl, by have hB := H1.out; have hz := hB.size; go_grown⟩

set_option maxHeartbeats 4000000 in
/-- No event. -/
theorem step_none (b : Nat) (w ev cpu : Int) (hw : U w) (h : isW w) (he : ev < 0 ∨ 16 ≤ ev) (hwf : (Lit.int .i64 ev).wf = true) (W : World) (hT : Tab W) (hS : Sofar W b 16) :
    Calls Tryd.prog 68 #[.map (some b), .int .u64 w, .int .i64 ev, .int .i64 cpu] W fun e w' => e = .returned (.tuple #[.int .u64 0, .int .i64 1]) ∧ Below W.heap.size W w' := by
  have HT := Lib.hid hT
  have HU := Lib.hid hw
  have HE := Lib.hid (un_yes h)
  have HX := Lib.hid he
  have HW := Lib.hid hwf
  have HS := Lib.hid hS
  clear hT hw h he hwf hS
  go_enter Tryd.func68, Tryd.ntmps68
  go_wp2_with fail
  refine (unpack_any w HU.out _ HT.out).mono ?_
  rintro e' w_h1 ⟨rfl, h1⟩
  rw [HE.out.1, HE.out.2.1, HE.out.2.2.1, HE.out.2.2.2.1, HE.out.2.2.2.2.1, HE.out.2.2.2.2.2]
  have H1 := Lib.hid h1
  clear h1 HE
  generalize K w = k
  generalize C w = c
  generalize B w = bb
  generalize S w = s
  generalize G w = g
  have HS1 := Lib.hid ((HS.out.below H1.out).below (Below.alloc (Below.refl _ _) (Nat.le_refl _) (.cells #[.int .i64 k, .int .i64 c, .bool bb, .int .i64 s, .int .i64 g] 79)))
  go_wp2_with (at_lookup; go_loud (refine wpList_look_no rfl (.tmp 23) (.tmp 24) rfl b ev HX.out HW.out rfl rfl HS1.out ?_))
  go_ret2
  exact ⟨rfl, by have hB := H1.out; have hz := hB.size; go_grown⟩

set_option maxHeartbeats 4000000 in
/-- No CPU. -/
theorem step_cpu (b : Nat) (w : Int) (i : Nat) (hi : i < 16) (cpu : Int) (hw : U w) (h : isW w) (hc : cpu < 0 ∨ 63 < cpu) (W : World) (hT : Tab W) (hS : Sofar W b 16) :
    Calls Tryd.prog 68 #[.map (some b), .int .u64 w, .int .i64 (i : Int), .int .i64 cpu] W fun e w' => e = .returned (.tuple #[.int .u64 0, .int .i64 1]) ∧ Below W.heap.size W w' := by
  obtain ⟨f, hf⟩ : ∃ f, ofF i = f := ⟨_, rfl⟩
  obtain ⟨f', hf'⟩ : ∃ f', chF i = f' := ⟨_, rfl⟩
  have HQ := Lib.hid hf
  have HQ' := Lib.hid hf'
  clear hf hf'
  have HT := Lib.hid hT
  have HU := Lib.hid hw
  have HE := Lib.hid (un_yes h)
  have HS := Lib.hid hS
  clear hT hw h hS
  obtain ⟨tk, htk⟩ : ∃ tk, toK i = tk := ⟨_, rfl⟩
  have HK := Lib.hid htk
  clear htk
  go_enter Tryd.func68, Tryd.ntmps68
  go_wp2_with fail
  refine (unpack_any w HU.out _ HT.out).mono ?_
  rintro e' w_h1 ⟨rfl, h1⟩
  rw [HE.out.1, HE.out.2.1, HE.out.2.2.1, HE.out.2.2.2.1, HE.out.2.2.2.2.1, HE.out.2.2.2.2.2]
  have H1 := Lib.hid h1
  clear h1 HE
  generalize K w = k at *
  generalize C w = c at *
  generalize B w = bb at *
  generalize S w = s at *
  generalize G w = g at *
  have HS1 := Lib.hid ((HS.out.below H1.out).below (Below.alloc (Below.refl _ _) (Nat.le_refl _) (.cells #[.int .i64 k, .int .i64 c, .bool bb, .int .i64 s, .int .i64 g] 79)))
  rcases hc with hc | hc
  all_goals
    go_wp2_with (first | (at_lookup; go_loud (refine wpList_look_yes rfl (.tmp 23) (.tmp 24) rfl b i hi f f' tk HQ.out HQ'.out HK.out rfl rfl HS1.out ?_); intro n hO; have HO := Lib.hid hO; clear hO) | fail)
    go_ret2
    exact ⟨rfl, by have hB := H1.out; have hz := hB.size; go_grown⟩

set_option maxHeartbeats 4000000 in
/-- The event is not of the state. -/
theorem step_order_of (b : Nat) (w : Int) (i : Nat) (hi : i < 16) (cpu : Int) (hw : U w) (h : isW w) (hQ : ofF i = 84) (hc : 0 ≤ cpu ∧ cpu ≤ 63) (ho : ofB i (K w) (B w) = false) (W : World) (hT : Tab W) (hS : Sofar W b 16) :
    Calls Tryd.prog 68 #[.map (some b), .int .u64 w, .int .i64 (i : Int), .int .i64 cpu] W fun e w' => e = .returned (.tuple #[.int .u64 0, .int .i64 4]) ∧ Below W.heap.size W w' := by
  have HF := Lib.hid ho
  have HQ := Lib.hid hQ
  obtain ⟨f', hf'⟩ : ∃ f', chF i = f' := ⟨_, rfl⟩
  have HQ' := Lib.hid hf'
  obtain ⟨c0, c1⟩ := hc
  clear ho hQ hf'
  have HT := Lib.hid hT
  have HU := Lib.hid hw
  have HE := Lib.hid (un_yes h)
  have HS := Lib.hid hS
  clear hT hw h hS
  obtain ⟨tk, htk⟩ : ∃ tk, toK i = tk := ⟨_, rfl⟩
  have HK := Lib.hid htk
  clear htk
  go_enter Tryd.func68, Tryd.ntmps68
  go_wp2_with fail
  refine (unpack_any w HU.out _ HT.out).mono ?_
  rintro e' w_h1 ⟨rfl, h1⟩
  rw [HE.out.1, HE.out.2.1, HE.out.2.2.1, HE.out.2.2.2.1, HE.out.2.2.2.2.1, HE.out.2.2.2.2.2]
  have H1 := Lib.hid h1
  clear h1 HE
  generalize K w = k at *
  generalize C w = c at *
  generalize B w = bb at *
  generalize S w = s at *
  generalize G w = g at *
  have HS1 := Lib.hid ((HS.out.below H1.out).below (Below.alloc (Below.refl _ _) (Nat.le_refl _) (.cells #[.int .i64 k, .int .i64 c, .bool bb, .int .i64 s, .int .i64 g] 79)))
  go_wp2_with (first | (at_lookup; go_loud (refine wpList_look_yes rfl (.tmp 23) (.tmp 24) rfl b i hi 84 f' tk HQ.out HQ'.out HK.out rfl rfl HS1.out ?_); intro n hO; have HO := Lib.hid hO; clear hO) | fail)
  refine (asks_at i hi HQ.out k c bb s g n _ (HO.out.kept (kept_below (Below.alloc (Below.refl _ _) (Nat.le_refl _) _))) HF.out).mono ?_
  rintro e' w2 ⟨rfl, h2⟩
  have H2 : Hid (Below W.heap.size W w2) := Lib.hid (bOn H1.out (bOn (by go_grown) h2))
  have HX : Hid (St w2 w_h1.heap.size k c bb s g) := Lib.hid (((St.new w_h1 k c bb s g).below (Below.alloc (Below.refl _ _) (Nat.le_refl _) _) (by simp)).below h2 (by simp; omega))
  have HR : Hid (Ru w2 (w_h1.heap.size + 1) 84 n tk f') := Lib.hid (by
    have := (Ru.new (w_h1.alloc (.cells #[.int .i64 k, .int .i64 c, .bool bb, .int .i64 s, .int .i64 g] 79)) 84 n tk f').below h2 (by simp)
    rwa [World.size_alloc] at this)
  have HB : Hid (W.heap.size ≤ w_h1.heap.size) := Lib.hid H1.out.size
  clear h2 H1 HO HS1 HF
  obtain ⟨⟨q0, q1, q2, q3, q4⟩, ⟨z0, z1, z2, z3, z4⟩, hq⟩ := HX.out.all
  obtain ⟨r0, r1, r2, hr⟩ := HR.out.all
  have hlt : W.heap.size ≤ w_h1.heap.size := HB.out
  go_wp2
  go_ret2
  exact ⟨rfl, by have hB := H2.out; go_grown⟩

set_option maxHeartbeats 4000000 in
/-- The event is not of the state. -/
theorem step_order_bl (b : Nat) (w : Int) (i : Nat) (hi : i < 16) (cpu : Int) (hw : U w) (h : isW w) (hQ : ofF i = 86) (hc : 0 ≤ cpu ∧ cpu ≤ 63) (ho : ofB i (K w) (B w) = false) (W : World) (hT : Tab W) (hS : Sofar W b 16) :
    Calls Tryd.prog 68 #[.map (some b), .int .u64 w, .int .i64 (i : Int), .int .i64 cpu] W fun e w' => e = .returned (.tuple #[.int .u64 0, .int .i64 4]) ∧ Below W.heap.size W w' := by
  have HF := Lib.hid ho
  have HQ := Lib.hid hQ
  obtain ⟨f', hf'⟩ : ∃ f', chF i = f' := ⟨_, rfl⟩
  have HQ' := Lib.hid hf'
  obtain ⟨c0, c1⟩ := hc
  clear ho hQ hf'
  have HT := Lib.hid hT
  have HU := Lib.hid hw
  have HE := Lib.hid (un_yes h)
  have HS := Lib.hid hS
  clear hT hw h hS
  obtain ⟨tk, htk⟩ : ∃ tk, toK i = tk := ⟨_, rfl⟩
  have HK := Lib.hid htk
  clear htk
  go_enter Tryd.func68, Tryd.ntmps68
  go_wp2_with fail
  refine (unpack_any w HU.out _ HT.out).mono ?_
  rintro e' w_h1 ⟨rfl, h1⟩
  rw [HE.out.1, HE.out.2.1, HE.out.2.2.1, HE.out.2.2.2.1, HE.out.2.2.2.2.1, HE.out.2.2.2.2.2]
  have H1 := Lib.hid h1
  clear h1 HE
  generalize K w = k at *
  generalize C w = c at *
  generalize B w = bb at *
  generalize S w = s at *
  generalize G w = g at *
  have HS1 := Lib.hid ((HS.out.below H1.out).below (Below.alloc (Below.refl _ _) (Nat.le_refl _) (.cells #[.int .i64 k, .int .i64 c, .bool bb, .int .i64 s, .int .i64 g] 79)))
  go_wp2_with (first | (at_lookup; go_loud (refine wpList_look_yes rfl (.tmp 23) (.tmp 24) rfl b i hi 86 f' tk HQ.out HQ'.out HK.out rfl rfl HS1.out ?_); intro n hO; have HO := Lib.hid hO; clear hO) | fail)
  refine (asks_at i hi HQ.out k c bb s g n _ (HO.out.kept (kept_below (Below.alloc (Below.refl _ _) (Nat.le_refl _) _))) HF.out).mono ?_
  rintro e' w2 ⟨rfl, h2⟩
  have H2 : Hid (Below W.heap.size W w2) := Lib.hid (bOn H1.out (bOn (by go_grown) h2))
  have HX : Hid (St w2 w_h1.heap.size k c bb s g) := Lib.hid (((St.new w_h1 k c bb s g).below (Below.alloc (Below.refl _ _) (Nat.le_refl _) _) (by simp)).below h2 (by simp; omega))
  have HR : Hid (Ru w2 (w_h1.heap.size + 1) 86 n tk f') := Lib.hid (by
    have := (Ru.new (w_h1.alloc (.cells #[.int .i64 k, .int .i64 c, .bool bb, .int .i64 s, .int .i64 g] 79)) 86 n tk f').below h2 (by simp)
    rwa [World.size_alloc] at this)
  have HB : Hid (W.heap.size ≤ w_h1.heap.size) := Lib.hid H1.out.size
  clear h2 H1 HO HS1 HF
  obtain ⟨⟨q0, q1, q2, q3, q4⟩, ⟨z0, z1, z2, z3, z4⟩, hq⟩ := HX.out.all
  obtain ⟨r0, r1, r2, hr⟩ := HR.out.all
  have hlt : W.heap.size ≤ w_h1.heap.size := HB.out
  go_wp2
  go_ret2
  exact ⟨rfl, by have hB := H2.out; go_grown⟩

set_option maxHeartbeats 4000000 in
/-- The slot can't be taken once more. -/
theorem step_full (b : Nat) (w : Int) (i : Nat) (hi0 : i = 0) (cpu : Int) (hw : U w) (h : isW w) (hc : 0 ≤ cpu ∧ cpu ≤ 63) (ho : ofB i (K w) (B w) = true) (hg : G w = 4294967295) (W : World) (hT : Tab W) (hS : Sofar W b 16) :
    Calls Tryd.prog 68 #[.map (some b), .int .u64 w, .int .i64 (i : Int), .int .i64 cpu] W fun e w' => e = .returned (.tuple #[.int .u64 0, .int .i64 5]) ∧ Below W.heap.size W w' := by
  have HF := Lib.hid ho
  obtain ⟨c0, c1⟩ := hc
  have hi : i < 16 := by omega
  have HI0 := Lib.hid hi0
  have hQ : ofF i = 84 := by rw [hi0]; rfl
  have HQ := Lib.hid hQ
  obtain ⟨f', hf'⟩ : ∃ f', chF i = f' := ⟨_, rfl⟩
  have HQ' := Lib.hid hf'
  have hi0' : (i : Int) = 0 := by omega
  have hi1 : ((i : Int) == 0) = true := by simpa using hi0'
  have HG := Lib.hid hg
  clear ho hg hQ hf' hi0 hi0'
  have HT := Lib.hid hT
  have HU := Lib.hid hw
  have HE := Lib.hid (un_yes h)
  have HS := Lib.hid hS
  clear hT hw h hS
  obtain ⟨tk, htk⟩ : ∃ tk, toK i = tk := ⟨_, rfl⟩
  have HK := Lib.hid htk
  clear htk
  go_enter Tryd.func68, Tryd.ntmps68
  go_wp2_with fail
  refine (unpack_any w HU.out _ HT.out).mono ?_
  rintro e' w_h1 ⟨rfl, h1⟩
  rw [HE.out.1, HE.out.2.1, HE.out.2.2.1, HE.out.2.2.2.1, HE.out.2.2.2.2.1, HE.out.2.2.2.2.2]
  have H1 := Lib.hid h1
  clear h1 HE
  generalize K w = k at *
  generalize C w = c at *
  generalize B w = bb at *
  generalize S w = s at *
  generalize G w = g at *
  have HS1 := Lib.hid ((HS.out.below H1.out).below (Below.alloc (Below.refl _ _) (Nat.le_refl _) (.cells #[.int .i64 k, .int .i64 c, .bool bb, .int .i64 s, .int .i64 g] 79)))
  go_wp2_with (first | (at_lookup; go_loud (refine wpList_look_yes rfl (.tmp 23) (.tmp 24) rfl b i hi 84 f' tk HQ.out HQ'.out HK.out rfl rfl HS1.out ?_); intro n hO; have HO := Lib.hid hO; clear hO) | fail)
  refine (asks_at i hi HQ.out k c bb s g n _ (HO.out.kept (kept_below (Below.alloc (Below.refl _ _) (Nat.le_refl _) _))) HF.out).mono ?_
  rintro e' w2 ⟨rfl, h2⟩
  have H2 : Hid (Below W.heap.size W w2) := Lib.hid (bOn H1.out (bOn (by go_grown) h2))
  have HX : Hid (St w2 w_h1.heap.size k c bb s g) := Lib.hid (((St.new w_h1 k c bb s g).below (Below.alloc (Below.refl _ _) (Nat.le_refl _) _) (by simp)).below h2 (by simp; omega))
  have HR : Hid (Ru w2 (w_h1.heap.size + 1) 84 n tk f') := Lib.hid (by
    have := (Ru.new (w_h1.alloc (.cells #[.int .i64 k, .int .i64 c, .bool bb, .int .i64 s, .int .i64 g] 79)) 84 n tk f').below h2 (by simp)
    rwa [World.size_alloc] at this)
  have HB : Hid (W.heap.size ≤ w_h1.heap.size) := Lib.hid H1.out.size
  clear h2 H1 HO HS1 HF
  obtain ⟨⟨q0, q1, q2, q3, q4⟩, ⟨z0, z1, z2, z3, z4⟩, hq⟩ := HX.out.all
  obtain ⟨r0, r1, r2, hr⟩ := HR.out.all
  have hlt : W.heap.size ≤ w_h1.heap.size := HB.out
  have hg : (g == 4294967295) = true := by simpa using HG.out
  go_wp2
  go_ret2
  exact ⟨rfl, by have hB := H2.out; go_grown⟩

theorem note_is (i : Nat) : (((i : Nat) : Int) == 8) = chB i := by
  unfold chB
  split
  · rfl
  · rename_i h0
    have : ¬ ((i : Int) = 8) := fun e => h0 (by omega)
    simpa using this
end Go.Proofs.YtjikabalpejmlaaDoor
