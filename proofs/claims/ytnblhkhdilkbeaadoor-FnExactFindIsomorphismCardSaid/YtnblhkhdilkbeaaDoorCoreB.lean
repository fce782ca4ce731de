/- Merged: Degree, Edges, Degs, ImplDegrees, Bip, GraphWith, OwnI, L01Copy, EdgeCode, SubdPure, SpecDel, ImplDegrees2, SlDel, ImplDel, ConPure, Prune, ImplDegrees3, Parts, ImplFirsts, Leaf, Without, EdgeEq, ImplCon, Directed, MapB, Steps, Ends (the plain kit of these proofs). -/
import Derived.Test.YtnblhkhdilkbeaaDoorCoreA
import Derived.Laws.AppendOwnNone
import Derived.Deep.RegionLaw
import Derived.Deep.RegionHeld3
import Derived.ChangeKeysEq
import Derived.Maps.OwnOps
import Derived.Maps.OwnSet
import Derived.Maps.Views
import Derived.WideKeyPair
import Derived.DeepKeys4
set_option linter.unusedSimpArgs false
set_option linter.unusedVariables false
/- The degree of a vertex, as the model counts it. -/
namespace Go.Proofs.YtnblhkhdilkbeaaDoor
open Go.RowKit

def one (b : Bool) : Int := if b then 1 else 0
def dg (v : Int) (e : List Int) : Int := one (e.getD 0 0 == v) + one (e.getD 1 0 == v)
def deg (xss : List (List Int)) (v : Int) : Int := (xss.map (dg v)).sum
theorem one_bd (b : Bool) : 0 ≤ one b ∧ one b ≤ 1 := by cases b <;> simp [one]
theorem deg_step {xss : List (List Int)} {k : Nat} (h : k < xss.length) (v : Int) : deg (xss.take (k+1)) v = deg (xss.take k) v + dg v (xss.getD k []) := by
  unfold deg
  rw [List.take_add_one, List.getElem?_eq_getElem h, List.map_append, List.sum_append]
  simp [List.getD, List.getElem?_eq_getElem h]
theorem deg_bd (xss : List (List Int)) (v : Int) : 0 ≤ deg xss v ∧ deg xss v ≤ 2 * xss.length := by
  unfold deg
  induction xss with
  | nil => simp
  | cons e r ih =>
    have h1 := one_bd (e.getD 0 0 == v)
    have h2 := one_bd (e.getD 1 0 == v)
    simp only [List.map_cons, List.sum_cons, List.length_cons]
    have : dg v e = one (e.getD 0 0 == v) + one (e.getD 1 0 == v) := rfl
    omega

theorem grB_iff {s : Int} {xss : List (List Int)} (h : grB s xss = true) : 1 ≤ s ∧ s ≤ 8 ∧ xss.length ≤ 10 ∧ ∀ j, j < xss.length → (xss.getD j []).length = 2 ∧ 0 ≤ (xss.getD j []).getD 0 0 ∧ (xss.getD j []).getD 0 0 < s ∧ 0 ≤ (xss.getD j []).getD 1 0 ∧ (xss.getD j []).getD 1 0 < s := by
  unfold grB at h
  simp only [Bool.and_eq_true, decide_eq_true_eq, List.all_eq_true] at h
  obtain ⟨h1, h2, h3, h4⟩ := h
  refine ⟨h1, h2, h3, fun j hj => ?_⟩
  have := h4 _ (List.getElem_mem hj)
  have e : xss.getD j [] = xss[j] := by simp [List.getD, List.getElem?_eq_getElem hj]
  rw [e]
  simp only [edgeOk, inR, Bool.and_eq_true, decide_eq_true_eq] at this
  omega

set_option maxHeartbeats 1600000 in
theorem degree_ne (n b off cap : Nat) (s v : Int) (xss : List (List Int)) {lo hi : Nat} (w : World) (hn : n ≤ 10) (hx : xss.length = n) (h2 : ∀ j, j < n → (xss.getD j []).length = 2)
    (hc : ∀ j, j < n → ∃ rv, w.cell? ⟨b, off + j, none⟩ = some rv ∧ RdI lo hi w rv (xss.getD j [])) :
    Calls Tryd.prog 56 #[.agg #[.int .i64 s, .slice (some ⟨b, off, none⟩) n cap], .int .i64 v] w fun e w' => e = .returned (.int .i64 (deg xss v)) ∧ Below w.heap.size w w' := by
  have hb0 : ∀ o, Below w.heap.size w (w.alloc o) := fun o => (Below.refl _ _).alloc (Nat.le_refl _) o
  have HX := Lib.hid hx
  have HC := Lib.hid hc
  have H2 := Lib.hid h2
  clear hx hc h2
  go_enter Tryd.func56, Tryd.ntmps56
  go_wp2
  go_loopw [5, 6] (fun c i wr => ∃ k : Nat, k ≤ n ∧ i = .int .i64 k ∧ c = .int .i64 (deg (xss.take k) v) ∧ Qt (w.alloc (.cells #[.int .i64 s, .slice (some ⟨b, off, none⟩) n cap] 24)) wr) (fun _ i _ => n - (intOf i).toNat)
  case atStart => exact ⟨0, Nat.zero_le _, rfl, by simp [deg], Qt.refl _⟩
  case round =>
    obtain ⟨k, hk, rfl, rfl, hq⟩ := hrel
    have hb1 := (hb0 (.cells #[.int .i64 s, .slice (some ⟨b, off, none⟩) n cap] 24)).qt hq
    have k2 : wr.cell? ⟨w.heap.size, 1, none⟩ = some (.slice (some ⟨b, off, none⟩) n cap) := hq.cell (by go_simp)
    have HQ := Lib.hid hq
    clear hq
    by_cases hlt : k < n
    · obtain ⟨rv, h1, r1⟩ := HC.out k hlt
      replace h1 := hb1.keep h1
      replace r1 := r1.below hb1
      have hlt' : k < xss.length := by rw [HX.out]; exact hlt
      obtain ⟨b', off', cap', rfl, g1, g2⟩ := r1.two (H2.out k hlt)
      have hst := deg_step hlt' v
      have hbd := deg_bd (xss.take k) v
      have hlk : (xss.take k).length ≤ k := List.length_take_le _ _
      have hdg : dg v (xss.getD k []) = one ((xss.getD k []).getD 0 0 == v) + one ((xss.getD k []).getD 1 0 == v) := rfl
      rw [hdg] at hst
      generalize hx0 : (xss.getD k []).getD 0 0 = x0 at *
      generalize hx1 : (xss.getD k []).getD 1 0 = x1 at *
      generalize hd : deg (xss.take k) v = d at *
      have HST := Lib.hid hst
      have hd2 : d ≤ 20 := by omega
      have hd1 : 0 ≤ d := hbd.1
      have HB := hb1
      clear hx0 hx1 r1 hst hdg hbd hlk hd hb1
      have b1 := one_bd (x0 == v)
      cases e0 : (x0 == v) <;> cases e1 : (x1 == v)
      all_goals
        go_wp2
        refine wp_loop_rounds 3 ?_
        rw [rounds_succ]
        go_wp2
        rw [rounds_succ]
        go_wp2
        rw [rounds_succ]
        go_wp2
      all_goals
        go_roundw
        case rel => exact ⟨k+1, by omega, by go_num, by rw [HST.out, e0, e1]; simp only [one, if_true, if_false, Bool.false_eq_true]; congr 1 <;> omega, HQ.out⟩
        case measure => simp [intOf]; omega
    · go_wp2
      go_ret
      obtain rfl : k = n := by omega
      have e1 : xss.take k = xss := List.take_of_length_le (by rw [HX.out]; exact Nat.le_refl _)
      rw [e1]
      exact ⟨rfl, hb1⟩

theorem degree_nil (a : Option Addr) (c : Nat) (s v : Int) (w : World) :
    Calls Tryd.prog 56 #[.agg #[.int .i64 s, .slice a 0 c], .int .i64 v] w fun e w' => e = .returned (.int .i64 0) ∧ Below w.heap.size w w' := by
  have hb0 : ∀ o, Below w.heap.size w (w.alloc o) := fun o => (Below.refl _ _).alloc (Nat.le_refl _) o
  go_enter Tryd.func56, Tryd.ntmps56
  go_wp2
  refine wp_loop_rounds 1 ?_
  rw [rounds_succ]
  go_wp2
  go_ret
  exact ⟨rfl, hb0 _⟩

theorem l01Degree {lo hi : Nat} (s v : Int) (a : Option Addr) (n c : Nat) (xss : List (List Int)) (w : World) (h : RdR lo hi w (.slice a n c) xss) (hg : grB s xss = true) :
    Calls Tryd.prog 56 #[.agg #[.int .i64 s, .slice a n c], .int .i64 v] w fun e w' => e = .returned (.int .i64 (deg xss v)) ∧ Below w.heap.size w w' := by
  obtain ⟨_, _, h3, h4⟩ := grB_iff hg
  obtain ⟨_, ⟨a', cap, rfl, hv⟩ | ⟨b, off, cap, hv, _, _, _, hc⟩⟩ := h
  · simp only [Value.slice.injEq] at hv
    obtain ⟨_, rfl, _⟩ := hv
    exact degree_nil a c s v w
  · simp only [Value.slice.injEq] at hv
    obtain ⟨rfl, rfl, rfl⟩ := hv
    exact degree_ne _ b off c s v xss w h3 rfl (fun j hj => (h4 j hj).1) hc

end Go.Proofs.YtnblhkhdilkbeaaDoor

/- The program's list of edges as pairs. -/
namespace Go.Proofs.YtnblhkhdilkbeaaDoor
open Go.RowKit

theorem Tryd.info99 : (Tryd.prog.info? 99).map (fun i => (i.zero, i.size, i.bytes)) = some (some (.agg #[.int .i64 0, .int .i64 0]), 2, 16) := by kernel_rfl

/-- the cells of a list of pairs -/
def flat (es : List (Int × Int)) : List Value := es.flatMap (fun e => [.int .i64 e.1, .int .i64 e.2])
def pairs (xss : List (List Int)) : List (Int × Int) := xss.map (fun e => (e.getD 0 0, e.getD 1 0))

theorem arrAt (a : Addr) (c : Nat) (w : World) : Sem.run Tryd.prog (Instr.arrayAt 99 (.slice (some a) 2 c)) w = .ok (.pointer (some a)) w := by kernel_rfl
theorem made2 (n : Nat) : (madeCells #[Value.int .i64 0, Value.int .i64 0] n).toList = List.replicate n (.int .i64 0) := by
  apply List.ext_getElem?
  intro j
  by_cases hj : j < n
  · have : j % 2 = 0 ∨ j % 2 = 1 := by omega
    rcases this with h | h <;> simp [madeCells, hj, h]
  · simp [madeCells, hj]
theorem flat_len (es : List (Int × Int)) : (flat es).length = 2 * es.length := by
  induction es with
  | nil => rfl
  | cons e r ih => simp only [flat, List.flatMap_cons, List.length_append, List.length_cons, List.length_nil] at ih ⊢; omega
theorem flat_snoc (es : List (Int × Int)) (e : Int × Int) : flat (es ++ [e]) = flat es ++ [.int .i64 e.1, .int .i64 e.2] := by simp [flat]
def setE (es : List (Int × Int)) (n : Nat) : List Value := flat es ++ List.replicate (2 * n - 2 * es.length) (.int .i64 0)
theorem setE_zero (n : Nat) : (madeCells #[Value.int .i64 0, Value.int .i64 0] (n * 2)).toList = setE [] n := by
  rw [made2]; simp [setE, flat, Nat.mul_comm]
theorem setE_get (es : List (Int × Int)) (n k i : Nat) (h : es.length = k) (hk : k < n) (hi : i < 2) : (setE es n)[k * 2 + i]? = some (.int .i64 0) := by
  unfold setE
  have := flat_len es
  rw [List.getElem?_append_right (by omega), List.getElem?_replicate, if_pos (by omega)]
theorem setE_step (es : List (Int × Int)) (e : Int × Int) (n k : Nat) (h : es.length = k) (hk : k < n) : ((setE es n).set (k * 2) (.int .i64 e.1)).set (k * 2 + 1) (.int .i64 e.2) = setE (es ++ [e]) n := by
  subst h
  have hl := flat_len es
  have e1 : 2 * n - 2 * es.length = (2 * n - 2 * (es.length + 1)) + 1 + 1 := by omega
  unfold setE
  rw [List.length_append, List.length_singleton, e1, List.replicate_succ, List.replicate_succ, flat_snoc, List.set_append, if_neg (by omega), List.set_append, if_neg (by omega)]
  have e2 : es.length * 2 - (flat es).length = 0 := by omega
  have e3 : es.length * 2 + 1 - (flat es).length = 1 := by omega
  rw [e2, e3]
  simp

theorem edgesOf_ne (n b off cap : Nat) (s : Int) (xss : List (List Int)) {lo hi : Nat} (w : World) (hn : n ≤ 10) (hx : xss.length = n) (h2 : ∀ j, j < n → (xss.getD j []).length = 2)
    (hc : ∀ j, j < n → ∃ rv, w.cell? ⟨b, off + j, none⟩ = some rv ∧ RdI lo hi w rv (xss.getD j [])) :
    Calls Tryd.prog 71 #[.agg #[.int .i64 s, .slice (some ⟨b, off, none⟩) n cap]] w fun e w' => ∃ v, e = .returned v ∧ w'.ownsRow w.heap.size 99 2 v n (flat (pairs xss)) ∧ Below w.heap.size w w' := by
  obtain ⟨i0, hi', z0, z1, z2⟩ := info_parts Tryd.info99
  have hb0 : ∀ o, Below w.heap.size w (w.alloc o) := fun o => (Below.refl _ _).alloc (Nat.le_refl _) o
  have HX := Lib.hid hx
  have HC := Lib.hid hc
  have H2 := Lib.hid h2
  clear hx hc h2
  go_enter Tryd.func71, Tryd.ntmps71
  go_wp2_with (at_make; refine wpList_make_full _ rfl _ _ 96 rfl (w.heap.size + 1) 99 i0 (.agg #[.int .i64 0, .int .i64 0]) 2 Tryd.underlying96 hi' z0 z1 _ _ _ _ n rfl rfl rfl rfl ?c1 ?c2 ?c3 ?_)
  case c1 => rw [z2]; omega
  case c2 => unfold maxLen; omega
  case c3 => simp
  intro w1 hown hgr
  rw [setE_zero n] at hown
  have hbl : Below w.heap.size w w1 := (hb0 _).grown hgr (by simp) (by simp)
  have k2 : w1.cell? ⟨w.heap.size, 1, none⟩ = some (.slice (some ⟨b, off, none⟩) n cap) := hgr.cell (by go_simp) (by simp)
  have hz : w.heap.size + 1 < w1.heap.size := (hown.lt _ rfl).2
  clear hgr
  go_wp2
  go_loopw [13, 4, 5] (fun i _ _ wr => ∃ k : Nat, k ≤ n ∧ i = .int .i64 k ∧ wr.ownsRow (w.heap.size + 1) 99 2 (.slice (some ⟨w.heap.size + 1, 0, none⟩) n n) n (setE ((pairs xss).take k) n) ∧ Below w.heap.size w wr ∧ w.heap.size + 1 < wr.heap.size) (fun i _ _ _ => n - (intOf i).toNat)
  case atStart => exact ⟨0, Nat.zero_le _, rfl, hown, hbl, hz⟩
  case round =>
    clear hown hbl k2 hz
    obtain ⟨k, hk, rfl, hown, hbl, hz⟩ := hrel
    by_cases hlt : k < n
    · obtain ⟨rv, h1, r1⟩ := HC.out k hlt
      replace h1 := hbl.keep h1
      replace r1 := r1.below hbl
      have hlt' : k < xss.length := by rw [HX.out]; exact hlt
      obtain ⟨b', off', cap', rfl, g1, g2⟩ := r1.two (H2.out k hlt)
      have hlen : ((pairs xss).take k).length = k := by rw [List.length_take, pairs, List.length_map]; omega
      have c0 := (hown.cellAt (k * 2) (by omega)).trans (setE_get _ n k 0 hlen hlt (by omega))
      have c1 := (hown.cellAt (k * 2 + 1) (by omega)).trans (setE_get _ n k 1 hlen hlt (by omega))
      have f0 := hown.frozenAt (k * 2)
      have f1 := hown.frozenAt (k * 2 + 1)
      generalize hx0 : (xss.getD k []).getD 0 0 = x0 at *
      generalize hx1 : (xss.getD k []).getD 1 0 = x1 at *
      have H0 := Lib.hid hx0
      have H1 := Lib.hid hx1
      have HL := Lib.hid hlen
      have hat := arrAt ⟨b', off', none⟩ cap'
      clear hx0 hx1 hlen r1
      go_wp2
      have hst := (hown.stored (k * 2) (.int .i64 x0)).1.stored (k * 2 + 1) (.int .i64 x1)
      have e1 : (pairs xss).take (k+1) = (pairs xss).take k ++ [(x0, x1)] := by
        rw [List.take_add_one, List.getElem?_eq_getElem (by rw [pairs, List.length_map]; exact hlt')]
        simp only [pairs, List.getElem_map, ← H0.out, ← H1.out]
        simp [List.getD, List.getElem?_eq_getElem hlt']
      go_roundw
      case rel =>
        refine ⟨k+1, by omega, by go_num, ?_, (hbl.setCell (by simp) _).setCell (by simp) _, by simp [World.setCell]; exact hz⟩
        rw [e1, ← setE_step _ (x0, x1) n k HL.out hlt]
        exact hst.1
      case measure => simp [intOf]; omega
    · go_wp2
      go_ret
      obtain rfl : k = n := by omega
      have e1 : setE ((pairs xss).take k) k = flat (pairs xss) := by
        have : (pairs xss).length = k := by rw [pairs, List.length_map]; exact HX.out
        rw [List.take_of_length_le (by omega)]
        simp [setE, this]
      rw [e1] at hown
      exact ⟨_, rfl, ownsRow_mono hown (Nat.le_succ _), hbl⟩

end Go.Proofs.YtnblhkhdilkbeaaDoor

/- The degrees of a graph, as a list. -/
namespace Go.Proofs.YtnblhkhdilkbeaaDoor
open Go.RowKit

def degs (s : Int) (xss : List (List Int)) : List Int := (List.range s.toNat).map (fun v : Nat => deg xss (v : Int))
def degsTo (k : Nat) (xss : List (List Int)) : List Value := (List.range k).map (fun v : Nat => Value.int .i64 (deg xss (v : Int)))
theorem degsTo_step (k : Nat) (xss : List (List Int)) : degsTo (k+1) xss = degsTo k xss ++ [.int .i64 (deg xss (k : Int))] := by simp [degsTo, List.range_succ]
theorem degsTo_all (s : Int) (xss : List (List Int)) : degsTo s.toNat xss = (degs s xss).map (Value.int .i64) := by simp [degsTo, degs]
def degreesOf (s : Int) (xss : List (List Int)) : List Int × Int := if grB s xss then (degs s xss, 0) else ([], 1)

theorem degs_I64 {s : Int} {xss : List (List Int)} (h : xss.length ≤ 10) : ∀ x ∈ degs s xss, I64 x := by
  intro x hx
  simp only [degs, List.mem_map, List.mem_range] at hx
  obtain ⟨v, _, rfl⟩ := hx
  have := deg_bd xss (v : Int)
  unfold I64; omega

theorem OwI.nil (lo hi : Nat) (w : World) : OwI lo hi w (.slice none 0 0) [] :=
  ⟨by simp, by simp, World.ownsRow_nil _ _ _ _, fun k hk => by simp [Value.ownBlock] at hk⟩

end Go.Proofs.YtnblhkhdilkbeaaDoor

/- DegreesOf of the program. -/
namespace Go.Proofs.YtnblhkhdilkbeaaDoor
open Go.RowKit

theorem edgesOf_nil (a : Option Addr) (c : Nat) (s : Int) (w : World) :
    Calls Tryd.prog 71 #[.agg #[.int .i64 s, .slice a 0 c]] w fun e w' => ∃ v, e = .returned v ∧ w'.ownsRow w.heap.size 99 2 v 0 [] ∧ Below w.heap.size w w' := by
  obtain ⟨i0, hi', z0, z1, z2⟩ := info_parts Tryd.info99
  have hb0 : ∀ o, Below w.heap.size w (w.alloc o) := fun o => (Below.refl _ _).alloc (Nat.le_refl _) o
  go_enter Tryd.func71, Tryd.ntmps71
  go_wp2_with (at_make; refine wpList_make_full _ rfl _ _ 96 rfl (w.heap.size + 1) 99 i0 (.agg #[.int .i64 0, .int .i64 0]) 2 Tryd.underlying96 hi' z0 z1 _ _ _ _ 0 rfl rfl rfl rfl ?c1 ?c2 ?c3 ?_)
  case c1 => omega
  case c2 => unfold maxLen; omega
  case c3 => simp
  intro w1 hown hgr
  rw [setE_zero 0] at hown
  have hbl : Below w.heap.size w w1 := (hb0 _).grown hgr (by simp) (by simp)
  have k2 : w1.cell? ⟨w.heap.size, 1, none⟩ = some (.slice a 0 c) := hgr.cell (by go_simp) (by simp)
  clear hgr
  go_wp2
  refine wp_loop_rounds 1 ?_
  rw [rounds_succ]
  go_wp2
  go_ret
  exact ⟨_, rfl, ownsRow_mono hown (Nat.le_succ _), hbl⟩

theorem edgesOf {lo hi : Nat} (s : Int) (a : Option Addr) (n c : Nat) (xss : List (List Int)) (w : World) (h : RdR lo hi w (.slice a n c) xss) (hg : grB s xss = true) (hn : xss.length = n) :
    Calls Tryd.prog 71 #[.agg #[.int .i64 s, .slice a n c]] w fun e w' => ∃ a' c', e = .returned (.slice a' n c') ∧ w'.ownsRow w.heap.size 99 2 (.slice a' n c') n (flat (pairs xss)) ∧ Below w.heap.size w w' := by
  obtain ⟨_, _, h3, h4⟩ := grB_iff hg
  have fin : ∀ (e : Ending) (w' : World) v, e = .returned v → w'.ownsRow w.heap.size 99 2 v n (flat (pairs xss)) → Below w.heap.size w w' → ∃ a' c', e = .returned (.slice a' n c') ∧ w'.ownsRow w.heap.size 99 2 (.slice a' n c') n (flat (pairs xss)) ∧ Below w.heap.size w w' := by
    intro e w' v he ho hb
    have ho' := ho
    rcases ho.2 with ⟨hv, h0⟩ | ⟨g, cap, cur, hv, _⟩
    · subst hv; subst h0; exact ⟨none, 0, he, ho', hb⟩
    · subst hv; exact ⟨_, cap, he, ho', hb⟩
  obtain ⟨_, ⟨a', cap, rfl, hv⟩ | ⟨b, off, cap, hv, _, _, _, hc⟩⟩ := h
  · simp only [Value.slice.injEq] at hv
    obtain ⟨_, rfl, _⟩ := hv
    exact (edgesOf_nil a c s w).mono fun e w' ⟨v, he, ho, hb⟩ => fin e w' v he ho hb
  · simp only [Value.slice.injEq] at hv
    obtain ⟨rfl, rfl, rfl⟩ := hv
    exact (edgesOf_ne _ b off c s xss w h3 rfl (fun j hj => (h4 j hj).1) hc).mono fun e w' ⟨v, he, ho, hb⟩ => fin e w' v he ho hb

/-- the k-th pair, among the cells -/
theorem flat_get (xss : List (List Int)) (k : Nat) (hk : k < xss.length) : (flat (pairs xss))[k * 2]? = some (.int .i64 ((xss.getD k []).getD 0 0)) ∧ (flat (pairs xss))[k * 2 + 1]? = some (.int .i64 ((xss.getD k []).getD 1 0)) := by
  induction xss generalizing k with
  | nil => simp at hk
  | cons e r ih =>
    cases k with
    | zero => simp [flat, pairs]
    | succ k =>
      have := ih k (by simpa using hk)
      have e1 : (k + 1) * 2 = k * 2 + 2 := by omega
      rw [e1]
      simpa [flat, pairs] using this

def dgl (m : Nat) (xss : List (List Int)) : List Value := (List.range m).map (fun v : Nat => Value.int .i64 (deg xss (v : Int)))
theorem dgl_zero (m : Nat) : (madeCells #[Value.int .i64 0] m).toList = dgl m [] := by
  rw [toList_madeCells_one]
  unfold dgl
  have : (fun v : Nat => Value.int .i64 (deg [] (v : Int))) = fun _ => Value.int .i64 0 := by funext v; simp [deg]
  rw [this, List.map_const', List.length_range]
theorem dgl_get (m : Nat) (xss : List (List Int)) (i : Nat) (h : i < m) : (dgl m xss)[i]? = some (.int .i64 (deg xss (i : Int))) := by simp [dgl, h]

end Go.Proofs.YtnblhkhdilkbeaaDoor

/- IsBipartite: both try all choices of colours. -/
namespace Go.Proofs.YtnblhkhdilkbeaaDoor
open Go.RowKit

def sb (c x : Int) : Int := bits .and .i64 (c / 2 ^ x.toNat) 1
def sepE (c : Int) (e : List Int) : Bool := !(sb c (e.getD 0 0) == sb c (e.getD 1 0))
def sepB (c : Int) (xss : List (List Int)) : Bool := xss.all (sepE c)
def bipB (m : Nat) (xss : List (List Int)) : Bool := (List.range m).any (fun c : Nat => sepB (c : Int) xss)
def bipartite (s : Int) (xss : List (List Int)) : Bool × Int := if grB s xss then (bipB (2 ^ s.toNat) xss, 0) else (false, 1)

theorem edges_cells {B n c' : Nat} {a' : Option Addr} {w1 : World} {xss : List (List Int)} (ho : w1.ownsRow B 99 2 (.slice a' n c') n (flat (pairs xss))) (hn : xss.length = n) :
    ∀ j, j < n → ∃ b, a' = some ⟨b, 0, none⟩ ∧ w1.cell? ⟨b, j * 2, none⟩ = some (.int .i64 ((xss.getD j []).getD 0 0)) ∧ w1.cell? ⟨b, j * 2 + 1, none⟩ = some (.int .i64 ((xss.getD j []).getD 1 0)) := by
  intro j hj
  obtain ⟨g, cap, hv, _, _⟩ := ho.form (by omega)
  simp only [Value.slice.injEq] at hv
  obtain ⟨rfl, _, rfl⟩ := hv
  obtain ⟨f1, f2⟩ := flat_get xss j (by omega)
  exact ⟨g, rfl, (ho.cellAt (j * 2) (by omega)).trans f1, (ho.cellAt (j * 2 + 1) (by omega)).trans f2⟩

theorem any_not_take {m k : Nat} {f : Nat → Bool} (h : (List.range k).any f = false) (e : f k = false) : (List.range (k+1)).any f = false := by
  rw [List.range_succ, List.any_append, h]; simp [e]
theorem any_yes {m k : Nat} {f : Nat → Bool} (h : k < m) (e : f k = true) : (List.range m).any f = true := by
  rw [List.any_eq_true]; exact ⟨k, List.mem_range.2 h, e⟩
theorem two_pow {s : Int} (h1 : 1 ≤ s) (h2 : s ≤ 8) : ∃ m : Nat, 2 ^ s.toNat = m ∧ m ≤ 256 ∧ wrap64 ((2 : Int) ^ s.toNat) = (m : Int) := by
  obtain ⟨t, rfl⟩ : ∃ t : Nat, s = t := ⟨s.toNat, by omega⟩
  have : t = 1 ∨ t = 2 ∨ t = 3 ∨ t = 4 ∨ t = 5 ∨ t = 6 ∨ t = 7 ∨ t = 8 := by omega
  rcases this with rfl | rfl | rfl | rfl | rfl | rfl | rfl | rfl <;> exact ⟨_, rfl, by decide, by decide +kernel⟩

theorem all_succ {xss : List (List Int)} {k : Nat} {f : List Int → Bool} (hk : k < xss.length) : (xss.take (k+1)).all f = ((xss.take k).all f && f (xss.getD k [])) := by
  rw [List.take_add_one, List.all_append, List.getElem?_eq_getElem hk]
  simp [List.getD, List.getElem?_eq_getElem hk]
theorem all_take_no {xss : List (List Int)} {k : Nat} {f : List Int → Bool} (h : (xss.take k).all f = false) : xss.all f = false := by
  rw [List.all_eq_false] at h ⊢
  obtain ⟨x, hx, e⟩ := h
  exact ⟨x, List.mem_of_mem_take hx, e⟩

end Go.Proofs.YtnblhkhdilkbeaaDoor

/- The program's graph made of pairs. -/
namespace Go.RowKit
theorem Chg.frozen {lo hi : Nat} {w w' : World} (h : Chg lo hi w w') {p : Addr} (hp : p.block < w.heap.size) (ho : p.block < lo ∨ hi ≤ p.block) {b : Bool} (hc : w.frozen? p = b) : w'.frozen? p = b := (World.frozen?_of_block (w := w) (h.block _ hp ho)).trans hc
end Go.RowKit
namespace Go.Proofs.YtnblhkhdilkbeaaDoor
open Go.RowKit

/-- a slice value reads as a list of pairs -/
def RdE (w : World) (a : Option Addr) (es : List (Int × Int)) : Prop :=
  ∀ j, j < es.length → ∃ b, a = some ⟨b, 0, none⟩ ∧ b < w.heap.size ∧ w.cell? ⟨b, j * 2, none⟩ = some (.int .i64 (es.getD j (0, 0)).1) ∧ w.cell? ⟨b, j * 2 + 1, none⟩ = some (.int .i64 (es.getD j (0, 0)).2)
theorem RdE.below {w w' : World} {a : Option Addr} {es : List (Int × Int)} (h : RdE w a es) (hb : Below w.heap.size w w') : RdE w' a es := fun j hj => by
  obtain ⟨b, h1, h2, h3, h4⟩ := h j hj
  exact ⟨b, h1, Nat.lt_of_lt_of_le h2 hb.size, hb.keep h3, hb.keep h4⟩
theorem flat_getE (es : List (Int × Int)) (k : Nat) (hk : k < es.length) : (flat es)[k * 2]? = some (.int .i64 (es.getD k (0, 0)).1) ∧ (flat es)[k * 2 + 1]? = some (.int .i64 (es.getD k (0, 0)).2) := by
  induction es generalizing k with
  | nil => simp at hk
  | cons e r ih =>
    cases k with
    | zero => simp [flat]
    | succ k =>
      have := ih k (by simpa using hk)
      have e1 : (k + 1) * 2 = k * 2 + 2 := by omega
      rw [e1]
      simpa [flat] using this
theorem RdE.mk {B n c : Nat} {a : Option Addr} {w : World} {es : List (Int × Int)} (h : w.ownsRow B 99 2 (.slice a n c) n (flat es)) (hn : es.length = n) : RdE w a es := by
  intro j hj
  obtain ⟨g, cap, hv, _, hg⟩ := h.form (by omega)
  simp only [Value.slice.injEq] at hv
  obtain ⟨rfl, _, rfl⟩ := hv
  obtain ⟨f1, f2⟩ := flat_getE es j hj
  exact ⟨g, rfl, hg, (h.cellAt (j * 2) (by omega)).trans f1, (h.cellAt (j * 2 + 1) (by omega)).trans f2⟩

def unp (es : List (Int × Int)) : List (List Int) := es.map (fun e => [e.1, e.2])
theorem unp_len (es : List (Int × Int)) : (unp es).length = es.length := by simp [unp]
theorem unp_get {es : List (Int × Int)} {k : Nat} (h : k < es.length) : (unp es).getD k [] = [(es.getD k (0, 0)).1, (es.getD k (0, 0)).2] := by
  simp [unp, List.getD, h]

set_option maxHeartbeats 1600000 in
theorem graphWith (s : Int) (a : Option Addr) (n c : Nat) (es : List (Int × Int)) (w : World) (h : RdE w a es) (hn : es.length = n) (hn1 : n ≤ 1000) (hI : ∀ j, j < n → I64 (es.getD j (0, 0)).1 ∧ I64 (es.getD j (0, 0)).2) :
    Calls Tryd.prog 76 #[.int .i64 s, .slice a n c] w fun e w' => ∃ a' c', e = .returned (.agg #[.int .i64 s, .slice a' (unp es).length c']) ∧ OwR w.heap.size w'.heap.size w' (.slice a' (unp es).length c') (unp es) ∧ Below w.heap.size w w' := by
  obtain ⟨i0, hi', z0, z1, z2⟩ := info_parts Tryd.info25
  have HN := Lib.hid hn
  have HU := Lib.hid (show (unp es).length = n by rw [unp_len]; exact hn)
  have HC := Lib.hid h
  have HI := Lib.hid hI
  clear hn hI h
  go_enter Tryd.func76, Tryd.ntmps76
  go_wp2_with (at_make; refine wpList_make_full _ rfl _ _ 22 rfl (w.heap.size + 1) 25 i0 (.slice none 0 0) 1 Tryd.underlying22 hi' z0 z1 _ _ _ _ n rfl rfl rfl rfl ?c1 ?c2 ?c3 ?_)
  case c1 => rw [z2]; omega
  case c2 => unfold maxLen; omega
  case c3 => simp
  intro w1 hown hgr
  have hBx : w.heap.size + 1 < w1.heap.size := (hown.lt _ rfl).2
  have hP := OwP.made (x := w1.heap.size) hown (by omega)
  rw [← filled_zero (unp es) n] at hP
  have hbl : Below w.heap.size w w1 := ((Below.refl _ _).alloc (Nat.le_refl _) _).grown hgr (by simp) (by simp)
  have k0 : w1.cell? ⟨w.heap.size, 0, none⟩ = some (.int .i64 0) := hgr.cell (by go_simp) (by simp)
  have k1 : w1.cell? ⟨w.heap.size, 1, none⟩ = some (.slice none 0 0) := hgr.cell (by go_simp) (by simp)
  have f0 : w1.frozen? ⟨w.heap.size, 0, none⟩ = false := (hgr.frozen_far _ (by simp) (by simp)).trans (by go_simp)
  have f1 : w1.frozen? ⟨w.heap.size, 1, none⟩ = false := (hgr.frozen_far _ (by simp) (by simp)).trans (by go_simp)
  clear hgr hown
  obtain ⟨x, hx⟩ : ∃ x, x = w1.heap.size := ⟨_, rfl⟩
  have HX := Lib.hid hx
  rw [← hx] at hBx hP
  clear hx
  go_wp2
  rw [← HX.out]
  obtain ⟨G, hG⟩ : ∃ G, G = w.heap.size + 1 := ⟨_, rfl⟩
  rw [← hG] at hBx hP ⊢
  have hGw : w.heap.size < G := by omega
  have HGG := Lib.hid hG
  clear hG
  go_loopw [15, 6, 7] (fun i _ _ wr => ∃ (k : Nat) (rvs : List Value), k ≤ n ∧ i = .int .i64 k ∧ OwP G x wr G n n rvs (filled (unp es) k n) ∧ Below w.heap.size w wr ∧ x < wr.heap.size ∧
    wr.cell? ⟨w.heap.size, 0, none⟩ = some (.int .i64 0) ∧ wr.cell? ⟨w.heap.size, 1, none⟩ = some (.slice none 0 0) ∧ wr.frozen? ⟨w.heap.size, 0, none⟩ = false ∧ wr.frozen? ⟨w.heap.size, 1, none⟩ = false ∧
    wr.cell? ⟨x, 0, none⟩ = some (.int .i64 s) ∧ wr.cell? ⟨x, 1, none⟩ = some (.slice (some ⟨G, 0, none⟩) n n)) (fun i _ _ _ => n - (intOf i).toNat)
  case atStart =>
    have hb2 := (Below.refl w1.heap.size w1).alloc (Nat.le_refl _) (.cells #[.int .i64 s, .slice (some ⟨G, 0, none⟩) n n] 24)
    refine ⟨0, _, Nat.zero_le _, rfl, hP.below hb2, hbl.next hb2, by rw [HX.out]; simp, hb2.keep k0, hb2.keep k1, hb2.keepf (by show w.heap.size < _; have := HX.out; omega) f0, hb2.keepf (by show w.heap.size < _; have := HX.out; omega) f1, ?_, ?_⟩
    · rw [HX.out]; go_simp
    · rw [HX.out]; go_simp
  case round =>
    clear hP hbl k0 k1 f0 f1
    obtain ⟨k, rvs, hk, rfl, hP, hB, hxz, k0, k1, f0, f1, k2, k3⟩ := hrel
    by_cases hlt : k < n
    · obtain ⟨b, rfl, hb0, e0, e1⟩ := HC.out k (by rw [HN.out]; exact hlt)
      replace e0 := hB.keep e0
      replace e1 := hB.keep e1
      obtain ⟨i1, i2⟩ := HI.out k hlt
      have hrow := unp_get (es := es) (k := k) (by rw [HN.out]; exact hlt)
      generalize (es.getD k (0, 0)).1 = y0 at *
      generalize (es.getD k (0, 0)).2 = y1 at *
      have hst := filled_step (rows := unp es) HU.out hlt
      rw [hrow] at hst
      have HST := Lib.hid hst
      obtain ⟨ov, hcell⟩ : ∃ ov, wr.cell? ⟨G, k, none⟩ = some ov := ⟨_, (hP.row hlt).1⟩
      have hfr := hP.out.frozenAt k
      have hlt2 := hP.lt.2
      have hb2 : Below wr.heap.size wr ((wr.alloc (.cells #[.int .i64 y0, .int .i64 y1] 99)).alloc (.cells #[.int .i64 y0, .int .i64 y1] 2)) := ((Below.refl _ _).alloc (Nat.le_refl _) _).alloc (by simp) _
      have hrv := OwI.two (lo := wr.heap.size) (w := wr.alloc (.cells #[.int .i64 y0, .int .i64 y1] 99)) i1 i2 (by simp)
      have hsz1 : (wr.alloc (.cells #[.int .i64 y0, .int .i64 y1] 99)).heap.size = wr.heap.size + 1 := by simp
      rw [hsz1] at hrv
      have hput := hP.put hxz hb2 hlt hrv
      rw [hst] at hput
      have hch := (hb2.chg G (G + 1)).setCell (p := ⟨G, k, none⟩) ⟨Nat.le_refl _, Nat.lt_succ_self _⟩ (.slice (some ⟨wr.heap.size + 1, 0, none⟩) 2 2)
      have F := Lib.hid (show _ ∧ _ ∧ _ ∧ _ ∧ _ ∧ _ ∧ _ ∧ _ ∧ _ from ⟨hput, hB.chgn hch (Nat.le_of_lt hGw) hB.size, Nat.lt_of_lt_of_le hxz hch.size, hch.cell k0 (.inl hGw), hch.cell k1 (.inl hGw), hch.frozen (by show w.heap.size < _; omega) (.inl hGw) f0, hch.frozen (by show w.heap.size < _; omega) (.inl hGw) f1, hch.cell k2 (.inr hBx), hch.cell k3 (.inr hBx)⟩)
      rw [World.setCell_alloc_past _ _ _ _ (by rw [hsz1]; omega), World.setCell_alloc_past _ _ _ _ hlt2] at F
      clear hrow hst hput hch hb2 hrv hsz1 i1 i2
      go_wp2
      go_roundw
      case rel => exact ⟨k+1, _, by omega, by go_num, F.out⟩
      case measure => simp [intOf]; omega
    · go_wp2
      have e2 : filled (unp es) k n = unp es := by
        obtain rfl : k = n := by omega
        exact filled_all HU.out
      rw [e2] at hP
      have hch : Chg w.heap.size (w.heap.size + 1) wr ((wr.setCell ⟨w.heap.size, 0, none⟩ (.int .i64 s)).setCell ⟨w.heap.size, 1, none⟩ (.slice (some ⟨G, 0, none⟩) n n)) := by
        repeat (refine Chg.setCell ?_ (by constructor <;> simp <;> omega) _)
        exact Chg.refl _ _ _
      have hP2 := hP.chg hch (.inr hGw) (fun j hj q hq => Or.inr (Nat.le_trans hGw ((hP.rows.own j (by rw [hP.len]; exact hj)).blk q hq).1))
      refine bodyPost_ret (v := .agg #[.int .i64 s, .slice (some ⟨G, 0, none⟩) n n]) (by simp [results, Tryd.results76, go_sem, k0, k1, k2, k3]) rfl ⟨some ⟨G, 0, none⟩, n, by rw [HU.out], ?_, ?_⟩
      · exact (hP2.owr' (by omega)).mono (Nat.le_of_lt hGw) (Nat.le_refl _)
      · repeat (refine Below.setCell ?_ (by simp <;> omega) _)
        exact hB

end Go.Proofs.YtnblhkhdilkbeaaDoor

/- The model's copies of lists of numbers, with and without zeros at the end. -/
namespace Go.Proofs.YtnblhkhdilkbeaaDoor
open Go.RowKit

theorem own_some (n cap : Nat) (ad : Addr) (xs : List Int) (w : World) (hn : n ≤ 17592186044416) (hx : xs.length = n)
    (hc : ∀ j u, (xs.map (Value.int .i64))[j]? = some u → w.cell? (ad.add j) = some u) :
    Calls Tryd.prog 65 #[.slice (some ad) n cap] w fun e w' => ∃ v, e = .returned v ∧ w'.ownsRow w.heap.size 2 1 v n (xs.map (Value.int .i64)) ∧ Below w.heap.size w w' := by
  obtain ⟨i0, hi', z0, z1, z2⟩ := info_parts Tryd.info2
  have HC := Lib.hid hc
  have HX := Lib.hid hx
  clear hc hx
  have hown : (w.alloc (.cells #[] 2)).ownsRow w.heap.size 2 1 (.slice (some ⟨w.heap.size, 0, none⟩) 0 0) 0 [] := World.ownsRow_lit w #[] 0 (Nat.le_refl _) (by unfold maxLen; omega) rfl
  go_enter Tryd.func65, Tryd.ntmps65
  go_wp2_with (at_builtin; refine wpList_append_own _ rfl _ _ 25 rfl w.heap.size 2 i0 (.int .i64 0) 1 8 Tryd.underlying25 hi' z0 z1 z2 rfl (by decide) _ _ _ rfl hown ad n cap (xs.map (Value.int .i64)) rfl ?c0 ?c1 ?c2 ?c3 ?c4 ?c5 ?_)
  case c0 => rw [List.length_map, HX.out]; omega
  case c1 =>
    intro j u hj
    have h1 := HC.out j u hj
    have hb := World.block_lt_of_cell? w _ h1
    exact (World.cell?_of_block (w := w) (Below.heap_alloc w _ _ hb)).trans h1
  case c2 => intro u hu; simp at hu; obtain ⟨x, _, rfl⟩ := hu; rfl
  case c3 => unfold maxLen; omega
  case c4 => omega
  case c5 => simp
  intro v3 w3 hown3 hgr _
  have hb : Below w.heap.size w w3 := ((Below.refl w.heap.size w).alloc (Nat.le_refl _) (.cells #[] 2)).grown hgr (by simp) (fun k hk => by have := (hown.lt k hk).1; omega)
  clear hgr hown
  go_wp2
  go_ret
  exact ⟨_, rfl, hown3, hb⟩

theorem own_none (cap : Nat) (w : World) :
    Calls Tryd.prog 65 #[.slice none 0 cap] w fun e w' => ∃ v, e = .returned v ∧ w'.ownsRow w.heap.size 2 1 v 0 [] ∧ Below w.heap.size w w' := by
  obtain ⟨i0, hi', z0, z1, z2⟩ := info_parts Tryd.info2
  have hown : (w.alloc (.cells #[] 2)).ownsRow w.heap.size 2 1 (.slice (some ⟨w.heap.size, 0, none⟩) 0 0) 0 [] := World.ownsRow_lit w #[] 0 (Nat.le_refl _) (by unfold maxLen; omega) rfl
  have hb : Below w.heap.size w (w.alloc (.cells #[] 2)) := (Below.refl w.heap.size w).alloc (Nat.le_refl _) _
  go_enter Tryd.func65, Tryd.ntmps65
  go_wp2
  go_ret
  exact ⟨_, rfl, hown, hb⟩

theorem l01Own {lo hi : Nat} (v : Value) (xs : List Int) (w : World) (h : RdI lo hi w v xs) :
    Calls Tryd.prog 65 #[v] w fun e w' => ∃ a c, e = .returned (.slice a xs.length c) ∧ OwI w.heap.size w'.heap.size w' (.slice a xs.length c) xs ∧ Below w.heap.size w w' := by
  obtain ⟨h1, h2, h⟩ := h
  have fin : ∀ (e : Ending) (w' : World) v', e = .returned v' → w'.ownsRow w.heap.size 2 1 v' xs.length (xs.map (Value.int .i64)) → Below w.heap.size w w' → ∃ a c, e = .returned (.slice a xs.length c) ∧ OwI w.heap.size w'.heap.size w' (.slice a xs.length c) xs ∧ Below w.heap.size w w' := by
    intro e w' v' he ho hb
    have ho : OwI w.heap.size w'.heap.size w' v' xs := .mk ho h1 h2
    obtain ⟨a, c, hv⟩ := ho.rd.shape
    subst hv
    exact ⟨a, c, he, ho, hb⟩
  rcases h with ⟨a, cap, rfl, rfl⟩ | ⟨b, off, cap, rfl, h0, hlo, hhi, hc⟩
  · cases a with
    | none => exact (own_none cap w).mono fun e w' ⟨v', he, ho, hb⟩ => fin e w' v' he ho hb
    | some ad => exact (own_some 0 cap ad [] w (by omega) rfl (fun j u hj => by simp at hj)).mono fun e w' ⟨v', he, ho, hb⟩ => fin e w' v' he ho hb
  · refine (own_some xs.length cap ⟨b, off, none⟩ xs w h1 rfl (fun j u hj => ?_)).mono fun e w' ⟨v', he, ho, hb⟩ => fin e w' v' he ho hb
    have hj' : j < xs.length := by
      have := (List.getElem?_eq_some_iff.1 hj).1
      simpa using this
    have ea : (({ block := b, off := off } : Addr).add j) = ⟨b, off + j, none⟩ := by simp [Addr.add]
    rw [ea, hc j hj']
    simp only [List.getElem?_map, List.getElem?_eq_getElem hj', Option.map_some] at hj
    simpa [List.getD, List.getElem?_eq_getElem hj'] using hj

end Go.Proofs.YtnblhkhdilkbeaaDoor

/- The model's copy of a graph. -/
namespace Go.Proofs.YtnblhkhdilkbeaaDoor
open Go.RowKit

theorem take_snocR {xss : List (List Int)} {k : Nat} (hk : k < xss.length) : xss.take (k+1) = xss.take k ++ [xss.getD k []] := by
  rw [List.take_add_one, List.getElem?_eq_getElem hk]
  simp [List.getD, List.getElem?_eq_getElem hk]

theorem copy_close {G x g k c' g2 c3 hi : Nat} {wr w1 w3 : World} {o : Obj} {rvs : List Value} {xs : List (List Int)} {rv : Value} {ys : List Int} (HP : OwP G x wr g k c' rvs xs) (hx : x < wr.heap.size) (bb : Below wr.heap.size wr w1) (o2 : OwI wr.heap.size hi w1 rv ys)
    (hown : w3.ownsRow G 25 1 (.slice (some ⟨g2, 0, none⟩) (k + 1) c3) (k + 1) (rvs ++ [rv])) (hgr : (w1.alloc o).grownBy w3 (some g)) (hlie : some g = some g2 ∨ g2 = (w1.alloc o).heap.size) (v : Value) :
    OwP G x (w3.setCell ⟨x, 1, none⟩ v) g2 (k + 1) c3 (rvs ++ [rv]) (xs ++ [ys]) :=
  (HP.snocF hx bb o2 hown hgr hlie).box ((Chg.refl x (x+1) _).setCell (p := ⟨x, 1, none⟩) ⟨Nat.le_refl _, Nat.lt_succ_self _⟩ _)

set_option maxHeartbeats 3200000 in
theorem l01Copy {lo hi : Nat} (s : Int) (a : Option Addr) (n c : Nat) (xss : List (List Int)) (w : World) (h : RdR lo hi w (.slice a n c) xss) (hn : xss.length = n) (hn1 : n ≤ 1000) :
    Calls Tryd.prog 60 #[.agg #[.int .i64 s, .slice a n c]] w fun e w' => ∃ a' c', e = .returned (.agg #[.int .i64 s, .slice a' xss.length c']) ∧ OwR w.heap.size w'.heap.size w' (.slice a' xss.length c') xss ∧ Below w.heap.size w w' := by
  obtain ⟨i0, hi', z0, z1, z2⟩ := info_parts Tryd.info25
  have HN := Lib.hid hn
  have HC := Lib.hid (h.at hn)
  clear hn h
  have hlit : ((w.alloc (.cells #[.int .i64 s, .slice a n c] 24)).alloc (.cells #[.int .i64 0, .slice none 0 0] 24)).heap.size = w.heap.size + 1 + 1 := by simp
  have hl0 := World.ownsRow_lit (base := w.heap.size + 1 + 1) (e := 25) (size := 1) ((w.alloc (.cells #[.int .i64 s, .slice a n c] 24)).alloc (.cells #[.int .i64 0, .slice none 0 0] 24)) #[] 0 (by rw [hlit]; exact Nat.le_refl _) (by unfold maxLen; omega) rfl
  rw [hlit] at hl0
  have hl1 := hl0.alloc (.cells #[.int .i64 s, .slice (some ⟨w.heap.size + 1 + 1, 0, none⟩) 0 0] 24)
  have HL := Lib.hid hl1
  clear hl0 hlit hl1
  go_enter Tryd.func60, Tryd.ntmps60
  go_wp2
  obtain ⟨x, hx⟩ : ∃ x, x = w.heap.size + 1 + 1 + 1 := ⟨_, rfl⟩
  obtain ⟨R, hR⟩ : ∃ R, R = w.heap.size + 1 := ⟨_, rfl⟩
  obtain ⟨G, hG⟩ : ∃ G, G = w.heap.size + 1 + 1 := ⟨_, rfl⟩
  rw [← hG] at HL
  rw [← hx, ← hG, ← hR]
  have hord : w.heap.size < R ∧ R < G ∧ G < x := by omega
  have HXE := Lib.hid (⟨hx, hR, hG⟩ : _ ∧ _ ∧ _)
  clear hx hR hG
  go_loopw [4] (fun i wr => ∃ (k g c' : Nat) (rvs : List Value), k ≤ n ∧ i = .int .i64 k ∧ OwP G x wr g k c' rvs (xss.take k) ∧ Below w.heap.size w wr ∧ x < wr.heap.size ∧
    wr.cell? ⟨w.heap.size, 1, none⟩ = some (.slice a n c) ∧ wr.cell? ⟨R, 0, none⟩ = some (.int .i64 0) ∧ wr.cell? ⟨R, 1, none⟩ = some (.slice none 0 0) ∧ wr.frozen? ⟨R, 0, none⟩ = false ∧ wr.frozen? ⟨R, 1, none⟩ = false ∧
    wr.cell? ⟨x, 0, none⟩ = some (.int .i64 s) ∧ wr.cell? ⟨x, 1, none⟩ = some (.slice (some ⟨g, 0, none⟩) k c') ∧ wr.frozen? ⟨x, 1, none⟩ = false) (fun i _ => n - (intOf i).toNat)
  case atStart =>
    obtain ⟨e1, e2, e3⟩ := HXE.out
    refine ⟨0, G, 0, [], Nat.zero_le _, rfl, OwP.empty HL.out (by omega), ?_, ?_, ?_, ?_, ?_, ?_, ?_, ?_, ?_, ?_⟩
    · exact ((((Below.refl _ _).alloc (Nat.le_refl _) _).alloc (by simp) _).alloc (by simp; omega) _).alloc (by simp; omega) _
    · rw [e1]; simp
    · go_simp
    · rw [e2]; go_simp
    · rw [e2]; go_simp
    · rw [e2]; go_simp
    · rw [e2]; go_simp
    · rw [e1]; go_simp
    · rw [e1, e3]; go_simp
    · rw [e1]; go_simp
  case round =>
    obtain ⟨k, g, c', rvs, hk, rfl, hP, hB, hxz, k1, k2, k3, f2, f3, k4, k5, f5⟩ := hrel
    by_cases hlt : k < n
    · obtain ⟨b, off, rv, rfl, h1, r1⟩ := HC.out k hlt
      have hbw := World.block_lt_of_cell? w _ h1
      replace h1 := hB.keep h1
      replace r1 := r1.below hB
      generalize hys : xss.getD k [] = ys at *
      have hlt' : k < xss.length := by rw [HN.out]; exact hlt
      have hst := take_snocR hlt'
      rw [hys] at hst
      have HST := Lib.hid hst
      have HP := Lib.hid hP
      have HB := Lib.hid hB
      have HF := Lib.hid (⟨k1, k2, k3, f2, f3, k4⟩ : _ ∧ _ ∧ _ ∧ _ ∧ _ ∧ _)
      have hgl := hP.lt
      have hgx := hP.exg
      clear hys hst hP hB k2 k3 f2 f3 k4
      go_wp2
      have hm63 : k + 1 ≤ maxLen := by unfold maxLen; omega
      have hby : (k + 1) * 24 ≤ 140737488355328 := by omega
      have hgxx : x < g ∨ g + 1 ≤ x := by omega
      go_region_law (first
        | (go_simp; go_at_call 65; refine (l01Own _ ys _ (r1.qt (Qt.refl _).drew)).mono ?_; rintro e w1 ⟨a2, c2, rfl, o2, b2⟩; have bb := ((Qt.refl wr).drew).below.next b2; have hx1 : x < w1.heap.size := Nat.lt_of_lt_of_le hxz bb.size; have g1 := bb.keep k1; have g5 := bb.keep k5; have gf5 := bb.keepf hxz f5; have hown1 := (HP.out.below bb).out.alloc (.cells #[.slice a2 ys.length c2] 25); have hnews := news_one w1 25 (.slice a2 ys.length c2); have hone : ∀ u ∈ [Value.slice a2 ys.length c2], u.oneCell' = true := (fun u hu => by simp at hu; subst hu; rfl); have hbase : G ≤ (w1.alloc (.cells #[.slice a2 ys.length c2] 25)).heap.size := by { have := bb.size; simp; omega })
        | (refine step_append_lies (w1.alloc (.cells #[.slice a2 ys.length c2] 25)) rfl (.tmp 17) (.tmp 24) 22 rfl G 25 i0 (.slice none 0 0) 1 24 Tryd.underlying22 hi' z0 z1 z2 rfl (by decide) (.slice (some ⟨g, 0, none⟩) k c') k rvs (by simp [Act.eval, Act.put]) hown1 ⟨w1.heap.size, 0, none⟩ 1 1 [.slice a2 ys.length c2] (by simp [Act.eval, Act.put]) rfl hnews hone (by decide) hm63 hby hbase (w1.alloc (.cells #[.slice a2 ys.length c2] 25)).heap.size rfl ?_; intro g2 c3 w3 hown3 hgr hlie hlt3; have hch := snocC bb hgr; have y5 := hch.cell k5 hgxx; have yf5 := hch.frozen (show x < wr.heap.size from hxz) hgxx f5))
      all_goals
        have hP3 := copy_close HP.out hxz bb o2 hown3 hgr hlie (.slice (some ⟨g2, 0, none⟩) (k + 1) c3)
        rw [← HST.out] at hP3
        have hbx : Chg x (x+1) w3 (w3.setCell ⟨x, 1, none⟩ (.slice (some ⟨g2, 0, none⟩) (k + 1) c3)) := (Chg.refl x (x+1) _).setCell (p := ⟨x, 1, none⟩) ⟨Nat.le_refl _, Nat.lt_succ_self _⟩ _
        obtain ⟨p1, p2, p3, q2, q3, p4⟩ := HF.out
        have hRz : R < wr.heap.size := by omega
        have z1 := hbx.cell (hch.cell p1 (show w.heap.size < g ∨ _ by left; omega)) (show w.heap.size < x ∨ _ by left; omega)
        have z2 := hbx.cell (hch.cell p2 (show R < g ∨ _ by left; omega)) (show R < x ∨ _ by left; omega)
        have z3 := hbx.cell (hch.cell p3 (show R < g ∨ _ by left; omega)) (show R < x ∨ _ by left; omega)
        have hsz3 := hch.size
        have y2 := hbx.frozen (show R < w3.heap.size by omega) (show R < x ∨ _ by left; omega) (hch.frozen (show R < wr.heap.size by omega) (show R < g ∨ _ by left; omega) q2)
        have y3 := hbx.frozen (show R < w3.heap.size by omega) (show R < x ∨ _ by left; omega) (hch.frozen (show R < wr.heap.size by omega) (show R < g ∨ _ by left; omega) q3)
        have z4 : (w3.setCell ⟨x, 1, none⟩ (.slice (some ⟨g2, 0, none⟩) (k + 1) c3)).cell? ⟨x, 0, none⟩ = some (.int .i64 s) := by
          rw [World.cell?_setCell_other _ _ _ _ (by simp)]; exact hch.cell p4 hgxx
        have z5 := World.cell?_setCell_same w3 ⟨x, 1, none⟩ (.slice (some ⟨g2, 0, none⟩) (k + 1) c3) y5
        have z6 := hbx.size
        have z7 := (World.frozen?_setCell (w := w3) (a := ⟨x, 1, none⟩) (v := .slice (some ⟨g2, 0, none⟩) (k + 1) c3) (b := ⟨x, 1, none⟩)).trans yf5
        have hBB := ((HB.out.chgn hch (show w.heap.size ≤ g by omega) HB.out.size).chgn hbx (show w.heap.size ≤ x by omega) (by have := HB.out.size; omega))
        have FF := Lib.hid (⟨hP3, hBB, Nat.lt_of_lt_of_le (Nat.lt_of_lt_of_le hxz hsz3) z6, z1, z2, z3, y2, y3, z4, z5, z7⟩ : _ ∧ _ ∧ _ ∧ _ ∧ _ ∧ _ ∧ _ ∧ _ ∧ _ ∧ _ ∧ _)
        clear z1 z2 z3 z4 z5 z6 z7 y2 y3 p1 p2 p3 q2 q3 p4 hP3 hBB
        go_wp2
        go_roundw
        case rel => exact ⟨k+1, g2, c3, _, by omega, by go_num, FF.out⟩
        case measure => simp [intOf]; omega
    · go_wp2
      obtain rfl : k = n := by omega
      have e2 : xss.take k = xss := List.take_of_length_le (by rw [HN.out]; exact Nat.le_refl _)
      rw [e2] at hP
      have hch : Chg R (R + 1) wr ((wr.setCell ⟨R, 0, none⟩ (.int .i64 s)).setCell ⟨R, 1, none⟩ (.slice (some ⟨g, 0, none⟩) k c')) := by
        repeat (refine Chg.setCell ?_ (by constructor <;> simp <;> omega) _)
        exact Chg.refl _ _ _
      have hP2 := hP.chg hch (.inr (by have := hP.lt; omega)) (fun j hj q hq => Or.inr (Nat.le_trans (show R + 1 ≤ G by omega) ((hP.rows.own j (by rw [hP.len]; exact hj)).blk q hq).1))
      refine bodyPost_ret (v := .agg #[.int .i64 s, .slice (some ⟨g, 0, none⟩) k c']) (by simp [results, Tryd.results60, go_sem, k2, k3, k4, k5]) rfl ⟨some ⟨g, 0, none⟩, c', by rw [HN.out], ?_, ?_⟩
      · exact (hP2.owr' (by omega)).mono (by omega) (Nat.le_refl _)
      · repeat (refine Below.setCell ?_ (by simp <;> omega) _)
        exact hB

end Go.Proofs.YtnblhkhdilkbeaaDoor

/- A graph and one of its edges: the code of both sides. -/
namespace Go.Proofs.YtnblhkhdilkbeaaDoor
open Go.RowKit

def edgeCode (s : Int) (xss : List (List Int)) (k : Int) : Int := if grB s xss then (if inR k xss.length then 0 else 2) else 1
theorem edgeCode_ok {s : Int} {xss : List (List Int)} {k : Int} (h : edgeCode s xss k = 0) : grB s xss = true ∧ 0 ≤ k ∧ k < xss.length := by
  unfold edgeCode at h
  split at h
  · rename_i hg
    split at h
    · rename_i hr
      simp only [inR, Bool.and_eq_true, decide_eq_true_eq] at hr
      exact ⟨hg, hr⟩
    · omega
  · omega

end Go.Proofs.YtnblhkhdilkbeaaDoor

/- What SubdivideEdge, DeleteEdge and ContractEdge answer. -/
namespace Go.Proofs.YtnblhkhdilkbeaaDoor
open Go.RowKit

theorem unp_pairs {s : Int} {xss : List (List Int)} (h : grB s xss = true) : unp (pairs xss) = xss := by
  obtain ⟨_, _, _, h4⟩ := grB_iff h
  refine list_ext_getD (by simp [unp, pairs]) (fun i hi => ?_)
  have hi' : i < xss.length := by simpa [unp, pairs] using hi
  obtain ⟨h2, _⟩ := h4 i hi'
  have e1 : (unp (pairs xss)).getD i [] = [(xss.getD i []).getD 0 0, (xss.getD i []).getD 1 0] := by simp [unp, pairs, List.getD, List.getElem?_eq_getElem hi']
  rw [e1]
  generalize xss.getD i [] = e at *
  match e, h2 with
  | [a, b], _ => rfl
theorem pairs_len (xss : List (List Int)) : (pairs xss).length = xss.length := by simp [pairs]
theorem pairs_get {xss : List (List Int)} {k : Nat} (h : k < xss.length) : (pairs xss).getD k (0, 0) = ((xss.getD k []).getD 0 0, (xss.getD k []).getD 1 0) := by simp [pairs, List.getD, h]
theorem flat_set (es : List (Int × Int)) (k : Nat) (e : Int × Int) (h : k < es.length) : ((flat es).set (k * 2) (.int .i64 e.1)).set (k * 2 + 1) (.int .i64 e.2) = flat (es.set k e) := by
  induction es generalizing k with
  | nil => simp at h
  | cons a r ih =>
    cases k with
    | zero => simp [flat]
    | succ k =>
      have := ih k (by simpa using h)
      have e1 : (k + 1) * 2 = k * 2 + 2 := by omega
      rw [e1]
      simpa [flat] using this
theorem gr_I64 {s : Int} {xss : List (List Int)} (h : grB s xss = true) {k : Nat} (hk : k < xss.length) : I64 ((pairs xss).getD k (0, 0)).1 ∧ I64 ((pairs xss).getD k (0, 0)).2 := by
  obtain ⟨h1, h2, _, h4⟩ := grB_iff h
  obtain ⟨_, q2, q3, q4, q5⟩ := h4 k hk
  rw [pairs_get hk]
  refine ⟨?_, ?_⟩ <;> unfold I64 <;> simp only <;> omega

def subRows (s : Int) (xss : List (List Int)) (k : Nat) : List (List Int) := xss.set k [(xss.getD k []).getD 0 0, s] ++ [[s, (xss.getD k []).getD 1 0]]
def subOf (s : Int) (xss : List (List Int)) (k : Int) : (Int × List (List Int)) × Int :=
  if edgeCode s xss k ≠ 0 then ((0, []), edgeCode s xss k) else if s = 8 ∨ xss.length = 10 then ((0, []), 3) else ((s + 1, subRows s xss k.toNat), 0)
def subPairs (s : Int) (xss : List (List Int)) (k : Nat) : List (Int × Int) := (pairs xss).set k ((xss.getD k []).getD 0 0, s) ++ [(s, (xss.getD k []).getD 1 0)]
theorem subPairs_len (s : Int) (xss : List (List Int)) (k : Nat) : (subPairs s xss k).length = xss.length + 1 := by simp [subPairs, pairs_len]
theorem unp_sub {s : Int} {xss : List (List Int)} {k : Nat} (h : grB s xss = true) : unp (subPairs s xss k) = subRows s xss k := by
  have := unp_pairs h
  unfold unp at this
  simp only [unp, subPairs, subRows, List.map_append, List.map_set, this, List.map_cons, List.map_nil]
theorem getD_snocE {es : List (Int × Int)} {e : Int × Int} {j : Nat} (h : j < es.length + 1) : (es ++ [e]).getD j (0, 0) = if j < es.length then es.getD j (0, 0) else e := by
  by_cases hj : j < es.length
  · rw [if_pos hj]; simp only [List.getD]; rw [List.getElem?_append_left hj]
  · rw [if_neg hj]
    obtain rfl : j = es.length := by omega
    simp [List.getD]
theorem getD_setE {es : List (Int × Int)} {e : Int × Int} {j k : Nat} (h : k < es.length) : (es.set k e).getD j (0, 0) = if j = k then e else es.getD j (0, 0) := by
  by_cases hj : j = k
  · subst hj; simp [List.getD, h]
  · rw [if_neg hj]; simp [List.getD, List.getElem?_set, Ne.symm hj]
theorem sub_I64 {s : Int} {xss : List (List Int)} {k : Nat} (h : grB s xss = true) (hk : k < xss.length) : ∀ j, j < xss.length + 1 → I64 ((subPairs s xss k).getD j (0, 0)).1 ∧ I64 ((subPairs s xss k).getD j (0, 0)).2 := by
  intro j hj
  have hs : I64 s := by have := grB_iff h; unfold I64; omega
  have hk2 := gr_I64 h hk
  rw [pairs_get hk] at hk2
  unfold subPairs
  rw [getD_snocE (by rw [List.length_set, pairs_len]; exact hj), List.length_set, pairs_len]
  by_cases h1 : j < xss.length
  · rw [if_pos h1, getD_setE (by rw [pairs_len]; exact hk)]
    by_cases h2 : j = k
    · rw [if_pos h2]; exact ⟨hk2.1, hs⟩
    · rw [if_neg h2]; exact gr_I64 h h1
  · rw [if_neg h1]; exact ⟨hs, hk2.2⟩

end Go.Proofs.YtnblhkhdilkbeaaDoor

/- DeleteEdge of the model. -/
namespace Go.Proofs.YtnblhkhdilkbeaaDoor
open Go.RowKit

theorem er_same {xss : List (List Int)} {k : Nat} (hk : k < xss.length) : (xss.take (k+1)).eraseIdx k = (xss.take k).eraseIdx k := by
  have hl : (xss.take k).length = k := by rw [List.length_take]; omega
  rw [take_snocR hk, List.eraseIdx_append_of_length_le (by omega), hl, Nat.sub_self, List.eraseIdx_of_length_le (l := xss.take k) (by omega)]
  simp
theorem er_step {xss : List (List Int)} {i k : Nat} (hi : i < xss.length) (hk : i ≠ k) : (xss.take (i+1)).eraseIdx k = (xss.take i).eraseIdx k ++ [xss.getD i []] := by
  have hl : (xss.take i).length = i := by rw [List.length_take]; omega
  rw [take_snocR hi]
  by_cases h : k < i
  · rw [List.eraseIdx_append_of_lt_length (by omega)]
  · rw [List.eraseIdx_of_length_le (by rw [List.length_append, hl]; simp; omega), List.eraseIdx_of_length_le (by omega)]

theorem OwP.lower {lo lo' x : Nat} {w : World} {g n c : Nat} {rvs : List Value} {xss : List (List Int)} (h : OwP lo x w g n c rvs xss) (hl : lo' ≤ lo) : OwP lo' x w g n c rvs xss :=
  ⟨h.len, ownsRow_mono h.out hl, ⟨h.rows.len, fun j hj => (h.rows.own j hj).mono hl (Nat.le_refl _), h.rows.dj⟩, h.dj, h.exg, h.exr⟩
theorem OwP.rebox {lo x x' : Nat} {w : World} {g n c : Nat} {rvs : List Value} {xss : List (List Int)} (h : OwP lo x w g n c rvs xss) (hx : w.heap.size ≤ x') : OwP lo x' w g n c rvs xss :=
  ⟨h.len, h.out, h.rows, h.dj, by have := h.lt; omega, fun j hj e => by have := ((h.rows.own j (by rw [h.len]; exact hj)).blk x' e).2.2; omega⟩

def delOf (s : Int) (xss : List (List Int)) (k : Int) : (Int × List (List Int)) × Int := if edgeCode s xss k ≠ 0 then ((0, []), edgeCode s xss k) else ((s, xss.eraseIdx k.toNat), 0)

theorem code_ne' {s : Int} {xss : List (List Int)} {k : Int} (h : edgeCode s xss k ≠ 0) : (edgeCode s xss k != 0) = true := by simpa using h

theorem lens_two {xss : List (List Int)} (h : ∀ e ∈ xss, e.length = 2) : lens xss = 2 * xss.length := by
  induction xss with
  | nil => rfl
  | cons p r ih =>
    have h1 := h p (by simp)
    have h2 := ih (fun e he => h e (by simp [he]))
    simp only [lens, List.map_cons, List.sum_cons, List.length_cons] at h2 ⊢
    omega
theorem gr_two {s : Int} {xss : List (List Int)} (h : grB s xss = true) : ∀ e ∈ xss, e.length = 2 := by
  intro e he
  obtain ⟨i, hi, rfl⟩ := List.getElem_of_mem he
  have := ((grB_iff h).2.2.2 i hi).1
  simpa [List.getD, List.getElem?_eq_getElem hi] using this
theorem delOf_lens (s : Int) (xss : List (List Int)) (k : Int) : lens (delOf s xss k).1.2 ≤ 1000 := by
  unfold delOf
  split
  · simp [lens]
  · rename_i hc
    obtain ⟨hg, h0, h1⟩ := edgeCode_ok (s := s) (xss := xss) (k := k) (by omega)
    have h3 := (grB_iff hg).2.2.1
    show lens (xss.eraseIdx k.toNat) ≤ 1000
    rw [lens_two (fun e he => gr_two hg e (List.mem_of_mem_eraseIdx he))]
    have := List.length_eraseIdx_le xss k.toNat
    omega

end Go.Proofs.YtnblhkhdilkbeaaDoor

/- DegreesOf of the program. -/
namespace Go.Proofs.YtnblhkhdilkbeaaDoor
open Go.RowKit

theorem dgl_step (m : Nat) (xss : List (List Int)) (k i0 i1 : Nat) (hk : k < xss.length) (h0 : (xss.getD k []).getD 0 0 = (i0 : Int)) (h1 : (xss.getD k []).getD 1 0 = (i1 : Int)) (l0 : i0 < m) (l1 : i1 < m) :
    dgl m (xss.take (k+1)) = if i0 = i1 then (dgl m (xss.take k)).set i0 (.int .i64 (deg (xss.take k) i0 + 1 + 1)) else ((dgl m (xss.take k)).set i0 (.int .i64 (deg (xss.take k) i0 + 1))).set i1 (.int .i64 (deg (xss.take k) i1 + 1)) := by
  have hs : ∀ v : Int, deg (xss.take (k+1)) v = deg (xss.take k) v + (one ((i0 : Int) == v) + one ((i1 : Int) == v)) := by
    intro v
    rw [deg_step hk v]
    unfold dg
    rw [h0, h1]
  have ho : ∀ i j : Nat, one ((i : Int) == (j : Int)) = if i = j then 1 else 0 := by
    intro i j
    unfold one
    by_cases e : i = j
    · simp [e]
    · have : ¬ (i : Int) = (j : Int) := by omega
      simp [e, this]
  apply List.ext_getElem?
  intro j
  by_cases hj : j < m
  · rw [dgl_get m _ j hj, hs, ho, ho]
    by_cases e : i0 = i1
    · subst e
      rw [if_pos rfl, List.getElem?_set]
      by_cases e2 : i0 = j
      · subst e2
        simp [dgl, hj]
        omega
      · simp [e2, dgl_get m _ j hj]
    · rw [if_neg e, List.getElem?_set, List.getElem?_set]
      by_cases e2 : i1 = j
      · subst e2
        simp [e, dgl, hj]
      · by_cases e3 : i0 = j
        · subst e3
          simp [e2, dgl, hj]
        · simp [e2, e3, dgl_get m _ j hj]
  · have hl : ∀ ys, (dgl m ys)[j]? = none := fun ys => by simp [dgl, hj]
    rw [hl]
    by_cases e : i0 = i1
    · rw [if_pos e]; symm; rw [List.getElem?_eq_none_iff]; simp [dgl]; omega
    · rw [if_neg e]; symm; rw [List.getElem?_eq_none_iff]; simp [dgl]; omega

theorem edgesOfP {lo hi : Nat} (s : Int) (a : Option Addr) (n c : Nat) (xss : List (List Int)) (w : World) (h : RdR lo hi w (.slice a n c) xss) (hg : grB s xss = true) (hn : xss.length = n) (h0 : 0 < n) :
    Calls Tryd.prog 71 #[.agg #[.int .i64 s, .slice a n c]] w fun e w' => ∃ g c', e = .returned (.slice (some ⟨g, 0, none⟩) n c') ∧ w'.ownsRow w.heap.size 99 2 (.slice (some ⟨g, 0, none⟩) n c') n (flat (pairs xss)) ∧ Below w.heap.size w w' := by
  refine (edgesOf s a n c xss w h hg hn).mono fun e w' ⟨a', c', he, ho, hb⟩ => ?_
  have ho' := ho
  rcases ho.2 with ⟨hv, h1⟩ | ⟨g, cap, cur, hv, _⟩
  · omega
  · simp only [Value.slice.injEq] at hv
    obtain ⟨rfl, _, rfl⟩ := hv
    exact ⟨g, c', he, ho', hb⟩

set_option maxHeartbeats 3200000 in
theorem implDegrees_yes {lo hi : Nat} (m : Nat) (a : Option Addr) (n c : Nat) (xss : List (List Int)) (w : World) (h : RdR lo hi w (.slice a n c) xss) (hn : xss.length = n) (hg : grB (m : Int) xss = true) (hn0 : 0 < n) :
    Calls Tryd.prog 57 #[.agg #[.int .i64 (m : Int), .slice a n c]] w fun e w' => ∃ v, e = .returned (.tuple #[v, .int .i64 0]) ∧ w'.ownsRow w.heap.size 2 1 v m (dgl m xss) ∧ Below w.heap.size w w' := by
  obtain ⟨i0, hi', z0, z1, z2⟩ := info_parts Tryd.info2
  have hb0 : ∀ o, Below w.heap.size w (w.alloc o) := fun o => (Below.refl _ _).alloc (Nat.le_refl _) o
  obtain ⟨hs1, hs2, h3, h4⟩ := grB_iff hg
  have HG := Lib.hid hg
  have HN := Lib.hid hn
  have H4 := Lib.hid h4
  have hn10 : n ≤ 10 := by omega
  clear hg hn h4
  go_enter Tryd.func57, Tryd.ntmps57
  go_wp2_with fail
  refine calls_gen (fun W => Below w.heap.size w W ∧ w.heap.size < W.heap.size ∧ W.cell? ⟨w.heap.size, 0, none⟩ = some (.int .i64 (m : Int)) ∧ W.cell? ⟨w.heap.size, 1, none⟩ = some (.slice a n c)) ⟨hb0 _, by simp, by go_simp, by go_simp⟩ ?_
  rintro W ⟨hB, hz, k1, k2⟩
  refine (implIsGraph _ a n c xss W (h.below hB) HN.out).mono ?_
  rw [HG.out]
  rintro e w1 ⟨rfl, b1⟩
  replace k1 := b1.keep k1
  replace k2 := b1.keep k2
  replace hB := hB.next b1
  have hz1 : w.heap.size < w1.heap.size := by have := b1.size; omega
  clear b1
  go_wp2_with (at_make; refine wpList_make_full _ rfl _ _ 25 rfl w1.heap.size 2 i0 (.int .i64 0) 1 Tryd.underlying25 hi' z0 z1 _ _ _ _ m rfl rfl rfl rfl ?c1 ?c2 ?c3 ?_)
  case c1 => rw [z2]; omega
  case c2 => unfold maxLen; omega
  case c3 => exact Nat.le_refl _
  intro w2 hown hgr
  rw [dgl_zero m] at hown
  have hB2 : Below w.heap.size w w2 := hB.grown hgr hB.size (by simp)
  replace k1 := hgr.cell k1 (by simp)
  replace k2 := hgr.cell k2 (by simp)
  have hz2 : w1.heap.size < w2.heap.size := (hown.lt _ rfl).2
  clear hgr hB
  go_wp2_with fail
  refine (edgesOfP _ a n c xss w2 (h.below hB2) HG.out HN.out hn0).mono ?_
  rintro e w3 ⟨g3, c3, rfl, o3, b3⟩
  have hB3 := hB2.next b3
  have hown3 := ownsRow_chg hown (b3.chg 0 0) (fun _ _ => .inr (Nat.zero_le _))
  have hz3 := b3.size
  replace k1 := b3.keep k1
  replace k2 := b3.keep k2
  clear hown b3 hB2
  have hg3 := (o3.lt _ rfl).1
  have hg4 := (o3.lt _ rfl).2
  go_wp2
  go_loopw [16, 6] (fun i _ wr => ∃ k : Nat, k ≤ n ∧ i = .int .i64 k ∧ wr.ownsRow w1.heap.size 2 1 (.slice (some ⟨w1.heap.size, 0, none⟩) m m) m (dgl m (xss.take k)) ∧ wr.ownsRow w2.heap.size 99 2 (.slice (some ⟨g3, 0, none⟩) n c3) n (flat (pairs xss)) ∧ Below w.heap.size w wr ∧ g3 < wr.heap.size) (fun i _ _ => n - (intOf i).toNat)
  case atStart => exact ⟨0, Nat.zero_le _, rfl, hown3, o3, hB3, hg4⟩
  case round =>
    clear hown3 o3 hB3 k1 k2 hg4
    obtain ⟨k, hk, rfl, hown, ho, hB, hg4⟩ := hrel
    by_cases hlt : k < n
    · have hlt' : k < xss.length := by rw [HN.out]; exact hlt
      obtain ⟨f1, f2⟩ := flat_get xss k hlt'
      obtain ⟨q1, q2, q3, q4, q5⟩ := H4.out k hlt'
      obtain ⟨j0, hj0⟩ : ∃ j0 : Nat, (xss.getD k []).getD 0 0 = j0 := ⟨((xss.getD k []).getD 0 0).toNat, by omega⟩
      obtain ⟨j1, hj1⟩ : ∃ j1 : Nat, (xss.getD k []).getD 1 0 = j1 := ⟨((xss.getD k []).getD 1 0).toNat, by omega⟩
      have hst := dgl_step m xss k j0 j1 hlt' hj0 hj1 (by omega) (by omega)
      rw [hj0] at f1 q3
      rw [hj1] at f2 q5
      have l0 : j0 < m := by omega
      have l1 : j1 < m := by omega
      have e0 := (ho.cellAt (k * 2) (by omega)).trans f1
      have e1 := (ho.cellAt (k * 2 + 1) (by omega)).trans f2
      have d0 := (hown.cellAt j0 (by omega)).trans (dgl_get m _ j0 l0)
      have d1 := (hown.cellAt j1 (by omega)).trans (dgl_get m _ j1 l1)
      have r0 := hown.frozenAt j0
      have r1 := hown.frozenAt j1
      have v0 := deg_bd (xss.take k) j0
      have v1 := deg_bd (xss.take k) j1
      have vl : (xss.take k).length ≤ k := List.length_take_le _ _
      generalize hD0 : deg (xss.take k) (j0 : Int) = D0 at *
      generalize hD1 : deg (xss.take k) (j1 : Int) = D1 at *
      have v00 : 0 ≤ D0 := v0.1
      have v01 : D0 ≤ 20 := by omega
      have v10 : 0 ≤ D1 := v1.1
      have v11 : D1 ≤ 20 := by omega
      have HST := Lib.hid hst
      have hw1 := (hown.lt _ rfl).2
      clear hst f1 f2 q1 q2 q3 q4 q5 hj0 hj1 v0 v1 vl hD0 hD1
      by_cases hj : j0 = j1
      · subst hj
        have hD : D0 = D1 := by rw [d0] at d1; simpa using d1
        subst hD
        rw [if_pos rfl] at HST
        have s1 := (hown.stored j0 (.int .i64 (D0 + 1))).1
        have s2 := (s1.stored j0 (.int .i64 (D0 + 1 + 1))).1
        rw [List.set_set, ← HST.out] at s2
        have t2 := ownsRow_chg ho (((Chg.refl w1.heap.size (w1.heap.size + 1) _).setCell (p := ⟨w1.heap.size, j0, none⟩) ⟨Nat.le_refl _, Nat.lt_succ_self _⟩ (.int .i64 (D0 + 1))).setCell (p := ⟨w1.heap.size, j0, none⟩) ⟨Nat.le_refl _, Nat.lt_succ_self _⟩ (.int .i64 (D0 + 1 + 1))) (fun q hq => by simp [Value.ownBlock] at hq; omega)
        have S2 := Lib.hid (s2.alloc (.cells #[.int .i64 (j0 : Int), .int .i64 (j0 : Int)] 99))
        have T2 := Lib.hid (t2.alloc (.cells #[.int .i64 (j0 : Int), .int .i64 (j0 : Int)] 99))
        clear s1 s2 t2
        go_wp2
        go_roundw
        case rel => exact ⟨k+1, by omega, by go_num, S2.out, T2.out, ((hB.setCell (by simp; omega) _).setCell (by simp; omega) _).alloc (by simp [World.setCell]; exact hB.size) _, by simp [World.setCell]; omega⟩
        case measure => simp [intOf]; omega
      · rw [if_neg hj] at HST
        have s1 := (hown.stored j0 (.int .i64 (D0 + 1))).1
        have s2 := (s1.stored j1 (.int .i64 (D1 + 1))).1
        rw [← HST.out] at s2
        have t2 := ownsRow_chg ho (((Chg.refl w1.heap.size (w1.heap.size + 1) _).setCell (p := ⟨w1.heap.size, j0, none⟩) ⟨Nat.le_refl _, Nat.lt_succ_self _⟩ (.int .i64 (D0 + 1))).setCell (p := ⟨w1.heap.size, j1, none⟩) ⟨Nat.le_refl _, Nat.lt_succ_self _⟩ (.int .i64 (D1 + 1))) (fun q hq => by simp [Value.ownBlock] at hq; omega)
        have S2 := Lib.hid (s2.alloc (.cells #[.int .i64 (j0 : Int), .int .i64 (j1 : Int)] 99))
        have T2 := Lib.hid (t2.alloc (.cells #[.int .i64 (j0 : Int), .int .i64 (j1 : Int)] 99))
        clear s1 s2 t2
        go_wp2
        go_roundw
        case rel => exact ⟨k+1, by omega, by go_num, S2.out, T2.out, ((hB.setCell (by simp; omega) _).setCell (by simp; omega) _).alloc (by simp [World.setCell]; exact hB.size) _, by simp [World.setCell]; omega⟩
        case measure => simp [intOf]; omega
    · go_wp2
      go_ret2
      obtain rfl : k = n := by omega
      rw [List.take_of_length_le (by rw [HN.out]; exact Nat.le_refl _)] at hown
      exact ⟨_, rfl, ownsRow_mono hown (by omega), hB⟩

end Go.Proofs.YtnblhkhdilkbeaaDoor

/- slices.Delete on a list of edges. -/
namespace Go.RowKit
theorem chg_setCells (g : Nat) : ∀ (vs : List Value) (o : Nat) (w : World), Chg g (g+1) w (w.setCells g o vs)
  | [], _, w => Chg.refl _ _ _
  | v :: r, o, w => ((Chg.refl g (g+1) w).setCell (p := ⟨g, o, none⟩) ⟨Nat.le_refl _, Nat.lt_succ_self _⟩ v).trans (chg_setCells g r (o+1) _)
/-- 'clear(s)' on a slice of one element of two numbers -/
theorem run_clear_two {P : Program} (w : World) (t e ty : TypeId) (ht : P.underlying t = some (.slice e)) (hv : ∀ w, (zeroValue e).run P w = .ok (.agg #[.int .i64 0, .int .i64 0]) w) (b o c : Nat)
    (hc : ∀ j, j < 2 → (w.cell? ⟨b, o + j, none⟩).isSome = true) (hf : ∀ j, j < 2 → w.frozen? ⟨b, o + j, none⟩ = false) :
    (Builtin.clear_ #[t] ty #[.slice (some ⟨b, o, none⟩) 1 c]).run P w = .ok (.tuple #[]) (w.setCells b o [.int .i64 0, .int .i64 0]) := by
  have hzc : (Builtin.zeroCells (Value.agg #[.int .i64 0, .int .i64 0]).cells 1).toList = [.int .i64 0, .int .i64 0] := by
    simp [Builtin.zeroCells, Value.cells]; rfl
  have hst := run_storeCells_cells (P := P) b o [.int .i64 0, .int .i64 0] 0 w (by simpa using hc) (by simpa using hf) (by intro v hv'; simp at hv'; subst hv'; rfl)
  simp only [Nat.add_zero] at hst
  simp [Builtin.clear_, run_underlying ht, hv, hzc, hst]
end Go.RowKit
namespace Go.Proofs.YtnblhkhdilkbeaaDoor
open Go.RowKit

theorem zero_edge : ∀ w, (zeroValue 99).run Tryd.prog w = .ok (.agg #[.int .i64 0, .int .i64 0]) w := fun w => by kernel_rfl
theorem flat_erase (es : List (Int × Int)) (k j : Nat) : (flat (es.eraseIdx k))[j]? = if j < k * 2 then (flat es)[j]? else (flat es)[j + 2]? := by
  induction es generalizing k j with
  | nil => simp [flat]
  | cons e r ih =>
    cases k with
    | zero => simp [flat]
    | succ k =>
      rw [List.eraseIdx_cons_succ]
      match j with
      | 0 => simp [flat]
      | 1 => rw [if_pos (by omega)]; simp [flat]
      | j + 2 =>
        have := ih k j
        simp only [flat, List.flatMap_cons, List.cons_append, List.nil_append, List.getElem?_cons_succ] at this ⊢
        rw [this]
        by_cases h : j < k * 2
        · rw [if_pos h, if_pos (by omega)]
        · rw [if_neg h, if_neg (by omega)]

end Go.Proofs.YtnblhkhdilkbeaaDoor

/- DeleteEdge of the program. -/
namespace Go.Proofs.YtnblhkhdilkbeaaDoor
open Go.RowKit

theorem ownsRow_cap2 {w : World} {B e size n : Nat} {v : Value} {xs : List Value} (h : w.ownsRow B e size v n xs) : ∀ a m c, v = .slice a m c → m ≤ c := by
  intro a m c hv
  rcases h.2 with ⟨h2, _⟩ | ⟨g, cap, cur, h2, _, _, hn, _⟩
  · rw [h2] at hv; simp at hv; omega
  · rw [h2] at hv; simp at hv; omega
/-- a block g holds a list of pairs, of which nothing is frozen -/
structure HoE (w : World) (g : Nat) (es : List (Int × Int)) : Prop where
  cell : ∀ j, j < es.length → w.cell? ⟨g, j * 2, none⟩ = some (.int .i64 (es.getD j (0, 0)).1) ∧ w.cell? ⟨g, j * 2 + 1, none⟩ = some (.int .i64 (es.getD j (0, 0)).2)
  free : ∀ j, w.frozen? ⟨g, j, none⟩ = false
  lt : g < w.heap.size

theorem HoE.chg {lo hi : Nat} {w w' : World} {g : Nat} {es : List (Int × Int)} (h : HoE w g es) (hb : Chg lo hi w w') (hg : g < lo ∨ hi ≤ g) : HoE w' g es :=
  ⟨fun j hj => ⟨hb.cell (h.cell j hj).1 hg, hb.cell (h.cell j hj).2 hg⟩, fun j => hb.frozen h.lt hg (h.free j), Nat.lt_of_lt_of_le h.lt hb.size⟩
theorem HoE.below {w w' : World} {g : Nat} {es : List (Int × Int)} (h : HoE w g es) (hb : Below w.heap.size w w') : HoE w' g es := h.chg (hb.chg 0 0) (.inr (Nat.zero_le _))
theorem HoE.rde {w : World} {g : Nat} {es : List (Int × Int)} (h : HoE w g es) : RdE w (some ⟨g, 0, none⟩) es := fun j hj => ⟨g, rfl, h.lt, (h.cell j hj).1, (h.cell j hj).2⟩

theorem map_erase {α β : Type} (f : α → β) (l : List α) (k : Nat) : (l.eraseIdx k).map f = (l.map f).eraseIdx k := by
  induction l generalizing k with
  | nil => simp
  | cons x r ih => cases k <;> simp [ih]
theorem unp_erase {s : Int} {xss : List (List Int)} {k : Nat} (h : grB s xss = true) : unp ((pairs xss).eraseIdx k) = xss.eraseIdx k := by
  have := unp_pairs h
  unfold unp at this ⊢
  rw [map_erase, this]
theorem erase_len {xss : List (List Int)} {k n : Nat} (hn : xss.length = n) (hk : k < n) : ((pairs xss).eraseIdx k).length = n - 1 := by
  rw [List.length_eraseIdx, if_pos (by rw [pairs_len]; omega), pairs_len]; omega
theorem erase_I64 {s : Int} {xss : List (List Int)} {k : Nat} (h : grB s xss = true) : ∀ j, j < ((pairs xss).eraseIdx k).length → I64 (((pairs xss).eraseIdx k).getD j (0, 0)).1 ∧ I64 (((pairs xss).eraseIdx k).getD j (0, 0)).2 := by
  intro j hj
  have hm := List.getElem_mem hj
  have e : ((pairs xss).eraseIdx k).getD j (0, 0) = ((pairs xss).eraseIdx k)[j] := by simp [List.getD, List.getElem?_eq_getElem hj]
  rw [e]
  obtain ⟨i, hi, he⟩ := List.getElem_of_mem (List.mem_of_mem_eraseIdx hm)
  have := gr_I64 h (k := i) (by rw [← pairs_len]; exact hi)
  rw [← he]
  simpa [List.getD, List.getElem?_eq_getElem hi] using this

end Go.Proofs.YtnblhkhdilkbeaaDoor

/- What ContractEdge answers. -/
namespace Go.Proofs.YtnblhkhdilkbeaaDoor
open Go.RowKit

/-- what becomes of a vertex -/
def vb (a b v : Int) : Int := if v = b then a else if b < v then v - 1 else v
def lowI (x y : Int) : Int := if y < x then y else x
def topI (x y : Int) : Int := if x < y then y else x
def conRow (x y : Int) (e : List Int) : List Int := e.map (vb (lowI x y) (topI x y))
def conRows (x y : Int) (xss : List (List Int)) : List (List Int) := xss.map (conRow x y)
def conOf (s : Int) (xss : List (List Int)) (k : Int) : (Int × List (List Int)) × Int :=
  if edgeCode s xss k ≠ 0 then ((0, []), edgeCode s xss k) else
  if (xss.getD k.toNat []).getD 0 0 = (xss.getD k.toNat []).getD 1 0 then ((0, []), 5) else
  ((s - 1, conRows ((xss.getD k.toNat []).getD 0 0) ((xss.getD k.toNat []).getD 1 0) (xss.eraseIdx k.toNat)), 0)

theorem conOf_lens (s : Int) (xss : List (List Int)) (k : Int) : lens (conOf s xss k).1.2 ≤ 1000 := by
  unfold conOf
  split
  · simp [lens]
  · rename_i hc
    split
    · simp [lens]
    · obtain ⟨hg, h0, h1⟩ := edgeCode_ok (s := s) (xss := xss) (k := k) (by omega)
      have h3 := (grB_iff hg).2.2.1
      show lens (conRows _ _ (xss.eraseIdx k.toNat)) ≤ 1000
      rw [lens_two]
      · have := List.length_eraseIdx_le xss k.toNat
        simp only [conRows, List.length_map]
        omega
      · intro e he
        simp only [conRows, List.mem_map] at he
        obtain ⟨e', he', rfl⟩ := he
        simp only [conRow, List.length_map]
        exact gr_two hg e' (List.mem_of_mem_eraseIdx he')

end Go.Proofs.YtnblhkhdilkbeaaDoor

/- Pruned graphs: what is left behind each leaf. -/
namespace Go.Proofs.YtnblhkhdilkbeaaDoor
open Go.RowKit

def leafN (S : Nat) (xss : List (List Int)) : Option Nat := (List.range S).find? (fun v : Nat => deg xss (v : Int) == 1)
def low (v a : Int) : Int := if v < a then a - 1 else a
def offV (v : Int) (e : List Int) : Bool := e.getD 0 0 != v && e.getD 1 0 != v
def lowE (v : Int) (e : List Int) : List Int := [low v (e.getD 0 0), low v (e.getD 1 0)]
def cutV (v : Int) (xss : List (List Int)) : List (List Int) := (xss.filter (offV v)).map (lowE v)
def prune : Nat → List (List Int) → Nat × List (List Int)
  | 0, xss => (0, xss)
  | S + 1, xss => match leafN (S + 1) xss with
    | none => (S + 1, xss)
    | some v => prune S (cutV (v : Int) xss)

theorem leaf_some {S v : Nat} {xss : List (List Int)} (hv : v < S) (h : ∀ u, u < v → ¬ deg xss (u : Int) = 1) (hl : deg xss (v : Int) = 1) : leafN S xss = some v := by
  unfold leafN
  have : ∀ (k : Nat), v < k → k ≤ S → (List.range k).find? (fun v : Nat => deg xss (v : Int) == 1) = some v := by
    intro k
    induction k with
    | zero => intro h0; omega
    | succ k ih =>
      intro h1 h2
      rw [List.range_succ, List.find?_append]
      by_cases e : v < k
      · rw [ih e (by omega)]; rfl
      · obtain rfl : v = k := by omega
        have e0 : (List.range v).find? (fun v : Nat => deg xss (v : Int) == 1) = none := by
          rw [List.find?_eq_none]
          intro u hu
          have := h u (List.mem_range.1 hu)
          simpa using this
        rw [e0]; simp [hl]
  exact this S hv (Nat.le_refl _)
theorem leaf_none {S : Nat} {xss : List (List Int)} (h : ∀ u, u < S → ¬ deg xss (u : Int) = 1) : leafN S xss = none := by
  unfold leafN
  rw [List.find?_eq_none]
  intro u hu
  have := h u (List.mem_range.1 hu)
  simpa using this
theorem leaf_get {S v : Nat} {xss : List (List Int)} (h : leafN S xss = some v) : v < S ∧ deg xss (v : Int) = 1 := by
  unfold leafN at h
  have h1 := List.mem_of_find?_eq_some h
  have h2 := List.find?_some h
  exact ⟨List.mem_range.1 h1, by simpa using h2⟩

theorem grB_mk {s : Int} {xss : List (List Int)} (h1 : 1 ≤ s) (h2 : s ≤ 8) (h3 : xss.length ≤ 10) (h4 : ∀ e ∈ xss, e.length = 2 ∧ 0 ≤ e.getD 0 0 ∧ e.getD 0 0 < s ∧ 0 ≤ e.getD 1 0 ∧ e.getD 1 0 < s) : grB s xss = true := by
  unfold grB
  simp only [Bool.and_eq_true, decide_eq_true_eq, List.all_eq_true]
  refine ⟨h1, h2, h3, fun e he => ?_⟩
  have := h4 e he
  simp only [edgeOk, inR, Bool.and_eq_true, decide_eq_true_eq]
  omega
theorem grB_mem {s : Int} {xss : List (List Int)} (h : grB s xss = true) : ∀ e ∈ xss, e.length = 2 ∧ 0 ≤ e.getD 0 0 ∧ e.getD 0 0 < s ∧ 0 ≤ e.getD 1 0 ∧ e.getD 1 0 < s := by
  intro e he
  obtain ⟨i, hi, rfl⟩ := List.getElem_of_mem he
  have := (grB_iff h).2.2.2 i hi
  have e1 : xss.getD i [] = xss[i] := by simp [List.getD, List.getElem?_eq_getElem hi]
  rw [e1] at this; exact this
theorem deg_even {xss : List (List Int)} {v : Int} (h : ∀ e ∈ xss, e.getD 0 0 = v ∧ e.getD 1 0 = v) : deg xss v = 2 * xss.length := by
  induction xss with
  | nil => rfl
  | cons e r ih =>
    have h1 := h e (by simp)
    have h2 := ih (fun f hf => h f (by simp [hf]))
    simp only [deg, List.map_cons, List.sum_cons, List.length_cons] at h2 ⊢
    rw [h2]
    simp only [dg, h1.1, h1.2, one, beq_self_eq_true, if_true]
    omega
theorem cut_gr {S v : Nat} {xss : List (List Int)} (hg : grB (S : Int) xss = true) (hv : v < S) (hd : deg xss (v : Int) = 1) : 2 ≤ S ∧ grB ((S - 1 : Nat) : Int) (cutV (v : Int) xss) = true := by
  have hm := grB_mem hg
  obtain ⟨h1, h2, h3, _⟩ := grB_iff hg
  have hS : 2 ≤ S := by
    by_cases e : 2 ≤ S
    · exact e
    · exfalso
      have hv0 : v = 0 := by omega
      have := deg_even (xss := xss) (v := (v : Int)) (fun e he => by have := hm e he; omega)
      omega
  refine ⟨hS, grB_mk (by omega) (by omega) ?_ (fun e he => ?_)⟩
  · have := List.length_filter_le (offV (v : Int)) xss
    simp only [cutV, List.length_map]; omega
  · simp only [cutV, List.mem_map, List.mem_filter] at he
    obtain ⟨f, ⟨hf, ho⟩, rfl⟩ := he
    have h5 := hm f hf
    simp only [offV, Bool.and_eq_true, bne_iff_ne] at ho
    obtain ⟨o1, o2⟩ := ho
    simp only [lowE, List.length_cons, List.length_nil, List.getD_cons_zero, List.getD_cons_succ, low]
    refine ⟨trivial, ?_⟩
    split <;> split <;> omega
theorem prune_some {S v : Nat} {xss : List (List Int)} (hS : 1 ≤ S) (h : leafN S xss = some v) : prune S xss = prune (S - 1) (cutV (v : Int) xss) := by
  obtain ⟨k, rfl⟩ : ∃ k, S = k + 1 := ⟨S - 1, by omega⟩
  simp only [prune, h, Nat.add_sub_cancel]
theorem prune_none {S : Nat} {xss : List (List Int)} (hS : 1 ≤ S) (h : leafN S xss = none) : prune S xss = (S, xss) := by
  obtain ⟨k, rfl⟩ : ∃ k, S = k + 1 := ⟨S - 1, by omega⟩
  simp only [prune, h]
theorem cut_step_in {xss : List (List Int)} {j : Nat} {v : Int} (hj : j < xss.length) (h : offV v (xss.getD j []) = true) : cutV v (xss.take (j + 1)) = cutV v (xss.take j) ++ [lowE v (xss.getD j [])] := by
  unfold cutV
  rw [take_snocR hj, List.filter_append, List.map_append]
  simp only [List.filter_cons, h, if_true, List.filter_nil, List.map_cons, List.map_nil]
theorem cut_step_out {xss : List (List Int)} {j : Nat} {v : Int} (hj : j < xss.length) (h : offV v (xss.getD j []) = false) : cutV v (xss.take (j + 1)) = cutV v (xss.take j) := by
  unfold cutV
  rw [take_snocR hj, List.filter_append, List.map_append]
  simp only [List.filter_cons, h, List.filter_nil, List.map_nil, List.append_nil, Bool.false_eq_true, if_false]
theorem cut_len (v : Int) (xss : List (List Int)) : (cutV v xss).length ≤ xss.length := by
  have := List.length_filter_le (offV v) xss
  simp only [cutV, List.length_map]; omega
theorem prune_gr : ∀ (S : Nat) (xss : List (List Int)), grB (S : Int) xss = true → grB ((prune S xss).1 : Int) (prune S xss).2 = true
  | 0, xss, h => h
  | S + 1, xss, h => by
    cases hl : leafN (S + 1) xss with
    | none => rw [prune_none (by omega) hl]; exact h
    | some v =>
      obtain ⟨h1, h2⟩ := leaf_get hl
      rw [prune_some (by omega) hl]
      exact prune_gr S _ (by simpa using (cut_gr h h1 h2).2)
def pruneOf (s : Int) (xss : List (List Int)) : (Int × List (List Int)) × Int := if grB s xss = true then ((((prune s.toNat xss).1 : Int), (prune s.toNat xss).2), 0) else ((0, []), 1)
theorem pruneOf_lens (s : Int) (xss : List (List Int)) : lens (pruneOf s xss).1.2 ≤ 1000 := by
  unfold pruneOf
  split
  · rename_i hg
    have h1 := grB_iff hg
    obtain ⟨S, rfl⟩ : ∃ S : Nat, s = S := ⟨s.toNat, by omega⟩
    have := prune_gr S xss hg
    show lens (prune S xss).2 ≤ 1000
    rw [lens_two (gr_two this)]
    have := grB_iff this
    omega
  · simp [lens]

end Go.Proofs.YtnblhkhdilkbeaaDoor

/- DegreesOf of the program, for every graph value. -/
namespace Go.Proofs.YtnblhkhdilkbeaaDoor
open Go.RowKit

set_option maxHeartbeats 800000 in
theorem implDegrees_nil {lo hi : Nat} (m : Nat) (a : Option Addr) (c : Nat) (w : World) (h : RdR lo hi w (.slice a 0 c) []) (hg : grB (m : Int) [] = true) :
    Calls Tryd.prog 57 #[.agg #[.int .i64 (m : Int), .slice a 0 c]] w fun e w' => ∃ v, e = .returned (.tuple #[v, .int .i64 0]) ∧ w'.ownsRow w.heap.size 2 1 v m (dgl m []) ∧ Below w.heap.size w w' := by
  obtain ⟨i0, hi', z0, z1, z2⟩ := info_parts Tryd.info2
  have hb0 : ∀ o, Below w.heap.size w (w.alloc o) := fun o => (Below.refl _ _).alloc (Nat.le_refl _) o
  obtain ⟨hs1, hs2, _, _⟩ := grB_iff hg
  have HG := Lib.hid hg
  clear hg
  go_enter Tryd.func57, Tryd.ntmps57
  go_wp2_with fail
  refine calls_gen (fun W => Below w.heap.size w W ∧ w.heap.size < W.heap.size ∧ W.cell? ⟨w.heap.size, 0, none⟩ = some (.int .i64 (m : Int)) ∧ W.cell? ⟨w.heap.size, 1, none⟩ = some (.slice a 0 c)) ⟨hb0 _, by simp, by go_simp, by go_simp⟩ ?_
  rintro W ⟨hB, hz, k1, k2⟩
  refine (implIsGraph _ a 0 c [] W (h.below hB) rfl).mono ?_
  rw [HG.out]
  rintro e w1 ⟨rfl, b1⟩
  replace k1 := b1.keep k1
  replace k2 := b1.keep k2
  replace hB := hB.next b1
  clear b1
  go_wp2_with (at_make; refine wpList_make_full _ rfl _ _ 25 rfl w1.heap.size 2 i0 (.int .i64 0) 1 Tryd.underlying25 hi' z0 z1 _ _ _ _ m rfl rfl rfl rfl ?c1 ?c2 ?c3 ?_)
  case c1 => rw [z2]; omega
  case c2 => unfold maxLen; omega
  case c3 => exact Nat.le_refl _
  intro w2 hown hgr
  rw [dgl_zero m] at hown
  have hB2 : Below w.heap.size w w2 := hB.grown hgr hB.size (by simp)
  replace k1 := hgr.cell k1 (by simp)
  replace k2 := hgr.cell k2 (by simp)
  have hsB := hB.size
  clear hgr hB
  go_wp2_with fail
  refine (edgesOf _ a 0 c [] w2 (h.below hB2) HG.out rfl).mono ?_
  rintro e w3 ⟨a3, c3, rfl, o3, b3⟩
  have hB3 := hB2.next b3
  have hown3 := ownsRow_chg hown (b3.chg 0 0) (fun _ _ => .inr (Nat.zero_le _))
  clear o3 b3 hown k1 k2
  go_wp2
  refine wp_loop_rounds 1 ?_
  rw [rounds_succ]
  go_wp2
  go_ret2
  exact ⟨_, rfl, ownsRow_mono hown3 hsB, hB3⟩

theorem implDegrees_no {lo hi : Nat} (s : Int) (a : Option Addr) (n c : Nat) (xss : List (List Int)) (w : World) (h : RdR lo hi w (.slice a n c) xss) (hn : xss.length = n) (hg : grB s xss = false) :
    Calls Tryd.prog 57 #[.agg #[.int .i64 s, .slice a n c]] w fun e w' => e = .returned (.tuple #[.slice none 0 0, .int .i64 1]) ∧ Below w.heap.size w w' := by
  have hb0 : ∀ o, Below w.heap.size w (w.alloc o) := fun o => (Below.refl _ _).alloc (Nat.le_refl _) o
  go_enter Tryd.func57, Tryd.ntmps57
  go_wp2_with fail
  refine calls_gen (fun W => Below w.heap.size w W) (hb0 _) ?_
  intro W hB
  refine (implIsGraph s a n c xss W (h.below hB) hn).mono ?_
  rw [hg]
  rintro e w1 ⟨rfl, b1⟩
  replace hB := hB.next b1
  go_wp2
  go_ret2
  exact ⟨rfl, hB⟩

theorem implDegrees {lo hi : Nat} (s : Int) (a : Option Addr) (n c : Nat) (xss : List (List Int)) (w : World) (h : RdR lo hi w (.slice a n c) xss) (hn : xss.length = n) :
    Calls Tryd.prog 57 #[.agg #[.int .i64 s, .slice a n c]] w fun e w' => ∃ a' c', e = .returned (.tuple #[.slice a' (degreesOf s xss).1.length c', .int .i64 (degreesOf s xss).2]) ∧
      OwI w.heap.size w'.heap.size w' (.slice a' (degreesOf s xss).1.length c') (degreesOf s xss).1 ∧ Below w.heap.size w w' := by
  cases hg : grB s xss with
  | false =>
    refine (implDegrees_no s a n c xss w h hn hg).mono fun e w' ⟨he, hb⟩ => ⟨none, 0, ?_, ?_, hb⟩
    · rw [he]; simp [degreesOf, hg]
    · simp only [degreesOf, hg]; exact OwI.nil _ _ _
  | true =>
    obtain ⟨m, rfl⟩ : ∃ m : Nat, s = m := ⟨s.toNat, by have := (grB_iff hg).1; omega⟩
    have e1 : degreesOf (m : Int) xss = (degs m xss, 0) := by simp [degreesOf, hg]
    have e2 : dgl m xss = (degs m xss).map (Value.int .i64) := by simp [dgl, degs]
    have fin : ∀ (e : Ending) (w' : World) v, e = .returned (.tuple #[v, .int .i64 0]) → w'.ownsRow w.heap.size 2 1 v m (dgl m xss) → Below w.heap.size w w' → ∃ a' c', e = .returned (.tuple #[.slice a' (degreesOf (m : Int) xss).1.length c', .int .i64 (degreesOf (m : Int) xss).2]) ∧
        OwI w.heap.size w'.heap.size w' (.slice a' (degreesOf (m : Int) xss).1.length c') (degreesOf (m : Int) xss).1 ∧ Below w.heap.size w w' := by
      intro e w' v he ho hb
      rw [e2] at ho
      have hO : OwI w.heap.size w'.heap.size w' v (degs m xss) := .mk ho (by have := (grB_iff hg).2.1; omega) (degs_I64 (grB_iff hg).2.2.1)
      obtain ⟨a', c', hv⟩ := hO.rd.shape
      subst hv
      rw [e1]
      exact ⟨a', c', he, hO, hb⟩
    by_cases h0 : 0 < n
    · exact (implDegrees_yes m a n c xss w h hn hg h0).mono fun e w' ⟨v, he, ho, hb⟩ => fin e w' v he ho hb
    · obtain rfl : n = 0 := by omega
      have := List.length_eq_zero_iff.1 hn
      subst this
      exact (implDegrees_nil m a c w h hg).mono fun e w' ⟨v, he, ho, hb⟩ => fin e w' v he ho hb

end Go.Proofs.YtnblhkhdilkbeaaDoor

/- Parts of graphs: labels by merging, and by rounds of taking the lesser one: they are the same. -/
namespace Go.Proofs.YtnblhkhdilkbeaaDoor

def lab (L : List Nat) (v : Nat) : Nat := L.getD v 0
def mergeN (L : List Nat) (e : Nat × Nat) : List Nat := L.map (fun z => if z = max (lab L e.1) (lab L e.2) then min (lab L e.1) (lab L e.2) else z)
def relaxN (F : List Nat) (e : Nat × Nat) : List Nat := (F.set e.1 (min (lab F e.1) (lab F e.2))).set e.2 (min (lab F e.1) (lab F e.2))
def labelsN (s : Nat) (es : List (Nat × Nat)) : List Nat := es.foldl mergeN (List.range s)
def roundN (es : List (Nat × Nat)) (F : List Nat) : List Nat := es.foldl relaxN F
def roundsN (es : List (Nat × Nat)) : Nat → List Nat → List Nat
  | 0, F => F
  | r + 1, F => roundN es (roundsN es r F)

theorem lab_map {L : List Nat} {f : Nat → Nat} {v : Nat} (h : v < L.length) : lab (L.map f) v = f (lab L v) := by simp [lab, List.getD, List.getElem?_eq_getElem h]
theorem lab_set {L : List Nat} {a v m : Nat} (h : a < L.length) : lab (L.set a m) v = if v = a then m else lab L v := by
  unfold lab
  by_cases e : v = a
  · subst e; simp [List.getD, h]
  · rw [if_neg e]; simp [List.getD, List.getElem?_set, Ne.symm e]
theorem lab_range {s v : Nat} (h : v < s) : lab (List.range s) v = v := by simp [lab, List.getD, h]

/-- the labels L of s vertices, where the edges P have been merged -/
structure LabI (s : Nat) (P : List (Nat × Nat)) (L : List Nat) : Prop where
  len : L.length = s
  inb : ∀ e, e ∈ P → e.1 < s ∧ e.2 < s
  le : ∀ v, v < s → lab L v ≤ v
  idem : ∀ v, v < s → lab L (lab L v) = lab L v
  edge : ∀ e, e ∈ P → lab L e.1 = lab L e.2
  close : ∀ C : Nat → Prop, (∀ e, e ∈ P → (C e.1 ↔ C e.2)) → ∀ v, v < s → (C v ↔ C (lab L v))

theorem LabI.start (s : Nat) : LabI s [] (List.range s) :=
  ⟨by simp, fun e he => by simp at he, fun v hv => by rw [lab_range hv]; exact Nat.le_refl _, fun v hv => by rw [lab_range hv, lab_range hv], fun e he => by simp at he, fun C _ v hv => by rw [lab_range hv]⟩

theorem LabI.step {s : Nat} {P : List (Nat × Nat)} {L : List Nat} (h : LabI s P L) {e : Nat × Nat} (h1 : e.1 < s) (h2 : e.2 < s) : LabI s (P ++ [e]) (mergeN L e) := by
  have hl := h.len
  have hx := h.idem e.1 h1
  have hy := h.idem e.2 h2
  have hxl := h.le e.1 h1
  have hyl := h.le e.2 h2
  have key : ∀ v, v < s → lab (mergeN L e) v = if lab L v = max (lab L e.1) (lab L e.2) then min (lab L e.1) (lab L e.2) else lab L v := fun v hv => lab_map (by omega)
  have hlo : lab L (min (lab L e.1) (lab L e.2)) = min (lab L e.1) (lab L e.2) := by
    rcases Nat.le_total (lab L e.1) (lab L e.2) with q | q
    · rw [Nat.min_eq_left q]; exact hx
    · rw [Nat.min_eq_right q]; exact hy
  have hlos : min (lab L e.1) (lab L e.2) < s := by omega
  refine ⟨by simp [mergeN, hl], fun f hf => ?_, fun v hv => ?_, fun v hv => ?_, fun f hf => ?_, fun C hC v hv => ?_⟩
  · rw [List.mem_append] at hf
    rcases hf with hf | hf
    · exact h.inb f hf
    · simp at hf; subst hf; exact ⟨h1, h2⟩
  · have := h.le v hv
    rw [key v hv]; split <;> omega
  · have hv1 := h.le v hv
    rw [key v hv]
    split
    · rw [key _ hlos, hlo]; split <;> omega
    · rename_i hne
      rw [key _ (by omega), h.idem v hv, if_neg hne]
  · rw [List.mem_append] at hf
    rcases hf with hf | hf
    · obtain ⟨i1, i2⟩ := h.inb f hf
      rw [key _ i1, key _ i2, h.edge f hf]
    · simp at hf
      subst hf
      rw [key _ h1, key _ h2]
      split <;> split <;> omega
  · have hP : ∀ f, f ∈ P → (C f.1 ↔ C f.2) := fun f hf => hC f (by simp [hf])
    have he : C e.1 ↔ C e.2 := hC e (by simp)
    have c1 := h.close C hP e.1 h1
    have c2 := h.close C hP e.2 h2
    have cv := h.close C hP v hv
    have hml : C (max (lab L e.1) (lab L e.2)) ↔ C (min (lab L e.1) (lab L e.2)) := by
      rcases Nat.le_total (lab L e.1) (lab L e.2) with q | q
      · rw [Nat.max_eq_right q, Nat.min_eq_left q]; exact c2.symm.trans (he.symm.trans c1)
      · rw [Nat.max_eq_left q, Nat.min_eq_right q]; exact c1.symm.trans (he.trans c2)
    rw [key v hv]
    split
    · rename_i hq
      rw [cv, hq]; exact hml
    · exact cv

theorem LabI.fold {s : Nat} : ∀ (es P : List (Nat × Nat)) (L : List Nat), LabI s P L → (∀ e ∈ es, e.1 < s ∧ e.2 < s) → LabI s (P ++ es) (es.foldl mergeN L)
  | [], P, L, h, _ => by simpa using h
  | e :: r, P, L, h, hb => by
    have hb1 := hb e (by simp)
    have := LabI.fold r (P ++ [e]) (mergeN L e) (h.step hb1.1 hb1.2) (fun f hf => hb f (by simp [hf]))
    simpa using this
theorem labelsI {s : Nat} {es : List (Nat × Nat)} (hb : ∀ e ∈ es, e.1 < s ∧ e.2 < s) : LabI s es (labelsN s es) := by
  have := LabI.fold es [] _ (LabI.start s) hb
  simpa [labelsN] using this

/-- numbers on their way down to the labels -/
structure DownI (s : Nat) (L F : List Nat) : Prop where
  len : F.length = s
  le : ∀ v, v < s → lab F v ≤ v
  same : ∀ v, v < s → lab L (lab F v) = lab L v
theorem DownI.ge {s : Nat} {P : List (Nat × Nat)} {L F : List Nat} (hL : LabI s P L) (h : DownI s L F) {v : Nat} (hv : v < s) : lab L v ≤ lab F v := by
  have h1 := h.le v hv
  have h2 := hL.le (lab F v) (by omega)
  rw [h.same v hv] at h2; exact h2

theorem lab_relax {F : List Nat} {e : Nat × Nat} {v s : Nat} (hl : F.length = s) (h1 : e.1 < s) (h2 : e.2 < s) : lab (relaxN F e) v = if v = e.2 ∨ v = e.1 then min (lab F e.1) (lab F e.2) else lab F v := by
  unfold relaxN
  rw [lab_set (by rw [List.length_set]; omega), lab_set (by omega)]
  by_cases q : v = e.2
  · rw [if_pos q, if_pos (.inl q)]
  · rw [if_neg q]
    by_cases q2 : v = e.1
    · rw [if_pos q2, if_pos (.inr q2)]
    · rw [if_neg q2, if_neg (by omega)]

theorem DownI.relax {s : Nat} {P : List (Nat × Nat)} {L F : List Nat} (hL : LabI s P L) (h : DownI s L F) {e : Nat × Nat} (he : e ∈ P) : DownI s L (relaxN F e) ∧ ∀ v, v < s → lab (relaxN F e) v ≤ lab F v := by
  obtain ⟨h1, h2⟩ := hL.inb e he
  have hed := hL.edge e he
  have s1 := h.same e.1 h1
  have s2 := h.same e.2 h2
  have l1 := h.le e.1 h1
  have l2 := h.le e.2 h2
  have hm : lab L (min (lab F e.1) (lab F e.2)) = lab L e.1 := by
    rcases Nat.le_total (lab F e.1) (lab F e.2) with q | q
    · rw [Nat.min_eq_left q]; exact s1
    · rw [Nat.min_eq_right q, s2, hed]
  refine ⟨⟨by simp [relaxN, h.len], fun v hv => ?_, fun v hv => ?_⟩, fun v hv => ?_⟩
  · rw [lab_relax h.len h1 h2]
    have := h.le v hv
    split
    · rename_i q
      rcases q with rfl | rfl <;> omega
    · exact this
  · rw [lab_relax h.len h1 h2]
    split
    · rename_i q
      rcases q with rfl | rfl
      · rw [hm, hed]
      · exact hm
    · exact h.same v hv
  · rw [lab_relax h.len h1 h2]
    split
    · rename_i q
      rcases q with rfl | rfl <;> omega
    · exact Nat.le_refl _

theorem DownI.round {s : Nat} {P : List (Nat × Nat)} {L : List Nat} (hL : LabI s P L) : ∀ (es : List (Nat × Nat)) (F : List Nat), (∀ e ∈ es, e ∈ P) → DownI s L F →
    DownI s L (roundN es F) ∧ (∀ v, v < s → lab (roundN es F) v ≤ lab F v) ∧ ∀ e ∈ es, (lab F e.1 = lab L e.1 ∨ lab F e.2 = lab L e.2) → lab (roundN es F) e.1 = lab L e.1 ∧ lab (roundN es F) e.2 = lab L e.2
  | [], F, _, h => ⟨h, fun v _ => Nat.le_refl _, fun e he => by simp at he⟩
  | e :: r, F, hm, h => by
    have he := hm e (by simp)
    obtain ⟨g1, g2⟩ := h.relax hL he
    obtain ⟨i1, i2, i3⟩ := DownI.round hL r (relaxN F e) (fun f hf => hm f (by simp [hf])) g1
    have e0 : roundN (e :: r) F = roundN r (relaxN F e) := rfl
    rw [e0]
    refine ⟨i1, fun v hv => Nat.le_trans (i2 v hv) (g2 v hv), fun f hf hq => ?_⟩
    obtain ⟨b1, b2⟩ := hL.inb f (hm f hf)
    have keep : ∀ v, v < s → lab (relaxN F e) v = lab L v → lab (roundN r (relaxN F e)) v = lab L v := fun v hv hq => by
      have q1 := i2 v hv
      have q2 := i1.ge hL hv
      omega
    rw [List.mem_cons] at hf
    rcases hf with rfl | hf
    · have hr : ∀ v, v = f.2 ∨ v = f.1 → lab (relaxN F f) v = min (lab F f.1) (lab F f.2) := fun v hv => by rw [lab_relax h.len b1 b2, if_pos hv]
      have a1 := h.ge hL b1
      have a2 := h.ge hL b2
      have hed := hL.edge f he
      exact ⟨keep _ b1 (by rw [hr _ (.inr rfl)]; omega), keep _ b2 (by rw [hr _ (.inl rfl)]; omega)⟩
    · have a1 := g2 f.1 b1
      have a2 := g2 f.2 b2
      have c1 := g1.ge hL b1
      have c2 := g1.ge hL b2
      exact i3 f hf (hq.imp (fun q => by omega) (fun q => by omega))

theorem count_lt {s : Nat} {p q : Nat → Bool} (h : ∀ v, v < s → p v = true → q v = true) (hx : ∃ v, v < s ∧ p v = false ∧ q v = true) : (List.range s).countP p < (List.range s).countP q := by
  induction s with
  | zero => obtain ⟨v, hv, _⟩ := hx; omega
  | succ s ih =>
    rw [List.range_succ, List.countP_append, List.countP_append]
    have hm : (List.range s).countP p ≤ (List.range s).countP q := List.countP_mono_left (fun v hv hp => h v (by have := List.mem_range.1 hv; omega) hp)
    have hs : ([s].countP p) ≤ ([s].countP q) := List.countP_mono_left (fun v hv hp => h v (by simp at hv; omega) hp)
    obtain ⟨v, hv, h1, h2⟩ := hx
    by_cases e : v = s
    · subst e
      have e1 : [v].countP p = 0 := by simp [h1]
      have e2 : [v].countP q = 1 := by simp [h2]
      omega
    · have := ih (fun v hv hp => h v (by omega) hp) ⟨v, by omega, h1, h2⟩
      omega

theorem rounds_down {s : Nat} {es : List (Nat × Nat)} {L F : List Nat} (hL : LabI s es L) (h : DownI s L F) : ∀ r, DownI s L (roundsN es r F)
  | 0 => h
  | r + 1 => (DownI.round hL es _ (fun e he => he) (rounds_down hL h r)).1

/-- of each root as many as rounds, and one, have come down, if not all -/
theorem rounds_count {s : Nat} {es : List (Nat × Nat)} {L F : List Nat} (hL : LabI s es L) (h : DownI s L F) {m : Nat} (hm : m < s) (hr : lab L m = m) : ∀ r, (∀ v, v < s → lab L v = m → lab (roundsN es r F) v = m) ∨ r + 1 ≤ (List.range s).countP (fun v => lab (roundsN es r F) v == m)
  | 0 => by
    right
    have h1 := h.le m hm
    have h2 := h.ge hL hm
    have h3 : lab (roundsN es 0 F) m = m := by show lab F m = m; omega
    refine List.countP_pos_iff.2 ⟨m, List.mem_range.2 hm, by simp [h3]⟩
  | r + 1 => by
    have hd := rounds_down hL h r
    obtain ⟨i1, i2, i3⟩ := DownI.round hL es _ (fun e he => he) hd
    have keep : ∀ v, v < s → lab (roundsN es r F) v = m → lab (roundsN es (r+1) F) v = m := fun v hv hq => by
      have q1 : lab (roundsN es (r+1) F) v ≤ _ := i2 v hv
      have q2 := i1.ge hL hv
      have q3 := hd.same v hv
      rw [hq, hr] at q3
      have q4 : lab (roundsN es (r+1) F) v = lab (roundN es (roundsN es r F)) v := rfl
      omega
    rcases rounds_count hL h hm hr r with ih | ih
    · left; exact fun v hv hq => keep v hv (ih v hv hq)
    · by_cases hc : ∀ e ∈ es, (lab (roundsN es r F) e.1 = m ↔ lab (roundsN es r F) e.2 = m)
      · left
        intro v hv hq
        have hcl := (hL.close (fun v => lab (roundsN es r F) v = m) hc v hv)
        rw [hq] at hcl
        refine keep v hv (hcl.2 ?_)
        have h1 := hd.le m hm
        have h2 := hd.ge hL hm
        omega
      · right
        have : ∃ e, e ∈ es ∧ ¬ (lab (roundsN es r F) e.1 = m ↔ lab (roundsN es r F) e.2 = m) := Classical.byContradiction fun hn => hc (fun e he => Classical.byContradiction fun hn2 => hn ⟨e, he, hn2⟩)
        obtain ⟨e, he, hne⟩ := this
        obtain ⟨b1, b2⟩ := hL.inb e he
        have hed := hL.edge e he
        have s1 := hd.same e.1 b1
        have s2 := hd.same e.2 b2
        have hlt : (List.range s).countP (fun v => lab (roundsN es r F) v == m) < (List.range s).countP (fun v => lab (roundsN es (r+1) F) v == m) := by
          refine count_lt (fun v hv hp => ?_) ?_
          · simp only [beq_iff_eq] at hp ⊢; exact keep v hv hp
          · by_cases q1 : lab (roundsN es r F) e.1 = m
            · have q2 : ¬ lab (roundsN es r F) e.2 = m := fun q2 => hne ⟨fun _ => q2, fun _ => q1⟩
              rw [q1, hr] at s1
              have := i3 e he (.inl (by rw [q1]; exact s1))
              refine ⟨e.2, b2, by simpa using q2, ?_⟩
              have q4 : lab (roundsN es (r+1) F) e.2 = lab (roundN es (roundsN es r F)) e.2 := rfl
              simp only [beq_iff_eq]; omega
            · have q2 : lab (roundsN es r F) e.2 = m := Classical.byContradiction fun q2 => hne ⟨fun q => absurd q q1, fun q => absurd q q2⟩
              rw [q2, hr] at s2
              have := i3 e he (.inr (by rw [q2]; exact s2))
              refine ⟨e.1, b1, by simpa using q1, ?_⟩
              have q4 : lab (roundsN es (r+1) F) e.1 = lab (roundN es (roundsN es r F)) e.1 := rfl
              simp only [beq_iff_eq]; omega
        omega

theorem DownI.start {s : Nat} {P : List (Nat × Nat)} {L : List Nat} (hL : LabI s P L) : DownI s L (List.range s) :=
  ⟨by simp, fun v hv => by rw [lab_range hv]; exact Nat.le_refl _, fun v hv => by rw [lab_range hv]⟩

theorem rounds_labels {s : Nat} {es : List (Nat × Nat)} (hb : ∀ e ∈ es, e.1 < s ∧ e.2 < s) : roundsN es s (List.range s) = labelsN s es := by
  have hL := labelsI hb
  have hd := rounds_down hL (DownI.start hL) s
  apply List.ext_getElem
  · rw [hd.len, hL.len]
  · intro v h1 h2
    rw [hd.len] at h1
    have e1 : (roundsN es s (List.range s))[v]'(by rw [hd.len]; exact h1) = lab (roundsN es s (List.range s)) v := by simp [lab, List.getD, List.getElem?_eq_getElem (show v < (roundsN es s (List.range s)).length by rw [hd.len]; exact h1)]
    have e2 : (labelsN s es)[v] = lab (labelsN s es) v := by simp [lab, List.getD, List.getElem?_eq_getElem h2]
    rw [e1, e2]
    have hlv := hL.le v h1
    have hroot := hL.idem v h1
    rcases rounds_count hL (DownI.start hL) (m := lab (labelsN s es) v) (by omega) hroot s with q | q
    · exact q v h1 rfl
    · have := List.countP_le_length (p := fun w => lab (roundsN es s (List.range s)) w == lab (labelsN s es) v) (l := List.range s)
      rw [List.length_range] at this
      omega

end Go.Proofs.YtnblhkhdilkbeaaDoor

/- The first vertices of the parts: the program. -/
namespace Go.Proofs.YtnblhkhdilkbeaaDoor
open Go.RowKit

def zs (L : List Nat) : List Int := L.map (fun n : Nat => (n : Int))
theorem zs_len (L : List Nat) : (zs L).length = L.length := by simp [zs]
theorem zs_get {L : List Nat} {v : Nat} (h : v < L.length) : (zs L).getD v 0 = (lab L v : Int) := by simp [zs, lab, List.getD, List.getElem?_eq_getElem h]
theorem zs_set (L : List Nat) (k m : Nat) : (zs L).set k (m : Int) = zs (L.set k m) := by simp [zs, List.map_set]
def vz (L : List Nat) : List Value := (zs L).map (Value.int .i64)
theorem vz_len (L : List Nat) : (vz L).length = L.length := by simp [vz, zs]
theorem vz_get {L : List Nat} {v : Nat} (h : v < L.length) : (vz L)[v]? = some (.int .i64 (lab L v : Int)) := by simp [vz, zs, lab, List.getD, List.getElem?_eq_getElem h]
theorem vz_set (L : List Nat) (k m : Nat) : (vz L).set k (.int .i64 (m : Int)) = vz (L.set k m) := by simp [vz, zs, List.map_set]
def nE (xss : List (List Int)) : List (Nat × Nat) := (pairs xss).map (fun e => (e.1.toNat, e.2.toNat))
theorem nE_len (xss : List (List Int)) : (nE xss).length = xss.length := by simp [nE, pairs]
theorem nE_get {s : Int} {xss : List (List Int)} (h : grB s xss = true) {k : Nat} (hk : k < xss.length) : ((nE xss).getD k (0, 0)).1 = ((pairs xss).getD k (0, 0)).1.toNat ∧ ((nE xss).getD k (0, 0)).2 = ((pairs xss).getD k (0, 0)).2.toNat := by
  have : k < (pairs xss).length := by rw [pairs_len]; exact hk
  simp [nE, List.getD, List.getElem?_eq_getElem this]
theorem nE_in {s : Nat} {xss : List (List Int)} (h : grB (s : Int) xss = true) : ∀ e ∈ nE xss, e.1 < s ∧ e.2 < s := by
  intro e he
  simp only [nE, pairs, List.map_map, List.mem_map] at he
  obtain ⟨r, hr, rfl⟩ := he
  obtain ⟨i, hi, rfl⟩ := List.getElem_of_mem hr
  have := (grB_iff h).2.2.2 i hi
  have e1 : xss.getD i [] = xss[i] := by simp [List.getD, List.getElem?_eq_getElem hi]
  rw [e1] at this
  simp only [Function.comp]
  omega
theorem relax_comm (L : List Nat) (a b m : Nat) : (L.set b m).set a m = (L.set a m).set b m := by
  by_cases h : a = b
  · rw [h]
  · exact List.set_comm _ _ (fun e => h e.symm)

theorem fold_snoc {α β : Type} (f : β → α → β) (l : List α) (b : β) (k : Nat) (d : α) (h : k < l.length) : (l.take (k+1)).foldl f b = f ((l.take k).foldl f b) (l.getD k d) := by
  rw [List.take_add_one, List.getElem?_eq_getElem h, List.foldl_append]
  simp [List.getD, List.getElem?_eq_getElem h]

theorem relax_len (F : List Nat) (e : Nat × Nat) : (relaxN F e).length = F.length := by simp [relaxN]
theorem foldr_len : ∀ (es : List (Nat × Nat)) (F : List Nat), (es.foldl relaxN F).length = F.length
  | [], F => rfl
  | e :: r, F => by rw [List.foldl_cons, foldr_len r, relax_len]
theorem roundsN_len (es : List (Nat × Nat)) (F : List Nat) : ∀ r, (roundsN es r F).length = F.length
  | 0 => rfl
  | r + 1 => by show (es.foldl relaxN (roundsN es r F)).length = _; rw [foldr_len, roundsN_len es F r]

end Go.Proofs.YtnblhkhdilkbeaaDoor

/- The program's first leaf. -/
namespace Go.Proofs.YtnblhkhdilkbeaaDoor
open Go.RowKit

def ixI (o : Option Nat) : Int := match o with | some v => (v : Int) | none => -1
theorem find_congr {p q : Nat → Bool} {l : List Nat} (h : ∀ x ∈ l, p x = q x) : l.find? p = l.find? q := by
  induction l with
  | nil => rfl
  | cons a r ih =>
    simp only [List.find?_cons]
    rw [h a (by simp), ih (fun x hx => h x (by simp [hx]))]

/-- the first place of 1 among the first k numbers -/
theorem index_ne (n b off cap : Nat) (xs : List Int) (w : World) (hx : xs.length = n) (hn : n ≤ 1000)
    (hc : ∀ j, j < n → w.cell? ⟨b, off + j, none⟩ = some (.int .i64 (xs.getD j 0))) :
    Calls Tryd.prog 111 #[.slice (some ⟨b, off, none⟩) n cap, .int .i64 1] w fun e w' => e = .returned (.int .i64 (ixI ((List.range n).find? (fun j => xs.getD j 0 == 1)))) ∧ Qt w w' := by
  have HC := Lib.hid hc
  have hgen : ∀ k, k ≤ n → (∀ u, u < k → ¬ xs.getD u 0 = 1) → k < n → xs.getD k 0 = 1 → (List.range n).find? (fun j => xs.getD j 0 == 1) = some k := by
    intro k hk h1 h2 h3
    have : ∀ m, k < m → m ≤ n → (List.range m).find? (fun j => xs.getD j 0 == 1) = some k := by
      intro m
      induction m with
      | zero => intro h0; omega
      | succ m ih =>
        intro q1 q2
        rw [List.range_succ, List.find?_append]
        by_cases e : k < m
        · rw [ih e (by omega)]; rfl
        · obtain rfl : k = m := by omega
          have e0 : (List.range k).find? (fun j => xs.getD j 0 == 1) = none := by
            rw [List.find?_eq_none]
            intro u hu
            have := h1 u (List.mem_range.1 hu)
            simpa using this
          rw [e0]; simp only [List.find?_cons, h3]; rfl
    exact this n h2 (Nat.le_refl _)
  have hnone : (∀ u, u < n → ¬ xs.getD u 0 = 1) → (List.range n).find? (fun j => xs.getD j 0 == 1) = none := by
    intro h
    rw [List.find?_eq_none]
    intro u hu
    have := h u (List.mem_range.1 hu)
    simpa using this
  obtain ⟨R, hR⟩ : ∃ R, R = (List.range n).find? (fun j => xs.getD j 0 == 1) := ⟨_, rfl⟩
  rw [← hR] at hgen hnone ⊢
  have HG := Lib.hid hgen
  have HN := Lib.hid hnone
  clear hc hgen hnone hR hx
  go_enter Tryd.func111, Tryd.ntmps111
  go_wp2
  go_loopw [8] (fun i wr => ∃ k : Nat, k ≤ n ∧ i = .int .i64 k ∧ Hid (∀ u, u < k → ¬ xs.getD u 0 = 1) ∧ Qt w wr) (fun i _ => n - (intOf i).toNat)
  case atStart => exact ⟨0, Nat.zero_le _, rfl, Lib.hid (fun u hu => by omega), Qt.refl _⟩
  case round =>
    obtain ⟨k, hk, rfl, HU, hq⟩ := hrel
    by_cases hlt : k < n
    · have c0 := hq.cell (HC.out k hlt)
      by_cases h1 : xs.getD k 0 = 1
      · rw [h1] at c0
        have HE1 := Lib.hid (HG.out k (by omega) HU.out hlt h1)
        clear h1
        go_wp2
        go_ret
        exact ⟨by rw [HE1.out]; rfl, hq⟩
      · have hnx : Hid (∀ u, u < k + 1 → ¬ xs.getD u 0 = 1) := Lib.hid (fun u hu => by
          by_cases e : u < k
          · exact HU.out u e
          · obtain rfl : u = k := by omega
            exact h1)
        generalize xs.getD k 0 = x at *
        have hb : (1 == x) = false := by
          have : ¬ 1 = x := fun e => h1 e.symm
          simpa using this
        clear h1
        go_wp2
        go_roundw
        case rel => exact ⟨k+1, by omega, by go_num, hnx, hq⟩
        case measure => simp [intOf]; omega
    · obtain rfl : k = n := by omega
      go_wp2
      go_ret
      exact ⟨by rw [HN.out HU.out]; rfl, hq⟩

end Go.Proofs.YtnblhkhdilkbeaaDoor

/- The program's graph without a leaf. -/
namespace Go.Proofs.YtnblhkhdilkbeaaDoor
open Go.RowKit

theorem news2 (w : World) (t : TypeId) (x y : Value) : ∀ (j : Nat) (u : Value), [x, y][j]? = some u → (w.alloc (.cells #[x, y] t)).cell? (({ block := w.heap.size, off := 0 } : Addr).add j) = some u := by
  intro j u hj
  match j, hj with
  | 0, hj => simp at hj; subst hj; simp [Addr.add]
  | 1, hj => simp at hj; subst hj; simp [Addr.add]

def cutE (v : Int) (es : List (Int × Int)) : List (Int × Int) := (es.filter (fun e => e.1 != v && e.2 != v)).map (fun e => (low v e.1, low v e.2))
theorem unp_cutE (v : Int) (es : List (Int × Int)) : unp (cutE v es) = cutV v (unp es) := by
  induction es with
  | nil => rfl
  | cons e r ih =>
    unfold unp cutE cutV at ih ⊢
    simp only [List.map_cons, List.filter_cons, offV, List.getD_cons_zero, List.getD_cons_succ]
    by_cases h : (e.1 != v && e.2 != v) = true
    · rw [if_pos h, if_pos h]
      simp only [List.map_cons, ih]
      rfl
    · rw [if_neg h, if_neg h]; exact ih
theorem cutE_in {es : List (Int × Int)} {q : Nat} {v : Int} (hq : q < es.length) (h1 : ¬ (es.getD q (0, 0)).1 = v) (h2 : ¬ (es.getD q (0, 0)).2 = v) : cutE v (es.take (q + 1)) = cutE v (es.take q) ++ [(low v (es.getD q (0, 0)).1, low v (es.getD q (0, 0)).2)] := by
  unfold cutE
  rw [List.take_add_one, List.getElem?_eq_getElem hq, List.filter_append, List.map_append]
  have e : es.getD q (0, 0) = es[q] := by simp [List.getD, List.getElem?_eq_getElem hq]
  rw [e] at h1 h2
  simp [List.filter_cons, h1, h2, List.getD, List.getElem?_eq_getElem hq]
theorem cutE_out {es : List (Int × Int)} {q : Nat} {v : Int} (hq : q < es.length) (h : (es.getD q (0, 0)).1 = v ∨ (es.getD q (0, 0)).2 = v) : cutE v (es.take (q + 1)) = cutE v (es.take q) := by
  unfold cutE
  rw [List.take_add_one, List.getElem?_eq_getElem hq, List.filter_append, List.map_append]
  have e : es.getD q (0, 0) = es[q] := by simp [List.getD, List.getElem?_eq_getElem hq]
  rw [e] at h
  rcases h with h | h <;> simp [List.filter_cons, h]
theorem cutE_I64 {s v : Int} {xss : List (List Int)} (h : grB s xss = true) : ∀ j, j < (cutE v (pairs xss)).length → I64 ((cutE v (pairs xss)).getD j (0, 0)).1 ∧ I64 ((cutE v (pairs xss)).getD j (0, 0)).2 := by
  intro j hj
  have hs := grB_iff h
  have e : (cutE v (pairs xss)).getD j (0, 0) = (cutE v (pairs xss))[j] := by simp [List.getD, List.getElem?_eq_getElem hj]
  rw [e]
  have hm := List.getElem_mem hj
  simp only [cutE, List.mem_map, List.mem_filter] at hm
  obtain ⟨f, ⟨hf, _⟩, he⟩ := hm
  simp only [cutE]
  rw [← he]
  simp only [pairs, List.mem_map] at hf
  obtain ⟨r, hr, rfl⟩ := hf
  have := grB_mem h r hr
  unfold I64 low
  simp only
  constructor <;> constructor <;> (split <;> omega)

end Go.Proofs.YtnblhkhdilkbeaaDoor

/- Two edges compared. -/
namespace Go.Proofs.YtnblhkhdilkbeaaDoor
open Go.RowKit

theorem cells64 : Tryd.prog.cellsOf 2 = 1 := by kernel_rfl
theorem eq_edge (a b c d : Int) (w : World) : (Op.equalIn 10000 99 (.agg #[.int .i64 a, .int .i64 b]) (.agg #[.int .i64 c, .int .i64 d])).run Tryd.prog w = .ok (a == c && b == d) w := by
  obtain ⟨i0, hi, _⟩ := info_parts Tryd.info2
  have hu : Tryd.prog.underlying 99 = some (.array 2 2) := by kernel_rfl
  rw [show (10000 : Nat) = 9999 + 1 from rfl, run_equalIn_array (P := Tryd.prog) (i := i0) (n := 2) (e := 2) w 9999 _ _ hu hi]
  have h1 : ∀ p q w, (Op.equalIn 9999 2 (.int .i64 p) (.int .i64 q)).run Tryd.prog w = .ok (p == q) w := fun p q w => run_equalIn_int w 9998 _ _ .i64 p q Tryd.underlying2
  simp only [List.range, List.range.loop, Op.eqItems, cells64]
  have p1 : ∀ x y w, (part 2 #[.int .i64 x, .int .i64 y] (0 * 1)).run Tryd.prog w = .ok (.int .i64 x) w := fun x y w => by kernel_rfl
  have p2 : ∀ x y w, (part 2 #[.int .i64 x, .int .i64 y] (1 * 1)).run Tryd.prog w = .ok (.int .i64 y) w := fun x y w => by kernel_rfl
  simp only [Sem.run_bind, p1, p2, h1, Result.andThen_ok]
  cases a == c <;> simp only [Bool.not_false, Bool.not_true, if_true, Bool.false_eq_true, if_false, Sem.run_pure, Sem.run_bind, p1, p2, h1, Result.andThen_ok, Bool.false_and, Bool.true_and]
  cases b == d <;> simp only [Bool.not_false, Bool.not_true, if_true, Bool.false_eq_true, if_false, Sem.run_pure]

end Go.Proofs.YtnblhkhdilkbeaaDoor

/- ContractEdge of the program. -/
namespace Go.Proofs.YtnblhkhdilkbeaaDoor
open Go.RowKit

theorem reversed (x y : Int) (w : World) :
    Calls Tryd.prog 84 #[.agg #[.int .i64 x, .int .i64 y]] w fun e w' => e = .returned (.agg #[.int .i64 y, .int .i64 x]) ∧ Below w.heap.size w w' := by
  have hb0 : ∀ o o', Below w.heap.size w ((w.alloc o).alloc o') := fun o o' => ((Below.refl _ _).alloc (Nat.le_refl _) o).alloc (by simp) o'
  go_enter Tryd.func84, Tryd.ntmps84
  go_wp2
  refine bodyPost_ret (v := .agg #[.int .i64 y, .int .i64 x]) (by simp [results, Tryd.results84, go_sem]) rfl ⟨rfl, ?_⟩
  repeat (first | exact hb0 _ _ | refine Below.setCell ?_ (by simp <;> omega) _)
theorem HoE.set {w : World} {g : Nat} {es : List (Int × Int)} (h : HoE w g es) {q : Nat} (hq : q < es.length) (a b : Int) : HoE ((w.setCell ⟨g, q * 2, none⟩ (.int .i64 a)).setCell ⟨g, q * 2 + 1, none⟩ (.int .i64 b)) g (es.set q (a, b)) := by
  refine ⟨fun j hj => ?_, fun j => by rw [World.frozen?_setCell, World.frozen?_setCell]; exact h.free j, by simp [World.setCell]; exact h.lt⟩
  rw [List.length_set] at hj
  obtain ⟨c1, c2⟩ := h.cell j hj
  obtain ⟨d1, d2⟩ := h.cell q hq
  rw [getD_setE hq]
  by_cases e : j = q
  · subst e
    rw [if_pos rfl]
    refine ⟨?_, ?_⟩
    · rw [World.cell?_setCell_other _ _ _ _ (by simp)]
      exact World.cell?_setCell_same _ _ _ d1
    · exact World.cell?_setCell_same _ _ _ (by rw [World.cell?_setCell_other _ _ _ _ (by simp)]; exact d2)
  · rw [if_neg e]
    refine ⟨?_, ?_⟩
    · rw [World.cell?_setCell_other _ _ _ _ (by simp <;> omega), World.cell?_setCell_other _ _ _ _ (by simp <;> omega)]; exact c1
    · rw [World.cell?_setCell_other _ _ _ _ (by simp <;> omega), World.cell?_setCell_other _ _ _ _ (by simp <;> omega)]; exact c2

def conE (A B : Int) (e : Int × Int) : Int × Int := (vb A B e.1, vb A B e.2)
def conEP (A B : Int) (es : List (Int × Int)) (i : Nat) : List (Int × Int) := (es.take i).map (conE A B) ++ es.drop i
theorem conEP_len (A B : Int) (es : List (Int × Int)) (i : Nat) : (conEP A B es i).length = es.length := by simp [conEP]; omega
theorem conEP_get {A B : Int} {es : List (Int × Int)} {i : Nat} (h : i < es.length) : (conEP A B es i).getD i (0, 0) = es.getD i (0, 0) := by
  have hl : ((es.take i).map (conE A B)).length = i := by rw [List.length_map, List.length_take]; omega
  simp only [conEP, List.getD]
  rw [List.getElem?_append_right (by omega), hl, Nat.sub_self, List.getElem?_drop]
  rfl
theorem conEP_step {A B : Int} {es : List (Int × Int)} {i : Nat} (h : i < es.length) : (conEP A B es i).set i (conE A B (es.getD i (0, 0))) = conEP A B es (i + 1) := by
  have hl : ((es.take i).map (conE A B)).length = i := by rw [List.length_map, List.length_take]; omega
  have e1 : es.drop i = es.getD i (0, 0) :: es.drop (i + 1) := by
    rw [List.drop_eq_getElem_cons h]
    simp [List.getD, List.getElem?_eq_getElem h]
  have e2 : es.take (i + 1) = es.take i ++ [es.getD i (0, 0)] := by
    rw [List.take_add_one, List.getElem?_eq_getElem h]
    simp [List.getD, List.getElem?_eq_getElem h]
  unfold conEP
  rw [List.set_append_right _ _ (by omega), hl, Nat.sub_self, e1, List.set_cons_zero, e2, List.map_append, List.append_assoc]
  rfl
theorem unp_con {s x y : Int} {xss : List (List Int)} {k : Nat} (h : grB s xss = true) : unp (((pairs xss).eraseIdx k).map (conE (lowI x y) (topI x y))) = conRows x y (xss.eraseIdx k) := by
  rw [← unp_erase h]
  simp only [unp, conRows, List.map_map]
  apply List.map_congr_left
  intro e _
  rfl
theorem con_I64 {s A B : Int} {xss : List (List Int)} {k : Nat} (h : grB s xss = true) (hA : 0 ≤ A ∧ A < s) : ∀ j, j < (((pairs xss).eraseIdx k).map (conE A B)).length → I64 ((((pairs xss).eraseIdx k).map (conE A B)).getD j (0, 0)).1 ∧ I64 ((((pairs xss).eraseIdx k).map (conE A B)).getD j (0, 0)).2 := by
  intro j hj
  rw [List.length_map] at hj
  have hs := grB_iff h
  have e : (((pairs xss).eraseIdx k).map (conE A B)).getD j (0, 0) = conE A B (((pairs xss).eraseIdx k)[j]) := by simp [List.getD, List.getElem?_eq_getElem hj]
  rw [e]
  obtain ⟨i, hi, he⟩ := List.getElem_of_mem (List.mem_of_mem_eraseIdx (List.getElem_mem hj))
  rw [pairs_len] at hi
  have h4 := hs.2.2.2 i hi
  have hp := pairs_get hi
  have e2 : (pairs xss).getD i (0, 0) = (pairs xss)[i]'(by rw [pairs_len]; exact hi) := by simp [List.getD, List.getElem?_eq_getElem (show i < (pairs xss).length by rw [pairs_len]; exact hi)]
  rw [← he, ← e2, hp]
  unfold conE vb I64
  simp only
  constructor <;> constructor <;> (split <;> (try split) <;> omega)

end Go.Proofs.YtnblhkhdilkbeaaDoor

/- The program's directed edges, in the order of their numbers. -/
namespace Go.Proofs.YtnblhkhdilkbeaaDoor
open Go.RowKit

theorem news4 (w : World) (t : TypeId) (x y z r : Value) : ∀ (j : Nat) (u : Value), [x, y, z, r][j]? = some u → (w.alloc (.cells #[x, y, z, r] t)).cell? (({ block := w.heap.size, off := 0 } : Addr).add j) = some u := by
  intro j u hj
  match j, hj with
  | 0, hj => simp at hj; subst hj; simp [Addr.add]
  | 1, hj => simp at hj; subst hj; simp [Addr.add]
  | 2, hj => simp at hj; subst hj; simp [Addr.add]
  | 3, hj => simp at hj; subst hj; simp [Addr.add]

/-- the directed edges of a list of edges -/
def dirE (es : List (Int × Int)) : List (Int × Int) := es.flatMap (fun e => [e, (e.2, e.1)])
theorem dirE_len (es : List (Int × Int)) : (dirE es).length = 2 * es.length := by
  induction es with
  | nil => rfl
  | cons e r ih => simp only [dirE, List.flatMap_cons, List.length_append, List.length_cons, List.length_nil] at ih ⊢; omega
theorem dirE_step {es : List (Int × Int)} {q : Nat} (hq : q < es.length) : dirE (es.take (q + 1)) = dirE (es.take q) ++ [((es.getD q (0, 0)).1, (es.getD q (0, 0)).2), ((es.getD q (0, 0)).2, (es.getD q (0, 0)).1)] := by
  unfold dirE
  rw [List.take_add_one, List.getElem?_eq_getElem hq, List.flatMap_append]
  simp [List.getD, List.getElem?_eq_getElem hq]
theorem flat_snoc2 (es : List (Int × Int)) (e f : Int × Int) : flat (es ++ [e, f]) = flat es ++ [.int .i64 e.1, .int .i64 e.2, .int .i64 f.1, .int .i64 f.2] := by simp [flat]

end Go.Proofs.YtnblhkhdilkbeaaDoor

/- The program's own sets of pairs of numbers: a map from pairs to bools. -/
namespace Go.Proofs.YtnblhkhdilkbeaaDoor
open Go.RowKit Go.Maps Go.WideMaps

theorem wfLit {a : Int} (h : I64 a) : (Lit.int .i64 a).wf = true := WalkArith.wf_i64 (by unfold I64 at h; omega)
def pk (a b : Int) : Lit := .string (keyBytes [.int .i64 a, .int .i64 b])
theorem zeroBool (w : World) : (zeroValue 4).run Tryd.prog w = .ok (.bool false) w := by kernel_rfl
set_option maxRecDepth 100000 in
theorem plainBool_inv {v : Value} {z : DataW Unit × List MemPlace} (h : plainElem Tryd.prog 4 v = some z) : ∃ a, v = .bool a ∧ z = (.lit (.bool a), []) := by
  unfold plainElem at h
  rw [Tryd.underlying4] at h
  cases v <;> simp at h
  exact ⟨_, rfl, h.symm⟩
end Go.Proofs.YtnblhkhdilkbeaaDoor

/- The program's set of straight steps. -/
namespace Go.Proofs.YtnblhkhdilkbeaaDoor
open Go.RowKit

/-- the number of the reverse of a directed edge -/
def rv (x : Int) : Int := bits BinOp.xor .i64 x 1
/-- two directed edges, by their numbers, make a straight step -/
def stepQ (ds : List (Int × Int)) (x y : Int) : Bool := decide (0 ≤ x ∧ x < ds.length ∧ 0 ≤ y ∧ y < ds.length) && ((ds.getD x.toNat (0, 0)).2 == (ds.getD y.toNat (0, 0)).1 && y != rv x)
/-- .. of those that came before the round i, j -/
def stepP (ds : List (Int × Int)) (i j : Nat) (x y : Int) : Bool := stepQ ds x y && decide (x < i ∨ (x = i ∧ y < j))
theorem stepP_zero (ds : List (Int × Int)) : stepP ds 0 0 = fun _ _ => false := by
  funext x y
  unfold stepP stepQ
  by_cases h : 0 ≤ x ∧ x < ds.length ∧ 0 ≤ y ∧ y < ds.length
  · simp; omega
  · simp [h]
theorem stepP_all (ds : List (Int × Int)) : stepP ds ds.length 0 = stepQ ds := by
  funext x y
  unfold stepP stepQ
  by_cases h : 0 ≤ x ∧ x < ds.length ∧ 0 ≤ y ∧ y < ds.length
  · have : (x < (ds.length : Int) ∨ (x = (ds.length : Int) ∧ y < (0 : Nat))) := by omega
    simp [h, this]
  · simp [h]
theorem stepP_next (ds : List (Int × Int)) (i : Nat) : stepP ds i ds.length = stepP ds (i + 1) 0 := by
  funext x y
  unfold stepP stepQ
  by_cases h : 0 ≤ x ∧ x < ds.length ∧ 0 ≤ y ∧ y < ds.length
  · have : (x < (i : Int) ∨ (x = (i : Int) ∧ y < ds.length)) ↔ (x < ((i + 1 : Nat) : Int) ∨ (x = ((i + 1 : Nat) : Int) ∧ y < (0 : Nat))) := by omega
    simp only [this]
  · simp [h]
theorem stepP_yes {ds : List (Int × Int)} {i j : Nat} (hi : i < ds.length) (hj : j < ds.length) (h1 : (ds.getD i (0, 0)).2 = (ds.getD j (0, 0)).1) (h2 : ¬ (j : Int) = rv i) :
    stepP ds i (j + 1) = fun x y => stepP ds i j x y || (x == (i : Int) && y == (j : Int)) := by
  funext x y
  by_cases e : x = i ∧ y = j
  · obtain ⟨rfl, rfl⟩ := e
    unfold stepP stepQ
    simp only [Int.toNat_natCast]
    have a1 : decide (0 ≤ (i : Int) ∧ (i : Int) < ds.length ∧ 0 ≤ (j : Int) ∧ (j : Int) < ds.length) = true := decide_eq_true (by omega)
    have a2 : ((ds.getD i (0, 0)).2 == (ds.getD j (0, 0)).1) = true := by rw [h1]; exact beq_self_eq_true _
    have a3 : ((j : Int) != rv i) = true := by simpa using h2
    have a4 : decide ((i : Int) < i ∨ True ∧ (j : Int) < ((j + 1 : Nat) : Int)) = true := decide_eq_true (.inr ⟨trivial, by omega⟩)
    have a5 : ((i : Int) == i && (j : Int) == j) = true := by simp
    rw [a1, a2, a3, a4, a5]
    simp
  · have e2 : (x == (i : Int) && y == (j : Int)) = false := by simpa using e
    rw [e2, Bool.or_false]
    unfold stepP
    have : (x < (i : Int) ∨ (x = (i : Int) ∧ y < ((j + 1 : Nat) : Int))) ↔ (x < (i : Int) ∨ (x = (i : Int) ∧ y < (j : Int))) := by
      constructor <;> intro h <;> rcases h with h | h <;> first | (left; omega) | (right; omega)
    simp only [this]
theorem stepP_no {ds : List (Int × Int)} {i j : Nat} (h : ¬ ((ds.getD i (0, 0)).2 = (ds.getD j (0, 0)).1 ∧ ¬ (j : Int) = rv i)) :
    stepP ds i (j + 1) = stepP ds i j := by
  funext x y
  by_cases e : x = i ∧ y = j
  · obtain ⟨rfl, rfl⟩ := e
    have : stepQ ds i j = false := by
      unfold stepQ
      simp only [Int.toNat_natCast]
      by_cases h1 : (ds.getD i (0, 0)).2 = (ds.getD j (0, 0)).1
      · have h2 : (j : Int) = rv i := Classical.byContradiction fun h2 => h ⟨h1, h2⟩
        simp [← h2]
      · have a2 : ((ds.getD i (0, 0)).2 == (ds.getD j (0, 0)).1) = false := beq_eq_false_iff_ne.2 h1
        rw [a2]
        simp
    unfold stepP
    rw [this]
    rfl
  · unfold stepP
    have : (x < (i : Int) ∨ (x = (i : Int) ∧ y < ((j + 1 : Nat) : Int))) ↔ (x < (i : Int) ∨ (x = (i : Int) ∧ y < (j : Int))) := by
      constructor <;> intro h <;> rcases h with h | h <;> first | (left; omega) | (right; omega)
    simp only [this]

end Go.Proofs.YtnblhkhdilkbeaaDoor

/- The ends of a directed edge, by the model. -/
namespace Go.Proofs.YtnblhkhdilkbeaaDoor
open Go.RowKit

theorem dirE_even (es : List (Int × Int)) (m : Nat) : (dirE es).getD (2 * m) (0, 0) = es.getD m (0, 0) := by
  induction es generalizing m with
  | nil => simp [dirE]
  | cons e r ih =>
    cases m with
    | zero => simp [dirE]
    | succ m =>
      have := ih m
      simp only [dirE, List.flatMap_cons, List.cons_append, List.nil_append, show 2 * (m + 1) = 2 * m + 1 + 1 by omega, List.getD_cons_succ] at this ⊢
      exact this
theorem dirE_odd (es : List (Int × Int)) (m : Nat) (h : m < es.length) : (dirE es).getD (2 * m + 1) (0, 0) = ((es.getD m (0, 0)).2, (es.getD m (0, 0)).1) := by
  induction es generalizing m with
  | nil => simp at h
  | cons e r ih =>
    cases m with
    | zero => simp [dirE]
    | succ m =>
      have := ih m (by simpa using h)
      simp only [dirE, List.flatMap_cons, List.cons_append, List.nil_append, show 2 * (m + 1) + 1 = 2 * m + 1 + 1 + 1 by omega, List.getD_cons_succ] at this ⊢
      exact this
theorem pairs_getD (xss : List (List Int)) (m : Nat) : (pairs xss).getD m (0, 0) = ((xss.getD m []).getD 0 0, (xss.getD m []).getD 1 0) := by
  induction xss generalizing m with
  | nil => simp [pairs]
  | cons e r ih =>
    cases m with
    | zero => simp [pairs]
    | succ m => simpa [pairs] using ih m

set_option maxHeartbeats 1600000 in
theorem l01Ends {lo hi : Nat} (s : Int) (a : Option Addr) (n c : Nat) (xss : List (List Int)) (w : World) (h : RdR lo hi w (.slice a n c) xss) (hn : xss.length = n) (hg : grB s xss = true) (k : Int) (h0 : 0 ≤ k) (h1 : k < 2 * (n : Int)) :
    Calls Tryd.prog 66 #[.agg #[.int .i64 s, .slice a n c], .int .i64 k] w fun e w' => e = .returned (.tuple #[.int .i64 ((dirE (pairs xss)).getD k.toNat (0, 0)).1, .int .i64 ((dirE (pairs xss)).getD k.toNat (0, 0)).2]) ∧ Below w.heap.size w w' := by
  have hb0 : ∀ o, Below w.heap.size w (w.alloc o) := fun o => (Below.refl _ _).alloc (Nat.le_refl _) o
  have h2 := (grB_iff hg).2.2.2
  obtain ⟨m, hm⟩ : ∃ m : Nat, k = 2 * (m : Int) ∨ k = 2 * (m : Int) + 1 := ⟨(k / 2).toNat, by omega⟩
  have hmn : m < n := by omega
  have hlen := (h2 m (by omega)).1
  obtain ⟨b, off, b', off', c', rfl, g0, g1, g2⟩ : ∃ b off b' off' c', a = some ⟨b, off, none⟩ ∧ w.cell? ⟨b, off + m, none⟩ = some (.slice (some ⟨b', off', none⟩) 2 c') ∧ w.cell? ⟨b', off', none⟩ = some (.int .i64 ((xss.getD m []).getD 0 0)) ∧ w.cell? ⟨b', off' + 1, none⟩ = some (.int .i64 ((xss.getD m []).getD 1 0)) := by
    obtain ⟨b, off, rv, ha, g0, hr⟩ := h.at hn m hmn
    obtain ⟨_, _, ⟨a', c', hnil, _⟩ | ⟨b', off', c', hv, _, _, _, hc⟩⟩ := hr
    · rw [hnil] at hlen; simp at hlen
    · rw [hv, hlen] at g0
      exact ⟨b, off, b', off', c', ha, g0, by have := hc 0 (by omega); simpa using this, hc 1 (by omega)⟩
  have e0 : (pairs xss).getD m (0, 0) = ((xss.getD m []).getD 0 0, (xss.getD m []).getD 1 0) := pairs_getD xss m
  generalize (xss.getD m []).getD 0 0 = p0 at *
  generalize (xss.getD m []).getD 1 0 = p1 at *
  have a0 := fun o => (hb0 o).keep g0
  have a1 := fun o => (hb0 o).keep g1
  have a2 := fun o => (hb0 o).keep g2
  have hn10 : n ≤ 10 := by have := grB_iff hg; omega
  have q3 : wrap64 (m : Int) = (m : Int) := IntWalk.wrap64_in _ (by omega)
  rcases hm with rfl | rfl
  · have e1 : (dirE (pairs xss)).getD (2 * (m : Int)).toNat (0, 0) = (p0, p1) := by
      rw [show (2 * (m : Int)).toNat = 2 * m by omega, dirE_even, e0]
    rw [e1]
    have q1 : (2 * (m : Int)).tdiv 2 = (m : Int) := by rw [Int.tdiv_eq_ediv_of_nonneg (by omega)]; omega
    have q2 : (2 * (m : Int)).tmod 2 = 0 := by rw [Int.tmod_eq_emod_of_nonneg (by omega)]; omega
    have E := Lib.hid e1
    clear e1 e0 h2 hlen hg h
    go_enter Tryd.func66, Tryd.ntmps66
    go_wp2
    go_quiet (fail)
    go_wp2
    refine bodyPost_ret (v := .tuple #[.int .i64 p0, .int .i64 p1]) (by simp [results, Tryd.results66, go_sem]) rfl ⟨rfl, (hb0 _).drewN _⟩
  · have e1 : (dirE (pairs xss)).getD (2 * (m : Int) + 1).toNat (0, 0) = (p1, p0) := by
      rw [show (2 * (m : Int) + 1).toNat = 2 * m + 1 by omega, dirE_odd _ _ (by rw [pairs_len]; omega), e0]
    rw [e1]
    have q1 : (2 * (m : Int) + 1).tdiv 2 = (m : Int) := by rw [Int.tdiv_eq_ediv_of_nonneg (by omega)]; omega
    have q2 : (2 * (m : Int) + 1).tmod 2 = 1 := by rw [Int.tmod_eq_emod_of_nonneg (by omega)]; omega
    clear e1 e0 h2 hlen hg h
    go_enter Tryd.func66, Tryd.ntmps66
    go_wp2
    go_quiet (fail)
    go_wp2
    refine bodyPost_ret (v := .tuple #[.int .i64 p1, .int .i64 p0]) (by simp [results, Tryd.results66, go_sem]) rfl ⟨rfl, (hb0 _).drewN _⟩

end Go.Proofs.YtnblhkhdilkbeaaDoor
