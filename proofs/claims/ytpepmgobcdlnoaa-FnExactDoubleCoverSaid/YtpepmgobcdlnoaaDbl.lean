/- DoubleCover of the model and of the program. -/
import Derived.Test.YtpepmgobcdlnoaaCycLaw
import Derived.Deep.AppendLies
set_option linter.unusedSimpArgs false
set_option linter.unusedVariables false
set_option maxRecDepth 100000
namespace Go.Proofs.Ytpepmgobcdlnoaa
open Go.RowKit

def sgB (y : Int) : Bool := decide (y = 1) || decide (y = -1)
def signsB (n : Nat) (ys : List Int) : Bool := ys.all sgB && decide (ys.length = n)
def dblCode (s : Int) (xss : List (List Int)) (ys : List Int) : Int := if grB s xss then (if signsB xss.length ys then 0 else 2) else 1
def dl (y : Int) : Int := if y = 1 then 0 else 1
def dblList (ys : List Int) : List Int := ys.map dl
def dblOf (s : Int) (xss : List (List Int)) (ys : List Int) : (Int × List (List Int) × Int × List (List Int)) × Int :=
  if dblCode s xss ys = 0 then cycOf s xss 2 (dblList ys) else ((0, [], 0, []), dblCode s xss ys)
theorem dblList_len (ys : List Int) : (dblList ys).length = ys.length := by simp [dblList]
theorem dblList_get {ys : List Int} {k : Nat} (h : k < ys.length) : (dblList ys).getD k 0 = dl (ys.getD k 0) := by simp [dblList, List.getD, h]
theorem dl_bd (y : Int) : 0 ≤ dl y ∧ dl y ≤ 1 := by unfold dl; split <;> omega
theorem dblList_I64 (ys : List Int) : ∀ x ∈ dblList ys, I64 x := by
  intro x hx
  simp only [dblList, List.mem_map] at hx
  obtain ⟨y, _, rfl⟩ := hx
  have := dl_bd y
  unfold I64; omega
theorem sgB_iff {y : Int} (h : sgB y = true) : y = 1 ∨ y = -1 := by unfold sgB at h; simpa using h
theorem dl_quo {y : Int} (h : sgB y = true) : (1 - y) / 2 = dl y ∧ Int.tdiv (1 - y) 2 = dl y ∧ -1 ≤ y ∧ y ≤ 1 := by
  rcases sgB_iff h with rfl | rfl <;> decide
theorem dbl_ok {s : Int} {xss : List (List Int)} {ys : List Int} (h : dblCode s xss ys = 0) : grB s xss = true ∧ ys.length = xss.length ∧ (∀ j, j < ys.length → sgB (ys.getD j 0) = true) ∧ cycCode s xss 2 (dblList ys) = 0 := by
  unfold dblCode at h
  cases hg : grB s xss with
  | false => rw [hg] at h; simp at h
  | true =>
    rw [hg, if_pos rfl] at h
    cases hb : signsB xss.length ys with
    | false => rw [hb] at h; simp at h
    | true =>
      unfold signsB at hb
      simp only [Bool.and_eq_true, decide_eq_true_eq] at hb
      obtain ⟨h1, h2⟩ := hb
      refine ⟨rfl, h2, fun j hj => List.all_eq_true.1 h1 _ (getD_memI hj), ?_⟩
      rw [cyc_list hg]
      have : listB xss.length 1000 (dblList ys) = true := by
        unfold listB
        rw [dblList_len, h2, Bool.and_eq_true]
        refine ⟨List.all_eq_true.2 fun x hx => ?_, by simp⟩
        simp only [dblList, List.mem_map] at hx
        obtain ⟨y, _, rfl⟩ := hx
        have := dl_bd y
        unfold wM
        simp; omega
      rw [this]; rfl
theorem dblOf_ok {s : Int} {xss : List (List Int)} {ys : List Int} (h : dblCode s xss ys = 0) : dblOf s xss ys = cycOf s xss 2 (dblList ys) := by unfold dblOf; rw [if_pos h]
theorem dblOf_no {s : Int} {xss : List (List Int)} {ys : List Int} (h : dblCode s xss ys ≠ 0) : dblOf s xss ys = ((0, [], 0, []), dblCode s xss ys) := by unfold dblOf; rw [if_neg h]
theorem dblOf_lens1 (s : Int) (xss : List (List Int)) (ys : List Int) : lens (dblOf s xss ys).1.2.1 ≤ 1000 := by
  by_cases hc : dblCode s xss ys = 0
  · rw [dblOf_ok hc]; exact cycOf_lens1 _ _ _ _
  · rw [dblOf_no hc]; simp [lens]
theorem dblOf_lens2 (s : Int) (xss : List (List Int)) (ys : List Int) : lens (dblOf s xss ys).1.2.2.2 ≤ 1000 := by
  by_cases hc : dblCode s xss ys = 0
  · rw [dblOf_ok hc]; exact cycOf_lens2 _ _ _ _
  · rw [dblOf_no hc]; simp [lens]

set_option maxHeartbeats 1600000 in
theorem isSigns {lo hi : Nat} (s : Int) (a : Option Addr) (n c : Nat) (a2 : Option Addr) (n2 c2 : Nat) (ys : List Int) (w : World) (h2 : RdI lo hi w (.slice a2 n2 c2) ys) (hn2 : ys.length = n2) (hn : n ≤ 10) :
    Calls Try.prog 114 #[.agg #[.int .i64 s, .slice a n c], .slice a2 n2 c2] w fun e w' => e = .returned (.bool (signsB n ys)) ∧ Below w.heap.size w w' := by
  have hb0 : ∀ o, Below w.heap.size w (w.alloc o) := fun o => (Below.refl _ _).alloc (Nat.le_refl _) o
  have HN2 := Lib.hid hn2
  have HCells := Lib.hid (h2.cellsC hn2)
  have hlen2 := h2.1
  rw [hn2] at hlen2
  clear hn2 h2
  by_cases hl : n2 = n
  case neg =>
    have hne : ((n2 : Int) != (n : Int)) = true := by simp; omega
    have HB := Lib.hid (show signsB n ys = false by unfold signsB; rw [HN2.out]; simp [hl])
    go_enter Try.func114, Try.ntmps114
    go_wp2
    go_ret
    exact ⟨by rw [HB.out]; rfl, hb0 _⟩
  have hne : ((n2 : Int) != (n : Int)) = false := by simp; omega
  have HL := Lib.hid hl
  have hn2b : n2 ≤ 10 := by omega
  clear hl
  go_enter Try.func114, Try.ntmps114
  go_wp2
  go_loopw [6, 15] (fun _ i wr => ∃ k : Nat, k ≤ n2 ∧ i = .int .i64 k ∧ Below w.heap.size w wr ∧ (ys.take k).all sgB = true) (fun _ i _ => n2 - (intOf i).toNat)
  case atStart => exact ⟨0, Nat.zero_le _, rfl, hb0 _, rfl⟩
  case round =>
    obtain ⟨k, hk, rfl, hB, hall⟩ := hrel
    have HA := Lib.hid hall
    clear hall
    by_cases hlt : k < n2
    · obtain ⟨b, off, rfl, g1⟩ := HCells.out k hlt
      replace g1 := hB.keep g1
      have hlt' : k < ys.length := by rw [HN2.out]; exact hlt
      have HY := Lib.hid (fun e => all_takeI hlt' HA.out e : sgB (ys.getD k 0) = true → _)
      have HZ := Lib.hid (fun e => all_notI hlt' e : sgB (ys.getD k 0) = false → _)
      generalize ys.getD k 0 = y at *
      by_cases h1 : y = 1
      · subst h1
        go_wp2
        go_roundw
        case rel => exact ⟨k+1, by omega, by go_num, hB, HY.out (by decide)⟩
        case measure => simp [intOf]; omega
      · have hy1 : (y != 1) = true := by simpa using h1
        by_cases h2 : y = -1
        · subst h2
          go_wp2
          go_roundw
          case rel => exact ⟨k+1, by omega, by go_num, hB, HY.out (by decide)⟩
          case measure => simp [intOf]; omega
        · have hy2 : (y != -1) = true := by simpa using h2
          have HW := Lib.hid (show sgB y = false by unfold sgB; simp [h1, h2])
          clear h1 h2
          go_wp2
          go_ret
          exact ⟨by rw [show signsB n ys = false by unfold signsB; rw [HZ.out HW.out]; rfl]; rfl, hB⟩
    · obtain rfl : k = n2 := by omega
      have e := HA.out
      rw [List.take_of_length_le (by rw [HN2.out]; exact Nat.le_refl _)] at e
      have HF := Lib.hid (show signsB n ys = true by unfold signsB; rw [e, HN2.out, HL.out]; simp)
      clear e
      go_wp2
      go_ret
      exact ⟨by rw [HF.out]; rfl, hB⟩

set_option maxHeartbeats 1600000 in
theorem checkSigns {lo hi lo' hi' : Nat} (s : Int) (a : Option Addr) (n c : Nat) (xss : List (List Int)) (a2 : Option Addr) (n2 c2 : Nat) (ys : List Int) (w : World) (h : RdR lo hi w (.slice a n c) xss) (hn : xss.length = n) (h2 : RdI lo' hi' w (.slice a2 n2 c2) ys) (hn2 : ys.length = n2) :
    Calls Try.prog 80 #[.agg #[.int .i64 s, .slice a n c], .slice a2 n2 c2] w fun e w' => e = .returned (.int .i64 (dblCode s xss ys)) ∧ Below w.heap.size w w' := by
  have hb0 : ∀ o, Below w.heap.size w (w.alloc o) := fun o => (Below.refl _ _).alloc (Nat.le_refl _) o
  have HN := Lib.hid hn
  have HR := Lib.hid h
  have HR2 := Lib.hid h2
  obtain ⟨cd, hcd⟩ : ∃ cd, cd = dblCode s xss ys := ⟨_, rfl⟩
  rw [← hcd]
  unfold dblCode at hcd
  clear h hn h2
  go_enter Try.func80, Try.ntmps80
  go_wp2_with fail
  refine calls_gen (fun W => Below w.heap.size w W ∧ W.cell? ⟨w.heap.size, 0, none⟩ = some (.int .i64 s) ∧ W.cell? ⟨w.heap.size, 1, none⟩ = some (.slice a n c)) ⟨hb0 _, by go_simp, by go_simp⟩ ?_
  rintro W ⟨hB, k0, k1⟩
  refine (implIsGraph s a n c xss W (HR.out.below hB) HN.out).mono ?_
  rintro e w1 ⟨rfl, b1⟩
  replace k0 := b1.keep k0
  replace k1 := b1.keep k1
  replace hB := hB.next b1
  clear b1
  cases hg : grB s xss with
  | false =>
    rw [hg, if_neg (by simp)] at hcd
    subst hcd
    go_wp2
    go_ret
    exact ⟨rfl, hB⟩
  | true =>
    rw [hg, if_pos rfl, HN.out] at hcd
    have hn10 : n ≤ 10 := by have := grB_iff hg; have := HN.out; omega
    have HCD := Lib.hid hcd
    clear hg hcd
    go_wp2_with fail
    refine (isSigns s a n c a2 n2 c2 ys _ (HR2.out.below hB) hn2 hn10).mono ?_
    rintro e w2 ⟨rfl, b2⟩
    replace hB := hB.next b2
    have hcd := HCD.out
    clear b2
    cases hs : signsB n ys with
    | false =>
      rw [hs, if_neg (by simp)] at hcd
      subst hcd
      go_wp2
      go_ret
      exact ⟨rfl, hB⟩
    | true =>
      rw [hs, if_pos rfl] at hcd
      subst hcd
      go_wp2
      go_ret
      exact ⟨rfl, hB⟩

def nz (y : Int) : Bool := !(y == 0)
theorem signs_list (n : Nat) (ys : List Int) : signsB n ys = (listB n 1 ys && ys.all nz) := by
  have h : ∀ y, sgB y = (wM 1 y && nz y) := by
    intro y
    unfold sgB wM nz
    rw [Bool.eq_iff_iff]
    simp
    omega
  unfold signsB listB
  rw [Bool.eq_iff_iff]
  simp only [Bool.and_eq_true, List.all_eq_true, h]
  constructor
  · rintro ⟨h1, h2⟩
    exact ⟨⟨fun x hx => (h1 x hx).1, h2⟩, fun x hx => (h1 x hx).2⟩
  · rintro ⟨⟨h1, h2⟩, h3⟩
    exact ⟨fun x hx => ⟨h1 x hx, h3 x hx⟩, h2⟩

set_option maxHeartbeats 1600000 in
theorem l04Signs {lo hi lo' hi' : Nat} (s : Int) (a : Option Addr) (n c : Nat) (xss : List (List Int)) (a2 : Option Addr) (n2 c2 : Nat) (ys : List Int) (w : World) (h : RdR lo hi w (.slice a n c) xss) (hn : xss.length = n) (h2 : RdI lo' hi' w (.slice a2 n2 c2) ys) (hn2 : ys.length = n2) :
    Calls Try.prog 78 #[.agg #[.int .i64 s, .slice a n c], .slice a2 n2 c2] w fun e w' => e = .returned (.int .i64 (dblCode s xss ys)) ∧ Below w.heap.size w w' := by
  have hb0 : ∀ o, Below w.heap.size w (w.alloc o) := fun o => (Below.refl _ _).alloc (Nat.le_refl _) o
  have HN := Lib.hid hn
  have HN2 := Lib.hid hn2
  have HR := Lib.hid h
  have HR2 := Lib.hid h2
  have HCells := Lib.hid (h2.cellsC hn2)
  have hlen2 := h2.1
  rw [hn2] at hlen2
  obtain ⟨cd, hcd⟩ : ∃ cd, cd = dblCode s xss ys := ⟨_, rfl⟩
  rw [← hcd]
  unfold dblCode at hcd
  clear h hn h2 hn2
  go_enter Try.func78, Try.ntmps78
  go_wp2_with fail
  refine calls_gen (fun W => Below w.heap.size w W ∧ W.cell? ⟨w.heap.size, 0, none⟩ = some (.int .i64 s) ∧ W.cell? ⟨w.heap.size, 1, none⟩ = some (.slice a n c)) ⟨hb0 _, by go_simp, by go_simp⟩ ?_
  rintro W ⟨hB, k0, k1⟩
  refine (l01Is s a n c xss W (HR.out.below hB) HN.out).mono ?_
  rintro e w1 ⟨rfl, b1⟩
  replace k0 := b1.keep k0
  replace k1 := b1.keep k1
  replace hB := hB.next b1
  clear b1
  cases hg : grB s xss with
  | false =>
    rw [hg, if_neg (by simp)] at hcd
    subst hcd
    go_wp2
    go_ret
    exact ⟨rfl, hB⟩
  | true =>
    rw [hg, if_pos rfl, HN.out, signs_list] at hcd
    have hn10 : n ≤ 10 := by have := grB_iff hg; have := HN.out; omega
    have HCD := Lib.hid hcd
    clear hg hcd
    go_wp2_with fail
    refine (l04List s a n c a2 n2 c2 ys 1 _ (HR2.out.below hB) HN2.out (by omega) (by omega) hn10).mono ?_
    rintro e w2 ⟨rfl, b2⟩
    replace hB := hB.next b2
    clear b2
    cases hs : listB n 1 ys with
    | false =>
      have hcd := HCD.out
      rw [hs, Bool.false_and, if_neg (by simp)] at hcd
      subst hcd
      go_wp2
      go_ret
      exact ⟨rfl, hB⟩
    | true =>
      have HC2 : Hid (cd = if ys.all nz then 0 else 2) := Lib.hid (by have hcd := HCD.out; rw [hs, Bool.true_and] at hcd; exact hcd)
      clear hs HCD
      go_wp2
      go_loopw [5] (fun i wr => ∃ k : Nat, k ≤ n2 ∧ i = .int .i64 k ∧ Below w.heap.size w wr ∧ (ys.take k).all nz = true) (fun i _ => n2 - (intOf i).toNat)
      case atStart => exact ⟨0, Nat.zero_le _, rfl, hB, rfl⟩
      case round =>
        clear hB
        obtain ⟨k, hk, rfl, hB, hall⟩ := hrel
        have HA := Lib.hid hall
        clear hall
        by_cases hlt : k < n2
        · obtain ⟨b, off, rfl, g1⟩ := HCells.out k hlt
          replace g1 := hB.keep g1
          have hlt' : k < ys.length := by rw [HN2.out]; exact hlt
          have HY := Lib.hid (fun e => all_takeI hlt' HA.out e : nz (ys.getD k 0) = true → _)
          have HZ := Lib.hid (fun e => all_notI hlt' e : nz (ys.getD k 0) = false → _)
          generalize ys.getD k 0 = y at *
          by_cases h1 : y = 0
          · subst h1
            have HC3 := Lib.hid (show cd = 2 by rw [HC2.out, HZ.out (by decide)]; rfl)
            go_wp2
            go_ret
            exact ⟨by rw [HC3.out]; rfl, hB⟩
          · have hy1 : (y == 0) = false := by simpa using h1
            have HW := Lib.hid (show nz y = true by unfold nz; rw [hy1]; rfl)
            go_wp2
            go_roundw
            case rel => exact ⟨k+1, by omega, by go_num, hB, HY.out HW.out⟩
            case measure => simp [intOf]; omega
        · obtain rfl : k = n2 := by omega
          have e := HA.out
          rw [List.take_of_length_le (by rw [HN2.out]; exact Nat.le_refl _)] at e
          have HC3 := Lib.hid (show cd = 0 by rw [HC2.out, e]; rfl)
          clear e
          go_wp2
          go_ret
          exact ⟨by rw [HC3.out]; rfl, hB⟩

set_option maxHeartbeats 3200000 in
theorem l04Double {lo hi lo' hi' : Nat} (s : Int) (a : Option Addr) (n c : Nat) (xss : List (List Int)) (a2 : Option Addr) (n2 c2 : Nat) (ys : List Int) (w : World) (h : RdR lo hi w (.slice a n c) xss) (hn : xss.length = n) (h2 : RdI lo' hi' w (.slice a2 n2 c2) ys) (hn2 : ys.length = n2) (hc : dblCode s xss ys = 0) :
    Calls Try.prog 79 #[.agg #[.int .i64 s, .slice a n c], .slice a2 n2 c2] w fun e w' => ∃ a' c' ta' tc' m, e = .returned (.agg #[.int .i64 s, .slice a' xss.length c', .int .i64 2, .slice ta' (cycRows 2 (dblList ys)).length tc']) ∧
      w.heap.size ≤ m ∧ m ≤ w'.heap.size ∧ OwR w.heap.size m w' (.slice a' xss.length c') xss ∧ OwR m w'.heap.size w' (.slice ta' (cycRows 2 (dblList ys)).length tc') (cycRows 2 (dblList ys)) ∧ Below w.heap.size w w' := by
  obtain ⟨i0, hi', z0, z1, z2⟩ := info_parts Try.info2
  obtain ⟨hg, hl, hsg, hcc⟩ := dbl_ok hc
  have hn10 : n ≤ 10 := by have := grB_iff hg; omega
  have hn2b : n2 ≤ 10 := by omega
  have HSG := Lib.hid hsg
  have HN := Lib.hid hn
  have HN2 := Lib.hid hn2
  have HR := Lib.hid h
  have HCells := Lib.hid (h2.cellsC hn2)
  have HY := Lib.hid (w1k_bd (cyc_ok hcc).2.2.2.2)
  have hA := ((Below.refl w.heap.size w).alloc (Nat.le_refl _) (.cells #[.int .i64 s, .slice a n c] 29)).alloc (by simp) (.cells #[.int .i64 0, .slice none 0 0, .int .i64 0, .slice none 0 0] 31)
  have k0 : ((w.alloc (.cells #[.int .i64 s, .slice a n c] 29)).alloc (.cells #[.int .i64 0, .slice none 0 0, .int .i64 0, .slice none 0 0] 31)).cell? ⟨w.heap.size, 0, none⟩ = some (.int .i64 s) := by go_simp
  have k1 : ((w.alloc (.cells #[.int .i64 s, .slice a n c] 29)).alloc (.cells #[.int .i64 0, .slice none 0 0, .int .i64 0, .slice none 0 0] 31)).cell? ⟨w.heap.size, 1, none⟩ = some (.slice a n c) := by go_simp
  obtain ⟨R, hR⟩ : ∃ R, R = w.heap.size + 1 := ⟨_, rfl⟩
  have bx : Box4 ((w.alloc (.cells #[.int .i64 s, .slice a n c] 29)).alloc (.cells #[.int .i64 0, .slice none 0 0, .int .i64 0, .slice none 0 0] 31)) R (.int .i64 0) (.slice none 0 0) (.int .i64 0) (.slice none 0 0) := by
    rw [hR]
    exact ⟨by simp, by go_simp, by go_simp, by go_simp, by go_simp, by go_simp, by go_simp, by go_simp, by go_simp⟩
  have hsz : ((w.alloc (.cells #[.int .i64 s, .slice a n c] 29)).alloc (.cells #[.int .i64 0, .slice none 0 0, .int .i64 0, .slice none 0 0] 31)).heap.size = w.heap.size + 1 + 1 := by simp
  clear hg hl hsg hcc hc h hn h2 hn2
  go_enter Try.func79, Try.ntmps79
  go_wp2
  rw [← hR]
  rw [← hR] at hsz
  have hRw : w.heap.size < R := by omega
  have hRV : w.heap.size + 1 + 1 = R + 1 := by omega
  rw [← hsz]
  clear hR hRV
  generalize (w.alloc (.cells #[.int .i64 s, .slice a n c] 29)).alloc (.cells #[.int .i64 0, .slice none 0 0, .int .i64 0, .slice none 0 0] 31) = V at hA k0 k1 bx hsz ⊢
  have HBX := Lib.hid (⟨hA, bx⟩ : _ ∧ _)
  have hsV : w.heap.size ≤ V.heap.size := hA.size
  clear hA bx hsz
  have hl0 := World.ownsRow_lit (base := V.heap.size) (e := 2) (size := 1) V #[] 0 (Nat.le_refl _) (by unfold maxLen; omega) rfl
  have hu1 : Below V.heap.size V (V.alloc (.cells #[] 2)) := (Below.refl _ _).alloc (Nat.le_refl _) _
  go_loopw [6, 5] (fun i v wr => ∃ (k gi ci : Nat), k ≤ n2 ∧ i = .int .i64 k ∧ v = .slice (some ⟨gi, 0, none⟩) k ci ∧ wr.ownsRow V.heap.size 2 1 (.slice (some ⟨gi, 0, none⟩) k ci) k (((dblList ys).take k).map (Value.int .i64)) ∧ Below V.heap.size V wr) (fun i _ _ => n2 - (intOf i).toNat)
  case atStart => exact ⟨0, V.heap.size, 0, Nat.zero_le _, rfl, rfl, hl0, hu1⟩
  case round =>
    clear hl0 hu1
    obtain ⟨k, gi, ci, hk, rfl, rfl, hown, hU⟩ := hrel
    by_cases hlt : k < n2
    · obtain ⟨b, off, rfl, g0⟩ := HCells.out k hlt
      have g1 := hU.keep (HBX.out.1.keep g0)
      have hlt' : k < ys.length := by rw [HN2.out]; exact hlt
      have HTK := Lib.hid (take_snoc (t := dblList ys) (k := k) (by rw [dblList_len]; exact hlt'))
      rw [dblList_get hlt'] at HTK
      obtain ⟨hq1, hq2, hy1, hy2⟩ := dl_quo (HSG.out k hlt')
      generalize ys.getD k 0 = y at *
      obtain ⟨x, hx⟩ : ∃ x, x = dl y := ⟨_, rfl⟩
      rw [← hx] at hq1 hq2 HTK
      have hg0 := (hown.lt gi rfl).1
      have hownV := hown.alloc (.cells #[.int .i64 x] 2)
      have hnews := news_one wr 2 (.int .i64 x)
      have hs3 := hU.size
      have hU2 := hU.alloc hU.size (.cells #[.int .i64 x] 2)
      have hU2s := hU2.size
      have HU := Lib.hid (⟨hU, hU2⟩ : _ ∧ _)
      clear hx hU hU2 hown g0
      go_wp2_with (at_builtin; refine wpList_append_lies _ rfl _ _ 45 rfl V.heap.size 2 i0 (.int .i64 0) 1 8 Try.underlying45 hi' z0 z1 z2 rfl (by decide) _ _ _ rfl hownV ⟨wr.heap.size, 0, none⟩ 1 1 [.int .i64 x] rfl rfl ?d1 ?d2 (by decide) ?d3 ?d4 ?d5 _ rfl ?_)
      case d1 => exact hnews
      case d2 => first | (intro u hu; simp at hu; subst hu; rfl) | rfl | simp
      case d3 => unfold maxLen; omega
      case d4 => omega
      case d5 => simp; omega
      intro g4 c4 w4 hown3 hgr hlie hlt3
      replace hown3 : w4.ownsRow V.heap.size 2 1 (.slice (some ⟨g4, 0, none⟩) (k + 1) c4) (k + 1) (((dblList ys).take (k+1)).map (Value.int .i64)) := by
        rw [HTK.out]
        simpa using hown3
      have hb4 := HU.out.2.grown hgr hU2s (fun q hq => by
        have : gi = q := by simpa [Value.ownBlock] using hq
        omega)
      have F := Lib.hid (⟨hown3, hb4⟩ : _ ∧ _)
      clear hown3 hb4 hgr hlie
      go_wp2
      go_roundw
      case rel => exact ⟨k+1, g4, c4, by omega, by go_num, rfl, F.out⟩
      case measure => simp [intOf]; omega
    · obtain rfl : k = n2 := by omega
      rw [List.take_of_length_le (by rw [dblList_len, HN2.out]; exact Nat.le_refl _)] at hown
      have hO := OwI.mk hown (by omega) (dblList_I64 ys)
      have hdl : (dblList ys).length = k := by rw [dblList_len]; exact HN2.out
      have m0 := hU.keep k0
      have m1 := hU.keep k1
      have HG := Lib.hid (l04Cyclic s a n c xss 2 _ k ci (dblList ys) wr ((HR.out.below HBX.out.1).below hU) HN.out (by omega) hO.rd hdl (by omega) (by omega) (by omega) HY.out)
      have HU := Lib.hid (⟨HBX.out.1.next hU, HBX.out.2.below hU⟩ : _ ∧ _)
      have hs3 := hU.size
      clear hown hO hdl hU k0 k1
      go_wp2_with fail
      refine HG.out.mono ?_
      rintro e w3 ⟨a5, c5, ta5, tc5, m5, rfl, hm1, hm2, o5, o6, b3⟩
      have hRlt := HU.out.2.lt
      obtain ⟨_, r0, r1, r2, r3, g0, g1, g2, g3⟩ := HU.out.2.below b3
      have v5 := chg4 w3 R (.int .i64 s) (.slice a5 xss.length c5) (.int .i64 2) (.slice ta5 (cycRows 2 (dblList ys)).length tc5)
      have hB3 := (HU.out.1.next b3).chgn v5 (by omega) (by have := b3.size; omega)
      go_wp2
      refine bodyPost_ret (v := .agg #[.int .i64 s, .slice a5 xss.length c5, .int .i64 2, .slice ta5 (cycRows 2 (dblList ys)).length tc5]) (by simp [results, Try.results79, go_sem, r0, r1, r2, r3]) rfl ?_
      exact ⟨a5, c5, ta5, tc5, m5, rfl, by omega, by simp [World.setCell]; omega, (o5.chg v5 (.inr (by omega))).mono (by omega) (Nat.le_refl _), (o6.chg v5 (.inr (by omega))).mono (Nat.le_refl _) (by simp [World.setCell]), hB3⟩

set_option maxHeartbeats 1600000 in
theorem specDbl {lo hi lo' hi' : Nat} (s : Int) (a : Option Addr) (n c : Nat) (xss : List (List Int)) (a2 : Option Addr) (n2 c2 : Nat) (ys : List Int) (w : World) (h : RdR lo hi w (.slice a n c) xss) (hn : xss.length = n) (h2 : RdI lo' hi' w (.slice a2 n2 c2) ys) (hn2 : ys.length = n2) :
    Calls Try.prog 38 #[.agg #[.int .i64 s, .slice a n c], .slice a2 n2 c2] w fun e w' => CovA w (dblOf s xss ys) e w' := by
  obtain ⟨i0, hi', z0, z1, z2⟩ := info_parts Try.info2
  have HN := Lib.hid hn
  have HN2 := Lib.hid hn2
  have HR := Lib.hid h
  have HR2 := Lib.hid h2
  have HCells := Lib.hid (h2.cellsC hn2)
  have hA := ((Below.refl w.heap.size w).alloc (Nat.le_refl _) (.cells #[.int .i64 s, .slice a n c] 29)).alloc (by simp) (.cells #[.int .i64 0, .slice none 0 0, .int .i64 0, .slice none 0 0] 31)
  have k0 : ((w.alloc (.cells #[.int .i64 s, .slice a n c] 29)).alloc (.cells #[.int .i64 0, .slice none 0 0, .int .i64 0, .slice none 0 0] 31)).cell? ⟨w.heap.size, 0, none⟩ = some (.int .i64 s) := by go_simp
  have k1 : ((w.alloc (.cells #[.int .i64 s, .slice a n c] 29)).alloc (.cells #[.int .i64 0, .slice none 0 0, .int .i64 0, .slice none 0 0] 31)).cell? ⟨w.heap.size, 1, none⟩ = some (.slice a n c) := by go_simp
  obtain ⟨R, hR⟩ : ∃ R, R = w.heap.size + 1 := ⟨_, rfl⟩
  have bx : Box4 ((w.alloc (.cells #[.int .i64 s, .slice a n c] 29)).alloc (.cells #[.int .i64 0, .slice none 0 0, .int .i64 0, .slice none 0 0] 31)) R (.int .i64 0) (.slice none 0 0) (.int .i64 0) (.slice none 0 0) := by
    rw [hR]
    exact ⟨by simp, by go_simp, by go_simp, by go_simp, by go_simp, by go_simp, by go_simp, by go_simp, by go_simp⟩
  clear hn h h2 hn2
  go_enter Try.func38, Try.ntmps38
  go_wp2_with fail
  rw [← hR]
  have hRw : w.heap.size < R := by omega
  clear hR
  generalize (w.alloc (.cells #[.int .i64 s, .slice a n c] 29)).alloc (.cells #[.int .i64 0, .slice none 0 0, .int .i64 0, .slice none 0 0] 31) = V at hA k0 k1 bx ⊢
  refine (l04Signs s a n c xss a2 n2 c2 ys V (HR.out.below hA) HN.out (HR2.out.below hA) HN2.out).mono ?_
  rintro e w1 ⟨rfl, b1⟩
  replace k0 := b1.keep k0
  replace k1 := b1.keep k1
  replace bx := bx.below b1
  replace hA := hA.next b1
  clear b1
  by_cases hc : dblCode s xss ys = 0
  case neg =>
    have HO := Lib.hid (dblOf_no hc)
    have hne : (dblCode s xss ys != 0) = true := by simpa using hc
    obtain ⟨_, r0, r1, r2, r3, g0, g1, g2, g3⟩ := bx
    clear hc
    generalize dblCode s xss ys = cd at *
    go_wp2
    refine bodyPost_ret (v := .tuple #[.agg #[.int .i64 0, .slice none 0 0, .int .i64 0, .slice none 0 0], .int .i64 cd]) (by simp [results, Try.results38, go_sem, r0, r1, r2, r3]) rfl ?_
    rw [HO.out]
    exact covA_zero rfl (hA.chgn (chg4 _ R _ _ _ _) (by omega) hA.size)
  case pos =>
    have HO := Lib.hid (dblOf_ok hc)
    have HC := Lib.hid hc
    rw [hc]
    clear hc
    have HG := Lib.hid (cyc_ok (dbl_ok HC.out).2.2.2)
    have HK := Lib.hid (cycOf_ok (dbl_ok HC.out).2.2.2)
    have hRlt := bx.lt
    have HX := Lib.hid bx
    clear bx
    go_wp2_with fail
    refine (l04Double s a n c xss a2 n2 c2 ys _ (HR.out.below hA) HN.out (HR2.out.below hA) HN2.out HC.out).mono ?_
    rintro e w3 ⟨a5, c5, ta5, tc5, m5, rfl, hm1, hm2, o5, o6, b3⟩
    obtain ⟨_, r0, r1, r2, r3, g0, g1, g2, g3⟩ := HX.out.below b3
    have v5 := chg4 w3 R (.int .i64 s) (.slice a5 xss.length c5) (.int .i64 2) (.slice ta5 (cycRows 2 (dblList ys)).length tc5)
    have hsA := hA.size
    have hB3 := (hA.next b3).chgn v5 (by omega) (by have := b3.size; omega)
    go_wp2
    refine bodyPost_ret (v := .tuple #[.agg #[.int .i64 s, .slice a5 xss.length c5, .int .i64 2, .slice ta5 (cycRows 2 (dblList ys)).length tc5], .int .i64 0]) (by simp [results, Try.results38, go_sem, r0, r1, r2, r3]) rfl ?_
    rw [HO.out, HK.out]
    exact ⟨a5, c5, ta5, tc5, m5, rfl, by omega, by simp [World.setCell]; omega, (o5.chg v5 (.inr (by omega))).mono (by omega) (Nat.le_refl _), (o6.chg v5 (.inr (by omega))).mono (Nat.le_refl _) (by simp [World.setCell]), hB3⟩

set_option maxHeartbeats 1600000 in
theorem implDbl {lo hi lo' hi' : Nat} (s : Int) (a : Option Addr) (n c : Nat) (xss : List (List Int)) (a2 : Option Addr) (n2 c2 : Nat) (ys : List Int) (w : World) (h : RdR lo hi w (.slice a n c) xss) (hn : xss.length = n) (h2 : RdI lo' hi' w (.slice a2 n2 c2) ys) (hn2 : ys.length = n2) :
    Calls Try.prog 39 #[.agg #[.int .i64 s, .slice a n c], .slice a2 n2 c2] w fun e w' => CovA w (dblOf s xss ys) e w' := by
  obtain ⟨i0, hi', z0, z1, z2⟩ := info_parts Try.info2
  have HN := Lib.hid hn
  have HN2 := Lib.hid hn2
  have HR := Lib.hid h
  have HR2 := Lib.hid h2
  have HCells := Lib.hid (h2.cellsC hn2)
  have hA := ((Below.refl w.heap.size w).alloc (Nat.le_refl _) (.cells #[.int .i64 s, .slice a n c] 29)).alloc (by simp) (.cells #[.int .i64 0, .slice none 0 0, .int .i64 0, .slice none 0 0] 31)
  have k0 : ((w.alloc (.cells #[.int .i64 s, .slice a n c] 29)).alloc (.cells #[.int .i64 0, .slice none 0 0, .int .i64 0, .slice none 0 0] 31)).cell? ⟨w.heap.size, 0, none⟩ = some (.int .i64 s) := by go_simp
  have k1 : ((w.alloc (.cells #[.int .i64 s, .slice a n c] 29)).alloc (.cells #[.int .i64 0, .slice none 0 0, .int .i64 0, .slice none 0 0] 31)).cell? ⟨w.heap.size, 1, none⟩ = some (.slice a n c) := by go_simp
  obtain ⟨R, hR⟩ : ∃ R, R = w.heap.size + 1 := ⟨_, rfl⟩
  have bx : Box4 ((w.alloc (.cells #[.int .i64 s, .slice a n c] 29)).alloc (.cells #[.int .i64 0, .slice none 0 0, .int .i64 0, .slice none 0 0] 31)) R (.int .i64 0) (.slice none 0 0) (.int .i64 0) (.slice none 0 0) := by
    rw [hR]
    exact ⟨by simp, by go_simp, by go_simp, by go_simp, by go_simp, by go_simp, by go_simp, by go_simp, by go_simp⟩
  clear hn h h2 hn2
  go_enter Try.func39, Try.ntmps39
  go_wp2_with fail
  rw [← hR]
  have hRw : w.heap.size < R := by omega
  clear hR
  generalize (w.alloc (.cells #[.int .i64 s, .slice a n c] 29)).alloc (.cells #[.int .i64 0, .slice none 0 0, .int .i64 0, .slice none 0 0] 31) = V at hA k0 k1 bx ⊢
  refine (checkSigns s a n c xss a2 n2 c2 ys V (HR.out.below hA) HN.out (HR2.out.below hA) HN2.out).mono ?_
  rintro e w1 ⟨rfl, b1⟩
  replace k0 := b1.keep k0
  replace k1 := b1.keep k1
  replace bx := bx.below b1
  replace hA := hA.next b1
  clear b1
  by_cases hc : dblCode s xss ys = 0
  case neg =>
    have HO := Lib.hid (dblOf_no hc)
    have hne : (dblCode s xss ys != 0) = true := by simpa using hc
    obtain ⟨_, r0, r1, r2, r3, g0, g1, g2, g3⟩ := bx
    clear hc
    generalize dblCode s xss ys = cd at *
    go_wp2
    refine bodyPost_ret (v := .tuple #[.agg #[.int .i64 0, .slice none 0 0, .int .i64 0, .slice none 0 0], .int .i64 cd]) (by simp [results, Try.results39, go_sem, r0, r1, r2, r3]) rfl ?_
    rw [HO.out]
    exact covA_zero rfl (hA.chgn (chg4 _ R _ _ _ _) (by omega) hA.size)
  case pos =>
    have HO := Lib.hid (dblOf_ok hc)
    have HC := Lib.hid hc
    rw [hc]
    clear hc
    have HSG := Lib.hid (dbl_ok HC.out).2.2.1
    have hn10 : n2 ≤ 10 := by have := grB_iff (dbl_ok HC.out).1; have := (dbl_ok HC.out).2.1; have := HN2.out; omega
    have HX := Lib.hid (⟨hA, bx⟩ : _ ∧ _)
    have hsA := hA.size
    have HTL := Lib.hid (show (dblList ys).length = n2 by rw [dblList_len]; exact HN2.out)
    clear hA bx
    go_wp2_with (at_make; refine wpList_make_full _ rfl _ _ 45 rfl w1.heap.size 2 i0 (.int .i64 0) 1 Try.underlying45 hi' z0 z1 _ _ _ _ n2 rfl rfl rfl rfl ?c1 ?c2 ?c3 ?_)
    case c1 => rw [z2]; omega
    case c2 => unfold maxLen; omega
    case c3 => exact Nat.le_refl _
    intro w2 hown hgr
    rw [setTo_zero (dblList ys) n2] at hown
    have hbl : Below w1.heap.size w1 w2 := (Below.refl _ _).grown hgr (Nat.le_refl _) (by simp)
    clear hgr
    go_wp2
    go_loopw [8, 9, 22] (fun _ _ i wr => ∃ k : Nat, k ≤ n2 ∧ i = .int .i64 k ∧ wr.ownsRow w1.heap.size 2 1 (.slice (some ⟨w1.heap.size, 0, none⟩) n2 n2) n2 (setTo (dblList ys) k n2) ∧ Below w1.heap.size w1 wr) (fun _ _ i _ => n2 - (intOf i).toNat)
    case atStart => exact ⟨0, Nat.zero_le _, rfl, hown, hbl⟩
    case round =>
      clear hown hbl
      obtain ⟨k, hk, rfl, hown, hbl⟩ := hrel
      by_cases hlt : k < n2
      · obtain ⟨b, off, rfl, g0⟩ := HCells.out k hlt
        have g1 := hbl.keep (HX.out.1.keep g0)
        have hlt' : k < ys.length := by rw [HN2.out]; exact hlt
        obtain ⟨hq1, hq2, hy1, hy2⟩ := dl_quo (HSG.out k hlt')
        have hget := dblList_get hlt'
        generalize ys.getD k 0 = y at *
        obtain ⟨x, hx⟩ : ∃ x, x = dl y := ⟨_, rfl⟩
        rw [← hx] at hq1 hq2 hget
        have q2 := (hown.cellAt k (by omega)).trans (setTo_get (dblList ys) k n2 HTL.out hlt)
        have q3 := hown.frozenAt k
        have hst := hown.stored k (.int .i64 x)
        have HGT := Lib.hid hget
        have HST := Lib.hid hst
        clear hx hget hst g0
        go_wp2
        go_roundw
        case rel => exact ⟨k+1, by omega, by go_num, by rw [← setTo_step (dblList ys) k n2 HTL.out hlt, HGT.out]; exact HST.out.1, hbl.setCell (Nat.le_refl _) _⟩
        case measure => simp [intOf]; omega
      · obtain rfl : k = n2 := by omega
        rw [setTo_all (dblList ys) k HTL.out] at hown
        have hO := OwI.mk hown (by omega) (dblList_I64 ys)
        have m0 := hbl.keep k0
        have m1 := hbl.keep k1
        have hG := implCyc s a n c xss 2 (some ⟨w1.heap.size, 0, none⟩) k k (dblList ys) wr ((HR.out.below HX.out.1).below hbl) HN.out hO.rd HTL.out
        obtain ⟨p, hp⟩ : ∃ p, p = cycOf s xss 2 (dblList ys) := ⟨_, rfl⟩
        rw [← hp] at hG
        have HPP := Lib.hid hp
        obtain ⟨⟨p0, p1, p2, p3⟩, p4⟩ := p
        unfold CovA at hG
        dsimp only at hG
        have HG := Lib.hid hG
        have HU := Lib.hid (⟨HX.out.1.next hbl, HX.out.2.below hbl⟩ : _ ∧ _)
        have hs3 := hbl.size
        clear hown hO hbl k0 k1 hG hp
        go_wp2_with fail
        refine HG.out.mono ?_
        rintro e w3 ⟨a5, c5, ta5, tc5, m5, rfl, hm1, hm2, o5, o6, b3⟩
        have hRlt := HU.out.2.lt
        obtain ⟨_, r0, r1, r2, r3, g0, g1, g2, g3⟩ := HU.out.2.below b3
        have v5 := chg4 w3 R (.int .i64 p0) (.slice a5 p1.length c5) (.int .i64 p2) (.slice ta5 p3.length tc5)
        have hB3 := (HU.out.1.next b3).chgn v5 (by omega) (by have := b3.size; omega)
        go_wp2
        refine bodyPost_ret (v := .tuple #[.agg #[.int .i64 p0, .slice a5 p1.length c5, .int .i64 p2, .slice ta5 p3.length tc5], .int .i64 p4]) (by simp [results, Try.results39, go_sem, r0, r1, r2, r3]) rfl ?_
        rw [HO.out, ← HPP.out]
        exact ⟨a5, c5, ta5, tc5, m5, rfl, by omega, by simp [World.setCell]; omega, (o5.chg v5 (.inr (by omega))).mono (by omega) (Nat.le_refl _), (o6.chg v5 (.inr (by omega))).mono (Nat.le_refl _) (by simp [World.setCell]), hB3⟩

theorem specDblL {lo hi lo' hi' : Nat} (s : Int) (a : Option Addr) (n c : Nat) (xss : List (List Int)) (a2 : Option Addr) (n2 c2 : Nat) (ys : List Int) (w : World) (h : RdR lo hi w (.slice a n c) xss) (hn : xss.length = n) (h2 : RdI lo' hi' w (.slice a2 n2 c2) ys) (hn2 : ys.length = n2) :
    Calls Try.prog 38 #[.agg #[.int .i64 s, .slice a n c], .slice a2 n2 c2] w fun e w' => ∃ a' c' ta' tc' m, e = .returned (.tuple #[.agg #[.int .i64 (dblOf s xss ys).1.1, .slice a' (dblOf s xss ys).1.2.1.length c', .int .i64 (dblOf s xss ys).1.2.2.1, .slice ta' (dblOf s xss ys).1.2.2.2.length tc'], .int .i64 (dblOf s xss ys).2]) ∧
      w.heap.size ≤ m ∧ m ≤ w'.heap.size ∧ OwR w.heap.size m w' (.slice a' (dblOf s xss ys).1.2.1.length c') (dblOf s xss ys).1.2.1 ∧ OwR m w'.heap.size w' (.slice ta' (dblOf s xss ys).1.2.2.2.length tc') (dblOf s xss ys).1.2.2.2 ∧ Below w.heap.size w w' :=
  specDbl s a n c xss a2 n2 c2 ys w h hn h2 hn2
theorem implDblL {lo hi lo' hi' : Nat} (s : Int) (a : Option Addr) (n c : Nat) (xss : List (List Int)) (a2 : Option Addr) (n2 c2 : Nat) (ys : List Int) (w : World) (h : RdR lo hi w (.slice a n c) xss) (hn : xss.length = n) (h2 : RdI lo' hi' w (.slice a2 n2 c2) ys) (hn2 : ys.length = n2) :
    Calls Try.prog 39 #[.agg #[.int .i64 s, .slice a n c], .slice a2 n2 c2] w fun e w' => ∃ a' c' ta' tc' m, e = .returned (.tuple #[.agg #[.int .i64 (dblOf s xss ys).1.1, .slice a' (dblOf s xss ys).1.2.1.length c', .int .i64 (dblOf s xss ys).1.2.2.1, .slice ta' (dblOf s xss ys).1.2.2.2.length tc'], .int .i64 (dblOf s xss ys).2]) ∧
      w.heap.size ≤ m ∧ m ≤ w'.heap.size ∧ OwR w.heap.size m w' (.slice a' (dblOf s xss ys).1.2.1.length c') (dblOf s xss ys).1.2.1 ∧ OwR m w'.heap.size w' (.slice ta' (dblOf s xss ys).1.2.2.2.length tc') (dblOf s xss ys).1.2.2.2 ∧ Below w.heap.size w w' :=
  implDbl s a n c xss a2 n2 c2 ys w h hn h2 hn2

end Go.Proofs.Ytpepmgobcdlnoaa
