/- Shifted polynomials of the model. -/
import Derived.Test.YtkhfhdmhhkfehaaShM
import Derived.Deep.RegionHeld3
set_option linter.unusedSimpArgs false
set_option linter.unusedVariables false
set_option maxRecDepth 100000
namespace Go.Proofs.Ytkhfhdmhhkfehaa
open Go.RowKit

set_option maxHeartbeats 1600000 in
theorem l01Times_nil (c m b' off' c' : Nat) (a : Option Addr) (w : World) :
    Calls Try.prog 92 #[.slice a 0 c, .slice (some ⟨b', off', none⟩) m c'] w fun e w' => ∃ a' d, e = .returned (.slice a' 0 d) ∧ OwI w.heap.size w'.heap.size w' (.slice a' 0 d) [] ∧ Below w.heap.size w w' := by
  have hb0 : ∀ o, Below w.heap.size w (w.alloc o) := fun o => (Below.refl _ _).alloc (Nat.le_refl _) o
  have hl := World.ownsRow_lit (base := w.heap.size) (e := 2) (size := 1) w #[] 0 (Nat.le_refl _) (by unfold maxLen; omega) rfl
  have hO : OwI w.heap.size (w.alloc (.cells #[] 2)).heap.size (w.alloc (.cells #[] 2)) (.slice (some ⟨w.heap.size, 0, none⟩) 0 0) [] := OwI.mk hl (by omega) (fun x hx => by cases hx)
  have HO := Lib.hid (⟨hO, hb0 _⟩ : _ ∧ Below w.heap.size w (w.alloc (.cells #[] 2)))
  clear hO hl
  go_enter Try.func92, Try.ntmps92
  go_wp2
  go_ret
  exact ⟨_, _, rfl, HO.out⟩

/-- the product with x + c -/
def tmL (ys : List Int) (c : Int) : List Int := if ys.length = 0 then [] else trim (mT ys [c, 1] (ys.length + 2 - 1) ys.length 0)
theorem acW_cg (ys : List Int) (c : Int) (p : Nat) : ∀ i, cg (acW ys [c, 1] p i) ((if p < i then c * ys.getD p 0 else 0) + (if 1 ≤ p ∧ p - 1 < i then ys.getD (p - 1) 0 else 0))
  | 0 => by
    rw [if_neg (by omega), if_neg (by omega)]; exact cg_refl 0
  | i + 1 => by
    have ih := acW_cg ys c p i
    unfold acW
    by_cases h : i ≤ p ∧ p - i < [c, (1 : Int)].length
    · rw [if_pos h]
      have h2 : p - i < 2 := h.2
      by_cases e : p = i
      · subst e
        rw [if_neg (by omega)] at ih
        rw [if_pos (by omega)]
        have e0 : [c, (1 : Int)].getD (p - p) 0 = c := by rw [Nat.sub_self]; rfl
        rw [e0]
        have h3 : cg (wrap64 (acW ys [c, 1] p p + wrap64 (ys.getD p 0 * c))) (0 + (if 1 ≤ p ∧ p - 1 < p then ys.getD (p - 1) 0 else 0) + ys.getD p 0 * c) := cg_w (cg_add ih (cg_wrap _))
        have e1 : (if 1 ≤ p ∧ p - 1 < p + 1 then ys.getD (p - 1) 0 else 0) = (if 1 ≤ p ∧ p - 1 < p then ys.getD (p - 1) 0 else 0) := by
          by_cases hp : 1 ≤ p
          · rw [if_pos ⟨hp, by omega⟩, if_pos ⟨hp, by omega⟩]
          · rw [if_neg (fun x => hp x.1), if_neg (fun x => hp x.1)]
        rw [e1]
        generalize (if 1 ≤ p ∧ p - 1 < p then ys.getD (p - 1) 0 else 0) = u at *
        rw [Int.mul_comm c]
        obtain ⟨t, ht⟩ := h3
        exact ⟨t, by omega⟩
      · have e2 : p - 1 = i := by omega
        have e0 : [c, (1 : Int)].getD (p - i) 0 = 1 := by rw [show p - i = 1 by omega]; rfl
        rw [e0, Int.mul_one]
        rw [if_neg (by omega), if_neg (by omega)] at ih
        rw [if_neg (by omega), if_pos ⟨by omega, by omega⟩, e2]
        have h3 : cg (wrap64 (acW ys [c, 1] p i + wrap64 (ys.getD i 0))) (0 + 0 + ys.getD i 0) := cg_w (cg_add ih (cg_wrap _))
        obtain ⟨t, ht⟩ := h3
        exact ⟨t, by omega⟩
    · rw [if_neg h]
      have h2 : ¬ (i ≤ p ∧ p - i < 2) := h
      have e1 : (p < i + 1) ↔ (p < i) := by omega
      have e2 : (1 ≤ p ∧ p - 1 < i + 1) ↔ (1 ≤ p ∧ p - 1 < i) := by omega
      simp only [e1, e2]
      exact ih
theorem getD_out {ys : List Int} {p : Nat} (h : ys.length ≤ p) : ys.getD p 0 = 0 := by simp [List.getD, List.getElem?_eq_none h]
theorem tmL_cg (ys : List Int) (c : Int) (p : Nat) : cg ((tmL ys c).getD p 0) (c * ys.getD p 0 + (if 1 ≤ p then ys.getD (p - 1) 0 else 0)) := by
  unfold tmL
  by_cases h0 : ys.length = 0
  · rw [if_pos h0, getD_out (by omega : ys.length ≤ p), getD_out (by omega : ys.length ≤ p - 1), Int.mul_zero]
    have : (if 1 ≤ p then (0 : Int) else 0) = 0 := by split <;> rfl
    rw [this]; exact cg_refl 0
  · rw [if_neg h0, trim_getD]
    by_cases hp : p < ys.length + 2 - 1
    · rw [mT_get hp, if_neg (by omega)]
      have h1 := acW_cg ys c p ys.length
      by_cases e : p < ys.length
      · rw [if_pos e] at h1
        by_cases e1 : 1 ≤ p
        · rw [if_pos ⟨e1, by omega⟩] at h1; rw [if_pos e1]; exact h1
        · rw [if_neg (fun x => e1 x.1)] at h1; rw [if_neg e1]; exact h1
      · rw [if_neg e, if_pos ⟨by omega, by omega⟩] at h1
        rw [getD_out (by omega : ys.length ≤ p), Int.mul_zero, if_pos (by omega)]; exact h1
    · rw [getD_out (by rw [mT_len]; omega), getD_out (by omega : ys.length ≤ p), Int.mul_zero]
      have : (if 1 ≤ p then ys.getD (p - 1) 0 else 0) = 0 := by
        split
        · exact getD_out (by omega)
        · rfl
      rw [this]; exact cg_refl 0
theorem tmL_len (ys : List Int) (c : Int) : (tmL ys c).length ≤ ys.length + 1 := by
  unfold tmL
  split
  · exact Nat.zero_le _
  · have := trim_le (mT ys [c, 1] (ys.length + 2 - 1) ys.length 0)
    rw [mT_len] at this; omega
theorem tmL_I64 (ys : List Int) (c : Int) (p : Nat) : I64 ((tmL ys c).getD p 0) := by
  unfold tmL
  by_cases h0 : ys.length = 0
  · rw [if_pos h0]; exact I64_zero
  · rw [if_neg h0, trim_getD]
    by_cases hp : p < ys.length + 2 - 1
    · rw [mT_get hp]; split <;> exact acW_I64 _ _ _ _
    · rw [getD_out (by rw [mT_len]; omega)]; exact I64_zero
/-- .. and a number more -/
def stL (ys : List Int) (c x : Int) : List Int := trim (aT (tmL ys c) [x] 1 (max (tmL ys c).length 1) 1)
theorem stL_len (ys : List Int) (c x : Int) : (stL ys c x).length ≤ ys.length + 1 := by
  unfold stL
  have := trim_le (aT (tmL ys c) [x] 1 (max (tmL ys c).length 1) 1)
  rw [aT_len] at this
  have := tmL_len ys c
  omega
theorem stL_get {xs : List Int} {c : Int} {L d : Nat} {ys : List Int} (h : ∀ j, ys.getD j 0 = wrap64 (hQ xs c L d j)) (j : Nat) : (stL ys c (xs.getD (L - 1 - d) 0)).getD j 0 = wrap64 (hQ xs c L (d + 1) j) := by
  unfold stL
  rw [trim_getD]
  have hcg : ∀ j, cg (ys.getD j 0) (hQ xs c L d j) := fun j => by rw [h j]; exact cg_wrap _
  have back : ∀ x : Int, cg x (wrap64 x) := fun x => by obtain ⟨t, ht⟩ := cg_wrap x; exact ⟨-t, by omega⟩
  have key : ∀ y, I64 y → cg y (hQ xs c L (d + 1) j) → y = wrap64 (hQ xs c L (d + 1) j) := fun y h1 h2 => cg_eq (cg_trans h2 (back _)) h1 (wrap_I64 _)
  have hm := tmL_cg ys c j
  by_cases hN : j < max (tmL ys c).length 1
  · rw [aT_get hN]
    match j, hm, hN, key with
    | 0, hm, hN, key =>
      rw [if_pos (by omega)]
      refine key _ (wrap_I64 _) ?_
      rw [if_neg (by omega), Int.add_zero] at hm
      have e : [xs.getD (L - 1 - d) 0].getD 0 0 = xs.getD (L - 1 - d) 0 := rfl
      rw [e, Int.one_mul]
      exact cg_w (cg_add (cg_trans hm (cg_mul (cg_refl c) (hcg 0))) (cg_wrap _))
    | j + 1, hm, hN, key =>
      rw [if_neg (by omega)]
      refine key _ (tmL_I64 ys c _) ?_
      rw [if_pos (by omega), Nat.add_sub_cancel] at hm
      exact cg_trans hm (cg_add (cg_mul (cg_refl c) (hcg (j + 1))) (hcg j))
  · rw [getD_out (by rw [aT_len]; omega)]
    refine key _ I64_zero ?_
    rw [getD_out (by omega : (tmL ys c).length ≤ j)] at hm
    match j, hm, hN with
    | 0, _, hN => omega
    | j + 1, hm, hN =>
      rw [if_pos (by omega), Nat.add_sub_cancel] at hm
      exact cg_trans hm (cg_add (cg_mul (cg_refl c) (hcg (j + 1))) (hcg j))


/-- the lists on the way: the last d numbers are taken in -/
def shL (xs : List Int) (c : Int) (L : Nat) : Nat → List Int
  | 0 => []
  | d + 1 => stL (shL xs c L d) c (xs.getD (L - 1 - d) 0)
theorem shL_len (xs : List Int) (c : Int) (L : Nat) : ∀ d, (shL xs c L d).length ≤ d
  | 0 => Nat.le_refl _
  | d + 1 => by
    have h1 := shL_len xs c L d
    have h2 := stL_len (shL xs c L d) c (xs.getD (L - 1 - d) 0)
    show (stL _ _ _).length ≤ _
    omega
theorem shL_get (xs : List Int) (c : Int) (L : Nat) : ∀ d j, (shL xs c L d).getD j 0 = wrap64 (hQ xs c L d j)
  | 0, j => by
    have e : hQ xs c L 0 j = 0 := hQ_deg xs c L 0 j (Nat.zero_le _)
    rw [e, wrap_of I64_zero]; rfl
  | d + 1, j => stL_get (shL_get xs c L d) j

set_option maxHeartbeats 6400000 in
theorem l07Shift {lo hi : Nat} (L cap : Nat) (a : Option Addr) (xs : List Int) (c : Int) (w : World) (h : RdI lo hi w (.slice a L cap) xs) (hl : xs.length = L) (hL : L ≤ 30) (hc : I64 c) :
    Calls Try.prog 95 #[.slice a L cap, .int .i64 c] w fun e w' => ∃ a' c', e = .returned (.slice a' (shL xs c L L).length c') ∧ (∃ lo hi, RdI lo hi w' (.slice a' (shL xs c L L).length c') (shL xs c L L)) ∧ Below w.heap.size w w' := by
  have HX := Lib.hid (fun W (hB : Below w.heap.size w W) => (h.below hB).at hl)
  have HXI := Lib.hid h.2.1
  have HXL := Lib.hid hl
  have HCI := Lib.hid hc
  have HTM := Lib.hid (fun (W V : World) (no co : Nat) (ao : Option Addr) (ys : List Int) (lo1 hi1 p : Nat) (hB : Below W.heap.size W V) (hn : no ≤ 40) (hy : RdI lo1 hi1 V (.slice ao no co) ys) (hyl : ys.length = no) (h0 : V.cell? ⟨p, 0, none⟩ = some (.int .i64 c)) (h1 : V.cell? ⟨p, 1, none⟩ = some (.int .i64 1)) =>
    show Calls Try.prog 92 #[.slice ao no co, .slice (some ⟨p, 0, none⟩) 2 2] V fun e w' => ∃ a' d, e = .returned (.slice a' (tmL ys c).length d) ∧ OwI V.heap.size w'.heap.size w' (.slice a' (tmL ys c).length d) (tmL ys c) ∧ Below V.heap.size V w' ∧ Below W.heap.size W w' by
      have hpl := World.block_lt_of_cell? V _ h0
      have hg : RdI 0 V.heap.size V (.slice (some ⟨p, 0, none⟩) 2 2) [c, 1] := ⟨by simp, fun x hx => by
          simp only [List.mem_cons, List.not_mem_nil, or_false] at hx
          rcases hx with rfl | rfl
          · exact hc
          · unfold I64; omega, .inr ⟨p, 0, 2, rfl, by simp, Nat.zero_le _, hpl, fun j hj => by
          have hj2 : j < 2 := hj
          match j, hj2 with
          | 0, _ => exact h0
          | 1, _ => exact h1⟩⟩
      by_cases hz : no = 0
      · subst hz
        refine (l01Times_nil co 2 p 0 2 ao V).mono ?_
        rintro e w' ⟨a', d, rfl, o, b⟩
        have e1 : tmL ys c = [] := by unfold tmL; rw [if_pos hyl]
        rw [e1]
        exact ⟨a', d, rfl, o, b, hB.next b⟩
      · obtain ⟨b1, off1, rfl, _⟩ := hy.at hyl 0 (by omega)
        refine (l01Times_ne no 2 b1 off1 co p 0 2 ys [c, 1] V hy hg hyl rfl (by omega) (by omega) hn (by omega)).mono ?_
        rintro e w' ⟨a', d, rfl, o, b⟩
        have e1 : tmL ys c = trim (mT ys [c, 1] (no + 2 - 1) no 0) := by unfold tmL; rw [if_neg (by omega), hyl]
        rw [e1]
        exact ⟨a', d, rfl, o, b, hB.next b⟩)
  have HAD := Lib.hid (fun (W V : World) (no co : Nat) (ao : Option Addr) (ys : List Int) (x : Int) (lo1 hi1 p : Nat) (hB : Below W.heap.size W V) (hn : no ≤ 40) (hx : I64 x) (hy : RdI lo1 hi1 V (.slice ao no co) ys) (hyl : ys.length = no) (h0 : V.cell? ⟨p, 0, none⟩ = some (.int .i64 x)) =>
    show Calls Try.prog 107 #[.slice ao no co, .slice (some ⟨p, 0, none⟩) 1 1, .int .i64 1] V fun e w' => ∃ a' d, e = .returned (.slice a' (trim (aT ys [x] 1 (max no 1) 1)).length d) ∧ OwI V.heap.size w'.heap.size w' (.slice a' (trim (aT ys [x] 1 (max no 1) 1)).length d) (trim (aT ys [x] 1 (max no 1) 1)) ∧ Below W.heap.size W w' by
      have hpl := World.block_lt_of_cell? V _ h0
      have hg : RdI 0 V.heap.size V (.slice (some ⟨p, 0, none⟩) 1 1) [x] := ⟨by simp, fun y hy => by
          simp only [List.mem_cons, List.not_mem_nil, or_false] at hy
          subst hy; exact hx, .inr ⟨p, 0, 1, rfl, by simp, Nat.zero_le _, hpl, fun j hj => by
          have hj2 : j < 1 := hj
          match j, hj2 with
          | 0, _ => exact h0⟩⟩
      refine (l01AddW no 1 co p 0 1 ao ys [x] 1 V hy hg hyl rfl (by omega) hn (by omega)).mono ?_
      rintro e w' ⟨a', d, rfl, o, b⟩
      exact ⟨a', d, rfl, o, hB.next b⟩)
  have hl0 := World.ownsRow_lit (base := w.heap.size) (e := 2) (size := 1) w #[] 0 (Nat.le_refl _) (by unfold maxLen; omega) rfl
  have hO : OwI w.heap.size (w.alloc (.cells #[] 2)).heap.size (w.alloc (.cells #[] 2)) (.slice (some ⟨w.heap.size, 0, none⟩) 0 0) [] := OwI.mk hl0 (by omega) (fun x hx => by cases hx)
  have HS := Lib.hid (⟨hO.rd, (Below.refl _ _).alloc (Nat.le_refl _) _⟩ : RdI w.heap.size (w.alloc (.cells #[] 2)).heap.size (w.alloc (.cells #[] 2)) (.slice (some ⟨w.heap.size, 0, none⟩) 0 0) [] ∧ Below w.heap.size w (w.alloc (.cells #[] 2)))
  have s0 : IntKind.i64.wrap ((L : Int) - 1) = (L : Int) - 1 := IntWalk.i64_in _ (by clear hO hl0; omega)
  have s0' : wrap64 ((L : Int) - 1) = (L : Int) - 1 := IntWalk.wrap64_in _ (by clear hO hl0 s0; omega)
  clear hO hl0 h hl hc
  go_enter Try.func95, Try.ntmps95
  go_wp2
  generalize w.alloc (.cells #[] 2) = V0 at HS ⊢
  go_loopw [5, 6] (fun o v wr => ∃ (d c' lo' hi' : Nat) (a' : Option Addr), d ≤ L ∧ v = .int .i64 ((L : Int) - 1 - d) ∧ o = .slice a' (shL xs c L d).length c' ∧ RdI lo' hi' wr (.slice a' (shL xs c L d).length c') (shL xs c L d) ∧ Below w.heap.size w wr) (fun _ v _ => (intOf v + 1).toNat)
  case atStart => exact ⟨0, 0, _, _, _, Nat.zero_le _, by simp, rfl, HS.out⟩
  case round =>
    clear HS s0 s0'
    obtain ⟨d, co, lo', hi', ao, hd, rfl, rfl, hR, hB⟩ := hrel
    have hyl := shL_len xs c L d
    by_cases hlt : d < L
    · obtain ⟨I, hI⟩ : ∃ I, I = L - 1 - d := ⟨_, rfl⟩
      have hIi : (L : Int) - 1 - (d : Int) = (I : Int) := by omega
      obtain ⟨b, off, rfl, x0⟩ := HX.out wr hB I (by omega)
      have hxI : I64 (xs.getD I 0) := by
        have e : I < xs.length := by have := HXL.out; omega
        have : xs.getD I 0 = xs[I] := by simp [List.getD, List.getElem?_eq_getElem e]
        rw [this]; exact HXI.out _ (List.getElem_mem e)
      have hst : shL xs c L (d + 1) = stL (shL xs c L d) c (xs.getD I 0) := by rw [hI]; rfl
      have htl := tmL_len (shL xs c L d) c
      obtain ⟨x, hx⟩ : ∃ x, x = xs.getD I 0 := ⟨_, rfl⟩
      rw [← hx] at x0 hxI hst
      obtain ⟨ys, hys⟩ : ∃ ys, ys = shL xs c L d := ⟨_, rfl⟩
      rw [← hys] at hR hyl htl hst ⊢
      obtain ⟨no, hno⟩ : ∃ n, n = ys.length := ⟨_, rfl⟩
      rw [← hno] at hR ⊢
      have hno40 : no ≤ 40 := by omega
      have htm40 : (tmL ys c).length ≤ 40 := by omega
      have HST := Lib.hid hst
      have HYL := Lib.hid hno.symm
      have HWB := Lib.hid hB
      have hge : decide ((0 : Int) ≤ (I : Int)) = true := decide_eq_true (by omega)
      have hdL : d + 1 ≤ L := by omega
      have hIL : (I : Int) < (L : Int) := by omega
      have hnx : (I : Int) - 1 = (L : Int) - 1 - ((d + 1 : Nat) : Int) := by omega
      have q1 : IntKind.i64.wrap ((I : Int) - 1) = (L : Int) - 1 - ((d + 1 : Nat) : Int) := by rw [← hnx]; exact IntWalk.i64_in _ (by omega)
      have q2 : wrap64 ((I : Int) - 1) = (L : Int) - 1 - ((d + 1 : Nat) : Int) := by rw [← hnx]; exact IntWalk.wrap64_in _ (by clear q1; omega)
      have HM := Lib.hid (⟨hIi, q1, q2⟩ : _ ∧ _ ∧ _)
      rw [hIi]
      have bA : Below wr.heap.size wr ((wr.alloc (.cells #[.int .i64 c, .int .i64 1] 2)).drew) := ((Below.refl wr.heap.size wr).alloc (Nat.le_refl _) _).drew
      have bB : Below wr.heap.size wr (((wr.alloc (.cells #[.int .i64 c, .int .i64 1] 2)).alloc (.cells #[.int .i64 x] 2)).drew) := by first | exact (((Below.refl wr.heap.size wr).alloc (Nat.le_refl _) _).alloc (by simp) _).drew | exact (((Below.refl wr.heap.size wr).alloc (Nat.le_refl _) _).drew).alloc (by simp) _
      have bC : Below wr.heap.size wr (((wr.alloc (.cells #[.int .i64 x] 2)).alloc (.cells #[.int .i64 c, .int .i64 1] 2)).drew) := by first | exact (((Below.refl wr.heap.size wr).alloc (Nat.le_refl _) _).alloc (by simp) _).drew | exact (((Below.refl wr.heap.size wr).alloc (Nat.le_refl _) _).drew).alloc (by simp) _
      have bX : Below wr.heap.size wr ((wr.alloc (.cells #[.int .i64 x] 2)).drew) := ((Below.refl wr.heap.size wr).alloc (Nat.le_refl _) _).drew
      have hRA := hR.below bA
      have hRB := hR.below bB
      have hRC := hR.below bC
      have HTA := Lib.hid (HTM.out wr _ no co ao ys _ _ wr.heap.size bA hno40 hRA hno.symm (by go_simp) (by go_simp))
      have HTB := Lib.hid (HTM.out wr _ no co ao ys _ _ wr.heap.size bB hno40 hRB hno.symm (by go_simp) (by go_simp))
      have HTC := Lib.hid (HTM.out wr _ no co ao ys _ _ (wr.heap.size + 1) bC hno40 hRC hno.symm (by go_simp) (by go_simp))
      have yB : (((wr.alloc (.cells #[.int .i64 c, .int .i64 1] 2)).alloc (.cells #[.int .i64 x] 2)).drew).cell? ⟨wr.heap.size + 1, 0, none⟩ = some (.int .i64 x) := by go_simp
      have yC : (((wr.alloc (.cells #[.int .i64 x] 2)).alloc (.cells #[.int .i64 c, .int .i64 1] 2)).drew).cell? ⟨wr.heap.size, 0, none⟩ = some (.int .i64 x) := by go_simp
      clear hst hno hys hx hI hIi hnx q1 q2 hlt hB hR hyl htl hRA hRB hRC HX
      go_wp2
      go_region_held3 (fun W' => W'.cell? ⟨b, off + I, none⟩ = some (.int .i64 x))
        (first | (exact x0) | (exact x5) | (exact x6) | (exact ((Below.refl w5.heap.size w5).alloc (Nat.le_refl _) _).keep x5) | (exact bA.keep x0) | (exact bB.keep x0) | (exact bC.keep x0) | (exact bX.keep x0) | go_keep)
        (first
          | (go_at_call 92; with_reducible refine HTA.out.mono ?_; rintro e w5 ⟨a5, c5, rfl, o5, b5, b5'⟩; have x5 := b5'.keep x0; have HADX := Lib.hid (HAD.out wr (w5.alloc (.cells #[.int .i64 x] 2)) _ c5 a5 (tmL ys c) x _ _ w5.heap.size (b5'.alloc b5'.size _) htm40 hxI (o5.rd.below ((Below.refl w5.heap.size w5).alloc (Nat.le_refl _) _)) rfl (by go_simp)))
          | (go_at_call 92; with_reducible refine HTB.out.mono ?_; rintro e w5 ⟨a5, c5, rfl, o5, b5, b5'⟩; have x5 := b5'.keep x0; have HADX := Lib.hid (HAD.out wr w5 _ c5 a5 (tmL ys c) x _ _ (wr.heap.size + 1) b5' htm40 hxI o5.rd rfl (b5.keep yB)))
          | (go_at_call 92; with_reducible refine HTC.out.mono ?_; rintro e w5 ⟨a5, c5, rfl, o5, b5, b5'⟩; have x5 := b5'.keep x0; have HADX := Lib.hid (HAD.out wr w5 _ c5 a5 (tmL ys c) x _ _ wr.heap.size b5' htm40 hxI o5.rd rfl (b5.keep yC)))
          | (go_at_call 107; with_reducible refine HADX.out.mono ?_; rintro e w6 ⟨a6, c6, rfl, o6, b6⟩; have x6 := b6.keep x0)
          | fail)
      all_goals
        have hst := HST.out
        have HF : Hid ((∃ lo hi, RdI lo hi w6 (.slice a6 (shL xs c L (d + 1)).length c6) (shL xs c L (d + 1))) ∧ Below w.heap.size w w6) := Lib.hid (by
          rw [hst]
          exact ⟨⟨_, _, o6.rd⟩, HWB.out.next b6⟩)
        have heq : (trim (aT (tmL ys c) [x] 1 (max (tmL ys c).length 1) 1)).length = (shL xs c L (d + 1)).length := by rw [hst]; rfl
        rw [heq]
        obtain ⟨hIi, q1, q2⟩ := HM.out
        obtain ⟨⟨l9, h9, hF⟩, hB9⟩ := HF.out
        have HFF := Lib.hid (⟨hF, hB9⟩ : _ ∧ _)
        clear o6 b6 x6 o5 b5 b5' x5 HADX hst heq hF hB9 HF HTA HTB HTC bA bB bC bX yB yC hIi
        go_wp2
        go_roundw
        case rel => exact ⟨d + 1, c6, l9, h9, a6, by clear q1 q2; omega, rfl, rfl, HFF.out⟩
        case measure => have h1 := HM.out.1; clear q1 q2; simp [intOf]; omega
    · obtain rfl : d = L := by omega
      have hge : decide ((0 : Int) ≤ (d : Int) - 1 - (d : Int)) = false := decide_eq_false (by omega)
      have HF := Lib.hid (⟨⟨_, _, hR⟩, hB⟩ : (∃ lo hi, RdI lo hi wr (.slice ao (shL xs c d d).length co) (shL xs c d d)) ∧ _)
      have hm1 : (d : Int) - 1 - (d : Int) = -1 := by omega
      rw [hm1]
      clear hR hB hge hm1 hyl
      go_wp2
      go_ret
      exact ⟨ao, co, rfl, HF.out⟩

end Go.Proofs.Ytkhfhdmhhkfehaa
