/- Merged: CaP, CaM, CaS (the plain kit of these proofs). -/
import Derived.Test.YtnblhkhdilkbeaaDoorAdjMat
import Derived.Test.YtnblhkhdilkbeaaDoorSpecAdj
import Derived.Test.YtnblhkhdilkbeaaDoorChP
set_option linter.unusedSimpArgs false
set_option linter.unusedVariables false
/- How many isomorphisms begin with a list: plain mathematics, and the model's walk. -/
set_option maxRecDepth 100000
namespace Go.Proofs.YtnblhkhdilkbeaaDoor
open Go.RowKit

/-- one more image keeps the numbers of the rows -/
def fitB (f h : Nat → Nat → Int) (l : List Int) (x : Nat) : Bool :=
  f l.length l.length == h x x && (List.range l.length).all (fun i => l.getD i 0 != (x : Int) && f l.length i == h x (l.getD i 0).toNat)
theorem fitB_no1 {f h : Nat → Nat → Int} {l : List Int} {x : Nat} (e : f l.length l.length ≠ h x x) : fitB f h l x = false := by
  unfold fitB; rw [Bool.and_eq_false_iff]; exact .inl (by simpa using e)
theorem fitB_no2 {f h : Nat → Nat → Int} {l : List Int} {x i : Nat} (hi : i < l.length) (e : l.getD i 0 = (x : Int) ∨ f l.length i ≠ h x (l.getD i 0).toNat) : fitB f h l x = false := by
  unfold fitB
  rw [Bool.and_eq_false_iff]
  refine .inr ?_
  rw [List.all_eq_false]
  refine ⟨i, List.mem_range.2 hi, ?_⟩
  rcases e with e | e
  · rw [e]; simp
  · have e2 : (f l.length i == h x (l.getD i 0).toNat) = false := by simpa using e
    rw [e2]; simp
theorem fitB_yes {f h : Nat → Nat → Int} {l : List Int} {x : Nat} (e : f l.length l.length = h x x) (h2 : ∀ i, i < l.length → l.getD i 0 ≠ (x : Int) ∧ f l.length i = h x (l.getD i 0).toNat) : fitB f h l x = true := by
  unfold fitB
  rw [Bool.and_eq_true]
  refine ⟨by simpa using e, ?_⟩
  rw [List.all_eq_true]
  intro i hi
  obtain ⟨a, b⟩ := h2 i (List.mem_range.1 hi)
  rw [Bool.and_eq_true]
  exact ⟨by simpa using a, by simpa using b⟩

/-- the loop over the images from S - r on -/
def cnG (fit : Nat → Bool) (rec : Nat → Int × List Int) (all : Bool) (S : Nat) : Nat → Int → List Int → Int × List Int
  | 0, c, f => (c, f)
  | r + 1, c, f =>
    if fit (S - (r + 1)) = true then
      (if 0 < c + (rec (S - (r + 1))).1 ∧ all = false then (c + (rec (S - (r + 1))).1, if c = 0 ∧ 0 < (rec (S - (r + 1))).1 then (rec (S - (r + 1))).2 else f)
      else cnG fit rec all S r (c + (rec (S - (r + 1))).1) (if c = 0 ∧ 0 < (rec (S - (r + 1))).1 then (rec (S - (r + 1))).2 else f))
    else cnG fit rec all S r c f
/-- how many isomorphisms begin with a list that lacks m images, and the first one -/
def cntL (S : Nat) (f h : Nat → Nat → Int) (all : Bool) : Nat → List Int → Int × List Int
  | 0, l => (1, l)
  | m + 1, l => cnG (fitB f h l) (fun x => cntL S f h all m (l ++ [(x : Int)])) all S S 0 []
theorem cnG_in {fit : Nat → Bool} {rec : Nat → Int × List Int} {all : Bool} {S : Nat} {B : Int} (hB : 0 ≤ B) (hr : ∀ x, 0 ≤ (rec x).1 ∧ (rec x).1 ≤ B) : ∀ (r : Nat) (c : Int) (f : List Int), 0 ≤ c → 0 ≤ (cnG fit rec all S r c f).1 ∧ (cnG fit rec all S r c f).1 ≤ c + r * B
  | 0, c, f, hc => by unfold cnG; exact ⟨hc, by simp⟩
  | r + 1, c, f, hc => by
    obtain ⟨h0, h1⟩ := hr (S - (r + 1))
    have e : ((r + 1 : Nat) : Int) * B = (r : Int) * B + B := by push_cast; rw [Int.add_mul, Int.one_mul]
    have hrB : 0 ≤ (r : Int) * B := Int.mul_nonneg (by omega) hB
    unfold cnG
    rw [e]
    split
    · split
      · dsimp only; omega
      · obtain ⟨a, b⟩ := cnG_in (fit := fit) (all := all) (S := S) hB hr r (c + (rec (S - (r + 1))).1) (if c = 0 ∧ 0 < (rec (S - (r + 1))).1 then (rec (S - (r + 1))).2 else f) (by omega)
        omega
    · obtain ⟨a, b⟩ := cnG_in (fit := fit) (all := all) (S := S) hB hr r c f hc
      omega
theorem cntL_in {S : Nat} {f h : Nat → Nat → Int} {all : Bool} (hS : S ≤ 8) : ∀ (m : Nat) (l : List Int), 0 ≤ (cntL S f h all m l).1 ∧ (cntL S f h all m l).1 ≤ (8 : Int) ^ m
  | 0, l => by unfold cntL; exact ⟨Int.le_of_lt Int.one_pos, Int.le_refl 1⟩
  | m + 1, l => by
    have hB : (0 : Int) ≤ (8 : Int) ^ m := Int.pow_nonneg (by decide)
    obtain ⟨a, b⟩ := cnG_in (fit := fitB f h l) (rec := fun x => cntL S f h all m (l ++ [(x : Int)])) (all := all) (S := S) hB (fun x => cntL_in hS m _) S 0 [] (by omega)
    have h3 : (S : Int) * (8 : Int) ^ m ≤ 8 * (8 : Int) ^ m := Int.mul_le_mul_of_nonneg_right (by omega) hB
    unfold cntL
    rw [Int.pow_succ]
    omega
theorem cntL_small {S : Nat} {f h : Nat → Nat → Int} {all : Bool} (hS : S ≤ 8) {m : Nat} (hm : m ≤ 8) (l : List Int) : 0 ≤ (cntL S f h all m l).1 ∧ (cntL S f h all m l).1 ≤ 16777216 := by
  obtain ⟨a, b⟩ := cntL_in (f := f) (h := h) (all := all) hS m l
  have h3 : ∀ k : Fin 9, (8 : Int) ^ k.val ≤ 16777216 := by decide
  have h4 : (8 : Int) ^ m ≤ 16777216 := h3 ⟨m, by omega⟩
  omega

set_option maxHeartbeats 3200000 in
theorem l08Fits {lo hi lo1 hi1 lo2 hi2 : Nat} (S : Nat) (f h : Nat → Nat → Int) (a : Option Addr) (c : Nat) (a1 : Option Addr) (c1 : Nat) (al : Option Addr) (n cl : Nat) (l : List Int) (x : Nat) (w : World) (hr : RdR lo hi w (.slice a S c) (tab S f)) (hr1 : RdR lo1 hi1 w (.slice a1 S c1) (tab S h)) (hl : RdI lo2 hi2 w (.slice al n cl) l) (hn : l.length = n) (hlt : n < S) (hle : ∀ i, i < n → 0 ≤ l.getD i 0 ∧ l.getD i 0 < S) (hx : x < S) (hS8 : S ≤ 8) :
    Calls Tryd.prog 64 #[.slice a S c, .slice a1 S c1, .slice al n cl, .int .i64 (x : Int)] w fun e w' => e = .returned (.bool (fitB f h l x)) ∧ Qt w w' := by
  have HF := Lib.hid (fun W (hq : Qt w W) i j (hi : i < S) (hj : j < S) => (hr.qt hq).ent hi hj)
  have HG := Lib.hid (fun W (hq : Qt w W) i j (hi : i < S) (hj : j < S) => (hr1.qt hq).ent hi hj)
  have HL := Lib.hid (fun W (hq : Qt w W) i (hi : i < n) => (hl.qt hq).at' hn i hi)
  have HE := Lib.hid hle
  obtain ⟨P, hP⟩ : ∃ P, P = fitB f h l x := ⟨_, rfl⟩
  rw [← hP]
  have HP := Lib.hid hP
  have HN1 := Lib.hid (fun e => fitB_no1 (f := f) (h := h) (l := l) (x := x) e)
  have HN2 := Lib.hid (fun i (hi : i < n) e => fitB_no2 (f := f) (h := h) (l := l) (x := x) (i := i) (by rw [hn]; exact hi) e)
  have HY := Lib.hid (fun e e2 => fitB_yes (f := f) (h := h) (l := l) (x := x) e e2)
  rw [hn] at HN1 HN2 HY
  clear hr hr1 hl hn hle hP
  go_enter Tryd.func64, Tryd.ntmps64
  obtain ⟨b, off, b', off', c', rfl, e2, e3⟩ := HF.out w (Qt.refl _) n n hlt hlt
  obtain ⟨d, doff, d', doff', dc, rfl, u2, u3⟩ := HG.out w (Qt.refl _) x x hx hx
  generalize hy : f n n = y at e3 HN1 HY
  generalize hz : h x x = z at u3 HN1 HY
  clear hy hz
  have hnS : (n : Int) < (S : Int) := by omega
  have hxS : (x : Int) < (S : Int) := by omega
  by_cases he : y = z
  case neg =>
    have hbb : (y != z) = true := by simpa using he
    have HF0 := Lib.hid (HN1.out he)
    clear he
    go_wp2
    go_quiet (fail)
    go_wp2
    go_ret
    exact ⟨by rw [HP.out, HF0.out]; rfl, (Qt.refl _).drewN _⟩
  have hbb : (y != z) = false := by simp [he]
  have HY2 := Lib.hid (HY.out he)
  clear he HY HN1
  go_wp2
  go_quiet (fail)
  go_wp2
  clear e2 e3 u2 u3
  go_loopw [10] (fun v wr => ∃ i : Nat, i ≤ n ∧ v = .int .i64 i ∧ Qt w wr ∧ Hid (∀ j, j < i → l.getD j 0 ≠ (x : Int) ∧ f n j = h x (l.getD j 0).toNat)) (fun v _ => n - (intOf v).toNat)
  case atStart => exact ⟨0, Nat.zero_le _, rfl, (Qt.refl _).drewN _, Lib.hid (fun i hi => by omega)⟩
  case round =>
    obtain ⟨i, hi, rfl, hq, HA⟩ := hrel
    by_cases hin : i < n
    · obtain ⟨bl, ol, rfl, g1⟩ := HL.out wr hq i hin
      obtain ⟨l0, l1⟩ := HE.out i hin
      obtain ⟨q, hqq⟩ : ∃ q : Nat, l.getD i 0 = (q : Int) := ⟨(l.getD i 0).toNat, by omega⟩
      have hqS : q < S := by omega
      obtain ⟨bb, oo, b2, o2, cc2, e1', e2, e3⟩ := HF.out wr hq n i hlt (by omega)
      simp only [Option.some.injEq, Addr.mk.injEq, and_true] at e1'
      obtain ⟨rfl, rfl⟩ := e1'
      obtain ⟨dd, do2, d2, p2, dc2, u1', u2, u3⟩ := HG.out wr hq x q hx hqS
      simp only [Option.some.injEq, Addr.mk.injEq, and_true] at u1'
      obtain ⟨rfl, rfl⟩ := u1'
      have hno := HN2.out i hin
      have HST := Lib.hid (fun (he1 : l.getD i 0 ≠ (x : Int)) (he : f n i = h x (l.getD i 0).toNat) j (hj : j < i + 1) => show l.getD j 0 ≠ (x : Int) ∧ f n j = h x (l.getD j 0).toNat by
        by_cases e : j = i
        · subst e; exact ⟨he1, he⟩
        · exact HA.out j (by omega))
      rw [hqq, Int.toNat_natCast] at hno HST
      rw [hqq] at g1
      generalize f n i = y1 at e3 hno HST
      generalize h x q = z1 at u3 hno HST
      have hiS : (i : Int) < (n : Int) := by omega
      have hiS2 : (i : Int) < (S : Int) := by omega
      have hqI : (q : Int) < (S : Int) := by omega
      have hq0 : (0 : Int) ≤ (q : Int) := by omega
      have HQ := Lib.hid hq
      clear hqq l0 l1
      by_cases hqx : (q : Int) = (x : Int)
      · have hbq : ((q : Int) == (x : Int)) = true := by simpa using hqx
        have HF0 := Lib.hid (hno (.inl hqx))
        clear hno hqx hq
        go_wp2
        go_quiet (fail)
        go_wp2
        go_ret
        exact ⟨by rw [HP.out, HF0.out]; rfl, HQ.out.drewN _⟩
      · have hbq : ((q : Int) == (x : Int)) = false := by simpa using hqx
        by_cases he : y1 = z1
        · have hbb2 : (y1 != z1) = false := by simp [he]
          have HN := Lib.hid (HST.out hqx he)
          clear hno he hq hqx
          go_wp2
          go_quiet (fail)
          go_wp2
          go_roundw
          case rel => exact ⟨i+1, by omega, by go_num, HQ.out.drewN _, HN⟩
          case measure => simp [intOf]; omega
        · have hbb2 : (y1 != z1) = true := by simpa using he
          have HF0 := Lib.hid (hno (.inr he))
          clear hno he hq hqx
          go_wp2
          go_quiet (fail)
          go_wp2
          go_ret
          exact ⟨by rw [HP.out, HF0.out]; rfl, HQ.out.drewN _⟩
    · obtain rfl : i = n := by omega
      have HF0 := Lib.hid (HY2.out HA.out)
      go_wp2
      go_ret
      exact ⟨by rw [HP.out, HF0.out]; rfl, hq⟩

end Go.Proofs.YtnblhkhdilkbeaaDoor

/- How many isomorphisms begin with a list, by the model. -/
set_option maxRecDepth 100000
namespace Go.Proofs.YtnblhkhdilkbeaaDoor
open Go.RowKit

theorem snoc_at {l : List Int} {n : Nat} {x : Int} {S : Int} (hn : l.length = n) (h : ∀ i, i < n → 0 ≤ l.getD i 0 ∧ l.getD i 0 < S) (hx : 0 ≤ x ∧ x < S) : ∀ i, i < n + 1 → 0 ≤ (l ++ [x]).getD i 0 ∧ (l ++ [x]).getD i 0 < S := fun i hi => by
  by_cases e : i < n
  · have e2 : (l ++ [x]).getD i 0 = l.getD i 0 := by simp [List.getD, List.getElem?_append, hn, e]
    rw [e2]; exact h i e
  · obtain rfl : i = n := by omega
    have e2 : (l ++ [x]).getD i 0 = x := by simp [List.getD, List.getElem?_append, hn]
    rw [e2]; exact hx

set_option maxHeartbeats 6400000 in
theorem l08Count {lo1 hi1 lo2 hi2 : Nat} (S : Nat) (hS8 : S ≤ 8) (f h : Nat → Nat → Int) (a : Option Addr) (c : Nat) (a1 : Option Addr) (c1 : Nat) (all : Bool) :
    ∀ (m : Nat) (l : List Int) (al : Option Addr) (n cl lo : Nat) (w : World), l.length = n → n + m = S → (∀ i, i < n → 0 ≤ l.getD i 0 ∧ l.getD i 0 < S) → lo ≤ w.heap.size → RdR lo1 hi1 w (.slice a S c) (tab S f) → RdR lo2 hi2 w (.slice a1 S c1) (tab S h) → OwI lo w.heap.size w (.slice al n cl) l →
      Calls Tryd.prog 50 #[.slice a S c, .slice a1 S c1, .slice al n cl, .bool all] w fun e w' => ∃ a' c', e = .returned (.tuple #[.int .i64 (cntL S f h all m l).1, .slice a' (cntL S f h all m l).2.length c']) ∧ OwI lo w'.heap.size w' (.slice a' (cntL S f h all m l).2.length c') (cntL S f h all m l).2 ∧ Below w.heap.size w w'
  | 0, l, al, n, cl, lo, w, hn, hm, hle, hlo, hr, hr1, hO => by
    obtain rfl : n = S := by omega
    have HF := Lib.hid (⟨hO, hn⟩ : _ ∧ _)
    clear hr hr1 hO hle hn hm
    go_enter Tryd.func50, Tryd.ntmps50
    go_wp2
    go_ret2
    refine ⟨al, cl, by unfold cntL; rw [HF.out.2]; rfl, ?_, Below.refl _ _⟩
    unfold cntL
    rw [HF.out.2]
    exact HF.out.1
  | m + 1, l, al, n, cl, lo, w, hn, hm, hle, hlo, hr, hr1, hO => by
    obtain ⟨i0, hi', z0, z1, z2⟩ := info_parts Tryd.info2
    have hne : ((n : Int) == (S : Int)) = false := by have : (n : Int) ≠ (S : Int) := by omega
                                                      simpa using this
    have HT := Lib.hid (fun W (hB : Below w.heap.size w W) => (⟨hr.below hB, hr1.below hB, hO.below hB⟩ : _ ∧ _ ∧ _))
    have HL := Lib.hid (⟨hn, hle, hm⟩ : _ ∧ _ ∧ _)
    have HLO := Lib.hid hlo
    obtain ⟨P, hP⟩ : ∃ P, P = cntL S f h all (m + 1) l := ⟨_, rfl⟩
    rw [← hP]
    unfold cntL at hP
    have HB := Lib.hid (fun (x : Nat) => cntL_small (S := S) (f := f) (h := h) (all := all) hS8 (m := m) (by omega) (l ++ [(x : Int)]))
    have HIH := Lib.hid (l08Count (lo1 := lo1) (hi1 := hi1) (lo2 := lo2) (hi2 := hi2) S hS8 f h a c a1 c1 all m)
    have hnS : n < S := by omega
    have hl0 := World.ownsRow_lit (base := w.heap.size) (e := 2) (size := 1) w #[] 0 (Nat.le_refl _) (by unfold maxLen; omega) rfl
    have hbA := (Below.refl w.heap.size w).alloc (Nat.le_refl _) (.cells #[] 2)
    have HS := Lib.hid (⟨OwI.mk hl0 (by omega) (fun x hx => by simp at hx), hbA⟩ : OwI w.heap.size _ _ _ ([] : List Int) ∧ _)
    have HP := Lib.hid hP
    clear hr hr1 hO hn hle hm hlo hl0 hbA hP
    go_enter Tryd.func50, Tryd.ntmps50
    go_wp2
    go_loopw [10, 11, 12] (fun vc vf vx wr => ∃ (x r : Nat) (cc : Int) (ff : List Int) (af : Option Addr) (cf : Nat), x + r = S ∧ vx = .int .i64 (x : Int) ∧ vc = .int .i64 cc ∧ vf = .slice af ff.length cf ∧ (0 ≤ cc ∧ cc ≤ (x : Int) * 16777216) ∧ Hid (P = cnG (fitB f h l) (fun x => cntL S f h all m (l ++ [(x : Int)])) all S r cc ff) ∧ OwI w.heap.size wr.heap.size wr (.slice af ff.length cf) ff ∧ Below w.heap.size w wr) (fun _ _ vx _ => S - (intOf vx).toNat)
    case atStart => exact ⟨0, S, 0, [], _, _, by omega, rfl, rfl, rfl, by omega, HP, HS.out⟩
    case round =>
      clear HP HS
      obtain ⟨x, r, cc, ff, af, cf, hxr, rfl, rfl, rfl, hcc, HP, hO, hB⟩ := hrel
      by_cases hr0 : 0 < r
      · obtain ⟨r', rfl⟩ : ∃ r', r = r' + 1 := ⟨r - 1, by omega⟩
        have hxS : x < S := by omega
        have hxI : (x : Int) < (S : Int) := by omega
        have hP := HP.out
        unfold cnG at hP
        rw [show S - (r' + 1) = x by omega] at hP
        have HP2 := Lib.hid hP
        clear hP HP
        obtain ⟨t0, t1, t2⟩ := HT.out wr hB
        have HF := Lib.hid (l08Fits S f h a c a1 c1 al n cl l x wr t0 t1 t2.rd HL.out.1 hnS HL.out.2.1 hxS hS8)
        have HO := Lib.hid (⟨hO, hB⟩ : _ ∧ _)
        clear t0 t1 t2 hO hB
        go_wp2_with fail
        refine HF.out.mono ?_
        cases hfit : fitB f h l x with
        | false =>
          rintro e w1 ⟨rfl, q1⟩
          have hP := HP2.out
          rw [hfit, if_neg (by simp)] at hP
          have HN := Lib.hid (⟨Lib.hid hP, (HO.out.1.qt q1).up, HO.out.2.qt q1⟩ : _ ∧ _ ∧ _)
          clear hP HP2 HF hfit q1 HO
          go_wp2
          go_roundw
          case rel => exact ⟨x+1, r', cc, ff, af, cf, by omega, by go_num, rfl, rfl, by push_cast; omega, HN.out⟩
          case measure => simp [intOf]; omega
        | true =>
          rintro e w1 ⟨rfl, q1⟩
          have hP := HP2.out
          rw [hfit, if_pos rfl] at hP
          have HP3 := Lib.hid hP
          have HN := Lib.hid (⟨(HO.out.1.qt q1).up, HO.out.2.qt q1⟩ : _ ∧ _)
          obtain ⟨t0, t1, t2⟩ := HT.out w1 HN.out.2
          have HLO1 := Lib.hid (l01Own (.slice al n cl) l w1 t2.rd)
          rw [HL.out.1] at HLO1
          clear hP HP2 HF hfit q1 HO t0 t1 t2
          go_wp2_with fail
          refine HLO1.out.mono ?_
          rintro e w2 ⟨a2, c2, rfl, o2, b2⟩
          have hown := o2.2.2.1
          rw [HL.out.1] at hown
          have hlt := hown.lt
          have HW1 := Lib.hid (show w.heap.size ≤ w1.heap.size from HN.out.2.size)
          have HK := Lib.hid (⟨HN.out.1.below b2, HN.out.2.next b2, b2.size⟩ : _ ∧ _ ∧ w1.heap.size ≤ w2.heap.size)
          clear HN HLO1 o2 b2
          go_wp2_with (at_builtin; refine wpList_append_lies _ rfl _ _ 25 rfl w1.heap.size 2 i0 (.int .i64 0) 1 8 Tryd.underlying25 hi' z0 z1 z2 rfl (by decide) _ _ _ rfl (hown.alloc _) ⟨w2.heap.size, 0, none⟩ 1 1 [.int .i64 (x : Int)] rfl rfl ?c1 ?c2 (by decide) ?c3 ?c4 ?c5 _ rfl ?_)
          case c1 => exact news_one _ _ _
          case c2 => intro u hu; simp at hu; subst hu; rfl
          case c3 => unfold maxLen; omega
          case c4 => omega
          case c5 => have := HK.out.2.2; simp; omega
          intro g3 c3 w3 hown3 hgr hlie hlt3
          have hbA := (Below.refl w2.heap.size w2).alloc (Nat.le_refl _) (.cells #[.int .i64 (x : Int)] 2)
          have hch : Chg w1.heap.size w2.heap.size w2 w3 := (hbA.chg _ _).trans (Chg.grown hgr (fun j hj => hlt j hj))
          have hO3 : OwI w1.heap.size w3.heap.size w3 (.slice (some ⟨g3, 0, none⟩) (n + 1) c3) (l ++ [(x : Int)]) := OwI.mk (by rw [List.map_append]; exact hown3) (by omega) (fun y hy => by
            rcases List.mem_append.1 hy with hy | hy
            · obtain ⟨j, hj, rfl⟩ := List.getElem_of_mem hy
              have := HL.out.2.1 j (by rw [← HL.out.1]; exact hj)
              rw [List.getD_eq_getElem?_getD, List.getElem?_eq_getElem hj, Option.getD_some] at this
              unfold I64; omega
            · simp at hy; subst hy; unfold I64; omega)
          have hB3 : Below w.heap.size w w3 := HK.out.2.1.chgn hch HW1.out HK.out.2.1.size
          have HCH := Lib.hid (HIH.out (l ++ [(x : Int)]) (some ⟨g3, 0, none⟩) (n + 1) c3 w.heap.size w3 (by rw [List.length_append, HL.out.1]; rfl) (by have := HL.out.2.2; omega) (snoc_at HL.out.1 HL.out.2.1 ⟨by omega, hxI⟩) hB3.size (HT.out w3 hB3).1 (HT.out w3 hB3).2.1 (OwI.mono hO3 HW1.out (Nat.le_refl _)))
          have HK3 := Lib.hid (⟨HK.out.1.chg hch (.inl (Nat.le_refl _)), hB3⟩ : _ ∧ _)
          obtain ⟨b0, b1'⟩ := HB.out x
          have hP := HP3.out
          generalize cntL S f h all m (l ++ [(x : Int)]) = res at HCH b0 b1' hP
          obtain ⟨mo, ow⟩ := res
          dsimp only at HCH b0 b1' hP
          have hx8 : (x : Int) < 8 := by omega
          have hsm : -1000000000 ≤ cc + mo ∧ cc + mo ≤ 1000000000 := by omega
          have HPQ := Lib.hid hP
          clear hP HP3 HK hown hlt hown3 hgr hlie hlt3 hbA hch hO3 hB3
          go_wp2_with fail
          refine HCH.out.mono ?_
          rintro e w4 ⟨a4, c4, rfl, o4, b4⟩
          have HO4 := Lib.hid (⟨o4.up, (HK3.out.1.below b4).up, HK3.out.2.next b4⟩ : _ ∧ _ ∧ _)
          clear HCH HK3 o4 b4
          have hP := HPQ.out
          clear HPQ
          by_cases hA : cc = 0
          · subst hA
            rw [Int.zero_add] at hP
            by_cases hmo : 0 < mo
            · rw [if_pos (show (0 : Int) = 0 ∧ 0 < mo from ⟨rfl, hmo⟩)] at hP
              cases all with
              | false =>
                rw [if_pos (show 0 < mo ∧ false = false from ⟨by omega, rfl⟩)] at hP
                have HF := Lib.hid (⟨hP, OwI.mono HO4.out.1 HLO.out (Nat.le_refl _), HO4.out.2.2⟩ : _ ∧ _ ∧ _)
                have hmI : mo > 0 := hmo
                clear hP HO4 hcc hmo
                have s1 : IntKind.i64.wrap (mo) = mo := IntWalk.i64_in _ (by omega)
                have s2 : wrap64 (mo) = mo := IntWalk.wrap64_in _ (by clear s1; omega)
                go_wp2
                go_ret2
                exact ⟨a4, c4, by rw [HF.out.1]; rfl, by rw [HF.out.1]; exact HF.out.2.1, HF.out.2.2⟩
              | true =>
                rw [if_neg (show ¬ (0 < mo ∧ true = false) from fun e => by simp at e)] at hP
                have HF := Lib.hid (⟨by omega, Lib.hid hP, HO4.out.1, HO4.out.2.2⟩ : (0 ≤ mo ∧ mo ≤ ((x + 1 : Nat) : Int) * 16777216) ∧ _ ∧ _ ∧ _)
                have hmI : mo > 0 := hmo
                clear hP HO4 hcc hmo
                have s1 : IntKind.i64.wrap (mo) = mo := IntWalk.i64_in _ (by omega)
                have s2 : wrap64 (mo) = mo := IntWalk.wrap64_in _ (by clear s1; omega)
                go_wp2
                clear s1 s2
                go_roundw
                case rel => exact ⟨x+1, r', mo, ow, a4, c4, by omega, by go_num, rfl, rfl, HF.out⟩
                case measure => simp [intOf]; omega
            · rw [if_neg (show ¬ ((0 : Int) = 0 ∧ 0 < mo) from fun e => hmo e.2)] at hP
              rw [if_neg (show ¬ (0 < mo ∧ all = false) from fun e => by omega)] at hP
              have HF := Lib.hid (⟨by omega, Lib.hid hP, HO4.out.2.1, HO4.out.2.2⟩ : (0 ≤ mo ∧ mo ≤ ((x + 1 : Nat) : Int) * 16777216) ∧ _ ∧ _ ∧ _)
              have hmI : ¬ mo > 0 := hmo
              clear hP HO4 hcc hmo
              have s1 : IntKind.i64.wrap (mo) = mo := IntWalk.i64_in _ (by omega)
              have s2 : wrap64 (mo) = mo := IntWalk.wrap64_in _ (by clear s1; omega)
              go_wp2
              clear s1 s2
              go_roundw
              case rel => exact ⟨x+1, r', mo, ff, af, cf, by omega, by go_num, rfl, rfl, HF.out⟩
              case measure => simp [intOf]; omega
          · rw [if_neg (show ¬ (cc = 0 ∧ 0 < mo) from fun e => hA e.1)] at hP
            have hcb : (cc == 0) = false := by simpa using hA
            cases all with
            | false =>
              rw [if_pos (show 0 < cc + mo ∧ false = false from ⟨by omega, rfl⟩)] at hP
              have HF := Lib.hid (⟨hP, OwI.mono HO4.out.2.1 HLO.out (Nat.le_refl _), HO4.out.2.2⟩ : _ ∧ _ ∧ _)
              have hmI2 : cc + mo > 0 := by omega
              clear hP HO4 hcc hA
              have s1 : IntKind.i64.wrap (cc + mo) = cc + mo := IntWalk.i64_in _ (by omega)
              have s2 : wrap64 (cc + mo) = cc + mo := IntWalk.wrap64_in _ (by clear s1; omega)
              go_wp2
              go_ret2
              exact ⟨af, cf, by rw [HF.out.1]; rfl, by rw [HF.out.1]; exact HF.out.2.1, HF.out.2.2⟩
            | true =>
              rw [if_neg (show ¬ (0 < cc + mo ∧ true = false) from fun e => by simp at e)] at hP
              have HF := Lib.hid (⟨by omega, Lib.hid hP, HO4.out.2.1, HO4.out.2.2⟩ : (0 ≤ cc + mo ∧ cc + mo ≤ ((x + 1 : Nat) : Int) * 16777216) ∧ _ ∧ _ ∧ _)
              have hmI2 : cc + mo > 0 := by omega
              clear hP HO4 hcc hA
              have s1 : IntKind.i64.wrap (cc + mo) = cc + mo := IntWalk.i64_in _ (by omega)
              have s2 : wrap64 (cc + mo) = cc + mo := IntWalk.wrap64_in _ (by clear s1; omega)
              go_wp2
              clear s1 s2
              go_roundw
              case rel => exact ⟨x+1, r', cc + mo, ff, af, cf, by omega, by go_num, rfl, rfl, HF.out⟩
              case measure => simp [intOf]; omega
      · obtain rfl : r = 0 := by omega
        have hP := HP.out
        unfold cnG at hP
        have HF := Lib.hid (⟨OwI.mono hO HLO.out (Nat.le_refl _), hB⟩ : _ ∧ _)
        have hxS : ¬ (x : Int) < (S : Int) := by omega
        subst hP
        clear HP hO hB
        go_wp2
        go_ret2
        exact ⟨af, cf, rfl, HF.out⟩

end Go.Proofs.YtnblhkhdilkbeaaDoor

/- CountAutomorphisms, by the model. -/
set_option maxRecDepth 100000
namespace Go.Proofs.YtnblhkhdilkbeaaDoor
open Go.RowKit

def caOf (s : Int) (xss : List (List Int)) : Int × Int := if grB s xss = true then ((cntL s.toNat (adF xss) (adF xss) true s.toNat []).1, 0) else (0, 1)
theorem caOf_no {s : Int} {xss : List (List Int)} (h : grB s xss = false) : caOf s xss = (0, 1) := by unfold caOf; rw [h, if_neg (by simp)]
theorem caOf_yes {S : Nat} {xss : List (List Int)} (h : grB (S : Int) xss = true) : caOf (S : Int) xss = ((cntL S (adF xss) (adF xss) true S []).1, 0) := by unfold caOf; rw [if_pos h, Int.toNat_natCast]

end Go.Proofs.YtnblhkhdilkbeaaDoor
