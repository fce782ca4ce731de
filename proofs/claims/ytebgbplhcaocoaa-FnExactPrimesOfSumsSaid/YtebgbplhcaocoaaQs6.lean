/- PolynomialOfSums and PrimesOfSums of the program. -/
import Derived.Test.YtebgbplhcaocoaaQs5
set_option linter.unusedSimpArgs false
set_option linter.unusedVariables false
set_option maxRecDepth 100000
namespace Go.Proofs.Ytebgbplhcaocoaa
open Go.RowKit

def posR (xs : List Int) : List Int × Int := quS 1 (nxP xs) (fun k => -(k : Int)) xs.length
def prsR (xs : List Int) : List Int × Int := quS 0 (nxM xs) (fun k => (k : Int)) xs.length
def posOf (xs : List Int) : List Int × Int := if smsB xs = true then (if (posR xs).2 = 0 then (trim (posR xs).1, 0) else ([], (posR xs).2)) else ([], 2)
def prsOf (xs : List Int) : List Int × Int := if smsB xs = true then (if (prsR xs).2 = 0 then ((prsR xs).1.drop 1, 0) else ([], (prsR xs).2)) else ([], 2)
theorem nxP_lim (xs : List Int) (k : Nat) (l : List Int) : OLim (nxP xs k l) := mxO_lim _ _ _ _
theorem nxM_lim (xs : List Int) (k : Nat) (l : List Int) : OLim (nxM xs k l) := mbO_lim _ _ _
theorem posR_lim (xs : List Int) : ∀ x ∈ (posR xs).1, Lim x := quS_all (by unfold Lim; omega) (nxP_lim xs) _
theorem prsR_lim (xs : List Int) : ∀ x ∈ (prsR xs).1, Lim x := quS_all (by unfold Lim; omega) (nxM_lim xs) _
theorem numsOf_some {l : List Int} (h : l.length ≤ 40) : numsOf (l.map some) = (trim l, 0) := by
  have h1 : (l.map some).all (fun o => !o.isNone) = true := by simp
  have h2 : (l.map some).map numO = l := by
    rw [List.map_map]
    induction l with
    | nil => rfl
    | cons x r ih => simp only [List.map_cons]; congr 1; exact ih (by simp at h; omega) (by simp)
  have h3 := trim_len l
  unfold numsOf
  rw [h1, h2, if_neg (by simp), if_neg (by omega)]
theorem I64_lim {x : Int} (h : Lim x) : I64 x := by unfold Lim at h; unfold I64; omega
theorem posOf_no {xs : List Int} (h : smsB xs = false) : posOf xs = ([], 2) := by unfold posOf; rw [h]; rfl
theorem posOf_yes {xs : List Int} (h : smsB xs = true) (h2 : (posR xs).2 = 0) : posOf xs = (trim (posR xs).1, 0) := by unfold posOf; rw [if_pos h, if_pos h2]
theorem posOf_err {xs : List Int} (h : smsB xs = true) (h2 : ¬ (posR xs).2 = 0) : posOf xs = ([], (posR xs).2) := by unfold posOf; rw [if_pos h, if_neg h2]
theorem prsOf_no {xs : List Int} (h : smsB xs = false) : prsOf xs = ([], 2) := by unfold prsOf; rw [h]; rfl
theorem prsOf_yes {xs : List Int} (h : smsB xs = true) (h2 : (prsR xs).2 = 0) : prsOf xs = ((prsR xs).1.drop 1, 0) := by unfold prsOf; rw [if_pos h, if_pos h2]
theorem prsOf_err {xs : List Int} (h : smsB xs = true) (h2 : ¬ (prsR xs).2 = 0) : prsOf xs = ([], (prsR xs).2) := by unfold prsOf; rw [if_pos h, if_neg h2]

set_option maxHeartbeats 1600000 in
theorem behindFirst {lo n : Nat} (g c : Nat) (l : List Int) (w : World) (ho : w.ownsRow lo 73 2 (.slice (some ⟨g, 0, none⟩) (n + 1) c) (n + 1) (flatO (l.map some))) (hl : l.length = n + 1) (hn : n ≤ 24) (hI : ∀ x ∈ l, Lim x) :
    Calls Try.prog 77 #[.slice (some ⟨g, 0, none⟩) (n + 1) c] w fun e w' => ∃ a' c', e = .returned (.slice a' n c') ∧ OwI w.heap.size w'.heap.size w' (.slice a' n c') (l.drop 1) ∧ Below w.heap.size w w' := by
  obtain ⟨i0, hi', z0, z1, z2⟩ := info_parts Try.info2
  have HC := Lib.hid (fun j (hj : j < n) W (hB : Below w.heap.size w W) => show W.cell? ⟨g, (j + 1) * 2, none⟩ = some (.int .i64 ((l.drop 1).getD j 0)) ∧ W.cell? ⟨g, (j + 1) * 2 + 1, none⟩ = some (.bool false) by
    obtain ⟨g1, g2⟩ := flatO_get (l.map some) (j + 1) (by rw [List.length_map]; omega)
    have e : (l.map some).getD (j + 1) none = some ((l.drop 1).getD j 0) := by
      simp [List.getD, List.getElem?_drop, Nat.add_comm 1 j, List.getElem?_eq_getElem (show j + 1 < l.length by omega)]
    rw [e] at g1 g2
    exact ⟨hB.keep ((ho.cellAt _ (by omega)).trans g1), hB.keep ((ho.cellAt _ (by omega)).trans g2)⟩)
  have hcap : n + 1 ≤ c := by
    rcases ho.2 with ⟨h, _⟩ | ⟨g', cap', cur, h', _, hg, hnc, _⟩
    · simp at h
    · simp only [Value.slice.injEq, Option.some.injEq, Addr.mk.injEq, and_true, true_and] at h'
      omega
  have hdl : (l.drop 1).length = n := by simp [hl]
  have HI := Lib.hid (show ∀ x ∈ l.drop 1, I64 x from fun x hx => I64_lim (hI x (List.mem_of_mem_drop hx)))
  generalize l.drop 1 = m at HC hdl HI ⊢
  have HDL := Lib.hid hdl
  have HTS := Lib.hid (fun k (hk : k < n) => show m.take (k + 1) = m.take k ++ [m.getD k 0] by
    rw [List.take_add_one, List.getElem?_eq_getElem (by omega)]
    simp [List.getD, List.getElem?_eq_getElem (show k < m.length by omega)])
  clear ho hl hI hdl
  go_enter Try.func77, Try.ntmps77
  by_cases hc1 : c = 1
  · have hn0 : n = 0 := by omega
    have hm : m = [] := List.length_eq_zero_iff.1 (by rw [HDL.out, hn0])
    subst hm
    subst hn0
    subst hc1
    go_wp2
    refine wp_loop_rounds 1 ?_
    rw [rounds_succ]
    go_wp2
    go_ret
    exact ⟨none, 0, rfl, OwI.nil' _ _ _, Below.refl _ _⟩
  · go_wp2
    go_loopw [9, 3] (fun i v wr => ∃ (k : Nat) (u : Value), k ≤ n ∧ i = .int .i64 k ∧ u = v ∧ wr.ownsRow w.heap.size 2 1 u k ((m.take k).map (Value.int .i64)) ∧ Below w.heap.size w wr) (fun i _ _ => n - (intOf i).toNat)
    case atStart => exact ⟨0, _, Nat.zero_le _, rfl, rfl, World.ownsRow_nil _ _ _ _, Below.refl _ _⟩
    case round =>
      obtain ⟨k, v, hk, rfl, rfl, hO, hB⟩ := hrel
      by_cases hlt : k < n
      · have hkn : (k : Int) < (n : Int) := by omega
        obtain ⟨h1, h2⟩ := HC.out k hlt wr hB
        have hts := HTS.out k hlt
        generalize m.getD k 0 = x at h1 hts
        have HT := Lib.hid hts
        have e2 : (k + 1) * 2 = 2 + k * 2 := by omega
        have e3 : (k + 1) * 2 + 1 = 2 + k * 2 + 1 := by omega
        rw [e3] at h2
        rw [e2] at h1
        have hOA := hO.alloc (.cells #[.int .i64 x, .bool false] 73)
        have hBA := hB.alloc hB.size (.cells #[.int .i64 x, .bool false] 73)
        have x0 : (wr.alloc (.cells #[.int .i64 x, .bool false] 73)).cell? ⟨wr.heap.size, 0, none⟩ = some (.int .i64 x) := by go_simp
        have hsz : (wr.alloc (.cells #[.int .i64 x, .bool false] 73)).heap.size = wr.heap.size + 1 := by simp
        clear hts hO hB e2 e3
        go_wp2_with (at_builtin; refine wpList_append_own _ rfl _ _ 37 rfl w.heap.size 2 i0 (.int .i64 0) 1 8 Try.underlying37 hi' z0 z1 z2 rfl (by decide) _ _ _ rfl (hOA.alloc _) ⟨wr.heap.size + 1, 0, none⟩ 1 1 [.int .i64 x] rfl rfl ?c1 ?c2 ?c3 ?c4 ?c5 ?_)
        case c1 =>
          have := news_one (wr.alloc (.cells #[.int .i64 x, .bool false] 73)) 2 (.int .i64 x)
          rw [hsz] at this; exact this
        case c2 => intro u hu; simp at hu; subst hu; rfl
        case c3 => unfold maxLen; omega
        case c4 => omega
        case c5 => have := hBA.size; simp at this ⊢; omega
        intro v3 w3 hown3 hgr _
        have hB3 : Below w.heap.size w w3 := (hBA.alloc hBA.size _).grown hgr (by have := hBA.size; simp at this ⊢; omega) (fun j hj => (hOA.lt j hj).1)
        have HF := Lib.hid (show w3.ownsRow w.heap.size 2 1 v3 (k + 1) ((m.take (k + 1)).map (Value.int .i64)) ∧ Below w.heap.size w w3 by
          refine ⟨?_, hB3⟩
          rw [HT.out, List.map_append, List.map_take]; exact hown3)
        clear hown3 hgr hB3 hOA hBA x0 hsz h1 h2
        go_wp2
        go_roundw
        case rel => exact ⟨k+1, v3, by omega, by go_num, rfl, HF.out⟩
        case measure => simp [intOf]; omega
      · obtain rfl : k = n := by omega
        obtain ⟨a3, c3, rfl⟩ := ownW_shape hO
        rw [List.take_of_length_le (by rw [HDL.out]; exact Nat.le_refl _)] at hO
        have HF := Lib.hid (⟨OwI.mk hO (by omega) HI.out, hB⟩ : _ ∧ _)
        clear hO hB
        go_wp2
        go_ret
        exact ⟨a3, c3, rfl, HF.out⟩

set_option maxHeartbeats 3200000 in
theorem implPos {lo hi : Nat} (a : Option Addr) (n c : Nat) (xs : List Int) (w : World) (h : RdI lo hi w (.slice a n c) xs) (hn : xs.length = n) :
    Calls Try.prog 37 #[.slice a n c] w fun e w' => ∃ a' c', e = .returned (.tuple #[.slice a' (posOf xs).1.length c', .int .i64 (posOf xs).2]) ∧ OwI w.heap.size w'.heap.size w' (.slice a' (posOf xs).1.length c') (posOf xs).1 ∧ Below w.heap.size w w' := by
  have HA := Lib.hid (areSums a n c xs w h hn)
  cases hs : smsB xs with
  | false =>
    rw [hs] at HA
    rw [posOf_no hs]
    clear h hn hs
    go_enter Try.func37, Try.ntmps37
    go_wp2_with fail
    refine HA.out.mono ?_
    rintro e w1 ⟨rfl, q1⟩
    have HB := Lib.hid q1.below
    clear q1 HA
    go_wp2
    go_ret2
    exact ⟨none, 0, rfl, OwI.nil' _ _ _, HB.out⟩
  | true =>
    rw [hs] at HA
    have h24 : n ≤ 24 := by
      unfold smsB at hs
      simp only [Bool.and_eq_true, decide_eq_true_eq] at hs
      omega
    have HW := Lib.hid (fun W (hB : Below w.heap.size w W) => wholeSums a n c xs W (h.below hB) hn h24)
    have HQ := Lib.hid (fun (C g2 c2 : Nat) (W : World) (hC : W.cell? ⟨C, 0, none⟩ = some (.slice (some ⟨g2, 0, none⟩) (n + 1) c2)) (hc : ∀ j, j < n + 1 → W.cell? ⟨g2, j * 2, none⟩ = some (.int .i64 (xsX xs j)) ∧ W.cell? ⟨g2, j * 2 + 1, none⟩ = some (.bool false)) =>
      quotPo C 1 n (nxP xs) (fun k => -(k : Int)) W h24 (by unfold Lim; omega) (fun k h1 h2 => by omega) (nxP_lim xs) (fun k l a c W' hB h1 h2 hl hr => cloPo C g2 c2 n k xs l a c W' h1 h2 h24 hl hs hn hr (hB.keep hC) (fun j hj => ⟨hB.keep (hc j hj).1, hB.keep (hc j hj).2⟩)))
    have hR : quS 1 (nxP xs) (fun k => -(k : Int)) n = posR xs := by unfold posR; rw [hn]
    rw [hR] at HQ
    have HY := Lib.hid (fun e => posOf_yes hs e)
    have HE := Lib.hid (fun e => posOf_err hs e)
    have HLE := Lib.hid (fun (e : (posR xs).2 = 0) => show (posR xs).1.length = n + 1 by rw [← hR] at e ⊢; exact quS_len n e)
    have HLI := Lib.hid (posR_lim xs)
    generalize posR xs = R at HQ HY HE HLE HLI
    generalize posOf xs = P at HY HE ⊢
    clear h hn hs hR
    go_enter Try.func37, Try.ntmps37
    go_wp2_with fail
    refine HA.out.mono ?_
    rintro e w1 ⟨rfl, q1⟩
    have HB1 := Lib.hid q1.below
    clear q1 HA
    go_wp2_with fail
    refine (HW.out w1 HB1.out).mono ?_
    rintro e w2 ⟨g, c2, rfl, hg, hcells, b2⟩
    have hba := (Below.refl w2.heap.size w2).alloc (Nat.le_refl _) (.cells #[.slice (some ⟨g, 0, none⟩) (n + 1) c2] 68)
    have HQ1 := Lib.hid (HQ.out w2.heap.size g c2 (w2.alloc (.cells #[.slice (some ⟨g, 0, none⟩) (n + 1) c2] 68)) (by go_simp) (fun j hj => ⟨hba.keep (hcells j hj).1, hba.keep (hcells j hj).2⟩))
    have HB2 := Lib.hid ((HB1.out.next b2).next hba)
    clear hcells b2 hba HB1 HW HQ hg
    go_wp2_with fail
    refine HQ1.out.mono ?_
    rintro e w3 ⟨v, rfl, hyes, hno, b3⟩
    have HB3 := Lib.hid (HB2.out.next b3)
    have HBS := Lib.hid HB2.out.size
    clear b3 HB2 HQ1
    by_cases hr : R.2 = 0
    · have hP := HY.out hr
      subst hP
      have ho := hyes hr
      have hl := HLE.out hr
      have hnums := numsOf_some (l := R.1) (by omega)
      have hlim : ∀ j, j < (R.1.map some).length → OLim ((R.1.map some).getD j none) := fun j hj => by
        rw [List.length_map] at hj
        have e : (R.1.map some).getD j none = some (R.1.getD j 0) := by simp [List.getD, List.getElem?_eq_getElem hj]
        rw [e]
        have hm : R.1.getD j 0 ∈ R.1 := by
          have : R.1.getD j 0 = R.1[j] := by simp [List.getD, List.getElem?_eq_getElem hj]
          rw [this]; exact List.getElem_mem hj
        exact OLim.some (HLI.out _ hm)
      have HNU := Lib.hid (numbersOfO v (R.1.map some) w3 ho hlim (by omega) (fun x hx => by
        rw [hnums] at hx
        exact I64_lim (HLI.out x (trim_mem hx))) (by rw [List.length_map]; exact hl))
      rw [hnums] at HNU
      rw [hr]
      clear ho hyes hno hl hlim hnums
      go_wp2_with fail
      refine HNU.out.mono ?_
      rintro e w4 ⟨a4, c4, rfl, o4, b4⟩
      have HF := Lib.hid (⟨o4.mono HB3.out.size (Nat.le_refl _), HB3.out.next b4⟩ : OwI w.heap.size _ _ _ _ ∧ _)
      clear o4 b4 HNU
      go_wp2
      go_ret2
      exact ⟨a4, c4, rfl, HF.out⟩
    · have hP := HE.out hr
      subst hP
      obtain ⟨r1, r2⟩ := R
      have hrb : (r2 != 0) = true := by simpa using hr
      clear hyes hno hr
      go_wp2
      go_ret2
      exact ⟨none, 0, rfl, OwI.nil' _ _ _, HB3.out⟩

set_option maxHeartbeats 3200000 in
theorem implPrs {lo hi : Nat} (a : Option Addr) (n c : Nat) (xs : List Int) (w : World) (h : RdI lo hi w (.slice a n c) xs) (hn : xs.length = n) :
    Calls Try.prog 35 #[.slice a n c] w fun e w' => ∃ a' c', e = .returned (.tuple #[.slice a' (prsOf xs).1.length c', .int .i64 (prsOf xs).2]) ∧ OwI w.heap.size w'.heap.size w' (.slice a' (prsOf xs).1.length c') (prsOf xs).1 ∧ Below w.heap.size w w' := by
  have HA := Lib.hid (areSums a n c xs w h hn)
  cases hs : smsB xs with
  | false =>
    rw [hs] at HA
    rw [prsOf_no hs]
    clear h hn hs
    go_enter Try.func35, Try.ntmps35
    go_wp2_with fail
    refine HA.out.mono ?_
    rintro e w1 ⟨rfl, q1⟩
    have HB := Lib.hid q1.below
    clear q1 HA
    go_wp2
    go_ret2
    exact ⟨none, 0, rfl, OwI.nil' _ _ _, HB.out⟩
  | true =>
    rw [hs] at HA
    have h24 : n ≤ 24 := by
      unfold smsB at hs
      simp only [Bool.and_eq_true, decide_eq_true_eq] at hs
      omega
    have HW := Lib.hid (fun W (hB : Below w.heap.size w W) => wholeSums a n c xs W (h.below hB) hn h24)
    have HQ := Lib.hid (fun (C g2 c2 : Nat) (W : World) (hC : W.cell? ⟨C, 0, none⟩ = some (.slice (some ⟨g2, 0, none⟩) (n + 1) c2)) (hc : ∀ j, j < n + 1 → W.cell? ⟨g2, j * 2, none⟩ = some (.int .i64 (xsX xs j)) ∧ W.cell? ⟨g2, j * 2 + 1, none⟩ = some (.bool false)) =>
      quotPr C 0 n (nxM xs) (fun k => (k : Int)) W h24 (by unfold Lim; omega) (fun k h1 h2 => by omega) (nxM_lim xs) (fun k l a c W' hB h1 h2 hl hr => cloPr C g2 c2 n k xs l a c W' h1 h2 h24 hs (hB.keep hC) (fun j hj => ⟨hB.keep (hc j hj).1, hB.keep (hc j hj).2⟩)))
    have hR : quS 0 (nxM xs) (fun k => (k : Int)) n = prsR xs := by unfold prsR; rw [hn]
    rw [hR] at HQ
    have HY := Lib.hid (fun e => prsOf_yes hs e)
    have HE := Lib.hid (fun e => prsOf_err hs e)
    have HLE := Lib.hid (fun (e : (prsR xs).2 = 0) => show (prsR xs).1.length = n + 1 by rw [← hR] at e ⊢; exact quS_len n e)
    have HLI := Lib.hid (prsR_lim xs)
    generalize prsR xs = R at HQ HY HE HLE HLI
    generalize prsOf xs = P at HY HE ⊢
    clear h hn hs hR
    go_enter Try.func35, Try.ntmps35
    go_wp2_with fail
    refine HA.out.mono ?_
    rintro e w1 ⟨rfl, q1⟩
    have HB1 := Lib.hid q1.below
    clear q1 HA
    go_wp2_with fail
    refine (HW.out w1 HB1.out).mono ?_
    rintro e w2 ⟨g, c2, rfl, hg, hcells, b2⟩
    have hba := (Below.refl w2.heap.size w2).alloc (Nat.le_refl _) (.cells #[.slice (some ⟨g, 0, none⟩) (n + 1) c2] 68)
    have HQ1 := Lib.hid (HQ.out w2.heap.size g c2 (w2.alloc (.cells #[.slice (some ⟨g, 0, none⟩) (n + 1) c2] 68)) (by go_simp) (fun j hj => ⟨hba.keep (hcells j hj).1, hba.keep (hcells j hj).2⟩))
    have HB2 := Lib.hid ((HB1.out.next b2).next hba)
    clear hcells b2 hba HB1 HW HQ hg
    go_wp2_with fail
    refine HQ1.out.mono ?_
    rintro e w3 ⟨v, rfl, hyes, hno, b3⟩
    have HB3 := Lib.hid (HB2.out.next b3)
    have HBS := Lib.hid HB2.out.size
    clear b3 HB2 HQ1
    by_cases hr : R.2 = 0
    · have hP := HY.out hr
      obtain ⟨m, hm⟩ : ∃ m, m = R.1.drop 1 := ⟨_, rfl⟩
      rw [← hm] at hP
      subst hP
      have ho := hyes hr
      have hl := HLE.out hr
      obtain ⟨a3, c3, rfl⟩ := ownW_shape ho
      obtain ⟨g3, rfl⟩ : ∃ g3, a3 = some ⟨g3, 0, none⟩ := by
        rcases ho.2 with ⟨h, _⟩ | ⟨g', cap', cur, h', _⟩
        · simp at h
        · simp only [Value.slice.injEq] at h'
          exact ⟨g', h'.1⟩
      have HNU := Lib.hid (behindFirst g3 c3 R.1 w3 ho hl h24 HLI.out)
      have hdl : m.length = n := by rw [hm]; simp [hl]
      rw [← hm] at HNU
      have HDL := Lib.hid hdl
      rw [hr]
      clear ho hyes hno hl hdl hm
      go_wp2_with fail
      refine HNU.out.mono ?_
      rintro e w4 ⟨a4, c4, rfl, o4, b4⟩
      have HF := Lib.hid (⟨o4.mono HB3.out.size (Nat.le_refl _), HB3.out.next b4⟩ : OwI w.heap.size _ _ _ _ ∧ _)
      clear o4 b4 HNU
      go_wp2
      go_ret2
      refine ⟨a4, c4, ?_, ?_, HF.out.2⟩
      · show _ = Ending.returned (.tuple #[.slice a4 m.length c4, .int .i64 0])
        rw [HDL.out]; rfl
      · show OwI _ _ _ (.slice a4 m.length c4) m
        rw [HDL.out]; exact HF.out.1
    · have hP := HE.out hr
      subst hP
      obtain ⟨r1, r2⟩ := R
      have hrb : (r2 != 0) = true := by simpa using hr
      clear hyes hno hr
      go_wp2
      go_ret2
      exact ⟨none, 0, rfl, OwI.nil' _ _ _, HB3.out⟩

end Go.Proofs.Ytebgbplhcaocoaa
