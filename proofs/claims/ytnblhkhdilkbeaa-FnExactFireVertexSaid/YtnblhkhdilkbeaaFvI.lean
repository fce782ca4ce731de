/- FireVertex of the program. -/
import Derived.Test.YtnblhkhdilkbeaaFvP
import Derived.Test.YtnblhkhdilkbeaaCoreL
import Derived.Test.YtnblhkhdilkbeaaChi
import Derived.Test.YtnblhkhdilkbeaaCoreF
set_option linter.unusedSimpArgs false
set_option linter.unusedVariables false
set_option maxRecDepth 100000
namespace Go.Proofs.Ytnblhkhdilkbeaa
open Go.RowKit

def fvC (s : Int) (xss : List (List Int)) (xs : List Int) (v : Int) : Int := if chipsCode s xss xs = 0 then (if inR v s then 0 else 2) else chipsCode s xss xs
def fdK (xs : List Int) (r : Nat → Int) (k : Nat) : Nat → Int := fun w => if w < k then xs.getD w 0 - r w else xs.getD w 0
def fdN (xs : List Int) (r : Nat → Int) (S : Nat) : List Int := (List.range S).map (fun w => xs.getD w 0 - r w)
def fdV (xs : List Int) (r : Nat → Int) (S k : Nat) : List Value := (List.range S).map (fun w => Value.int .i64 (fdK xs r k w))
theorem fdV_0 {xs : List Int} (r : Nat → Int) {S : Nat} (h : xs.length = S) : fdV xs r S 0 = xs.map (Value.int .i64) := by
  apply List.ext_getElem
  · simp [fdV, h]
  · intro j h1 h2
    have hj : j < xs.length := by simpa using h2
    simp [fdV, fdK, List.getD, hj]
theorem fdV_len (xs : List Int) (r : Nat → Int) (S k : Nat) : (fdV xs r S k).length = S := by simp [fdV]
theorem fdV_get (xs : List Int) (r : Nat → Int) {S k j : Nat} (h : j < S) : (fdV xs r S k)[j]? = some (.int .i64 (fdK xs r k j)) := by simp [fdV, h]
theorem fdV_put (xs : List Int) (r : Nat → Int) {S k : Nat} (h : k < S) : (fdV xs r S k).set k (.int .i64 (xs.getD k 0 - r k)) = fdV xs r S (k + 1) := by
  apply List.ext_getElem
  · simp [fdV]
  · intro j h1 h2
    have hj : j < S := by simpa [fdV] using h2
    rw [List.getElem_set]
    by_cases e : k = j
    · subst e; simp [fdV, fdK]
    · rw [if_neg e]
      have : (j < k) ↔ (j < k + 1) := by omega
      simp [fdV, fdK, this]
theorem fdV_last (xs : List Int) (r : Nat → Int) (S : Nat) : fdV xs r S S = (fdN xs r S).map (Value.int .i64) := by
  unfold fdV fdN
  rw [List.map_map]
  apply List.map_congr_left
  intro j hj
  have : j < S := by simpa using hj
  simp [fdK, this]
theorem fdN_len (xs : List Int) (r : Nat → Int) (S : Nat) : (fdN xs r S).length = S := by simp [fdN]
theorem lapF_bd {s : Int} {xss : List (List Int)} (hg : grB s xss = true) (i j : Nat) : -20 ≤ lapS (pairs xss) xss.length i j ∧ lapS (pairs xss) xss.length i j ≤ 20 := by
  have hg4 := grB_iff hg
  rw [lap_ad hg _ (Nat.le_refl _) i j]
  have h1 := degL_bd (xss.take xss.length) (i : Int)
  have h2 := adS_bd (pairs xss) xss.length (by omega) (i : Int) (j : Int)
  have h3 : (xss.take xss.length).length ≤ 10 := by rw [List.length_take]; omega
  split <;> omega

set_option maxHeartbeats 1600000 in
theorem checkChipsAt1 {lo hi lo' hi' : Nat} (s : Int) (a : Option Addr) (n c : Nat) (xss : List (List Int)) (v : Int) (a2 : Option Addr) (n2 c2 : Nat) (xs : List Int) (G : Nat) (w : World) (h : RdR lo hi w (.slice a n c) xss) (hn : xss.length = n) (h2 : RdI lo' hi' w (.slice a2 n2 c2) xs) (hn2 : xs.length = n2) (hG : w.cell? ⟨G, 0, none⟩ = some (.slice a2 n2 c2)) :
    Calls Try.prog 58 #[.agg #[.int .i64 s, .slice a n c], .int .i64 v, .slice (some ⟨G, 0, none⟩) 1 1] w fun e w' => e = .returned (.int .i64 (fvC s xss xs v)) ∧ Below w.heap.size w w' := by
  have hb0 : ∀ o, Below w.heap.size w (w.alloc o) := fun o => (Below.refl _ _).alloc (Nat.le_refl _) o
  have HI := Lib.hid (fun W (hB : Below w.heap.size w W) => checkChips1 s a n c xss a2 n2 c2 xs G W (h.below hB) hn (h2.below hB) hn2 (hB.keep hG))
  have HX := Lib.hid (fun W => isIndex v s W)
  have HC1 := Lib.hid (show chipsCode s xss xs ≠ 0 → fvC s xss xs v = chipsCode s xss xs by intro e; unfold fvC; rw [if_neg e])
  have HC2 := Lib.hid (show chipsCode s xss xs = 0 → inR v s = true → fvC s xss xs v = 0 by intro e e2; unfold fvC; rw [if_pos e, if_pos e2])
  have HC3 := Lib.hid (show chipsCode s xss xs = 0 → inR v s = false → fvC s xss xs v = 2 by intro e e2; unfold fvC; rw [if_pos e, e2]; rfl)
  generalize fvC s xss xs v = D at HC1 HC2 HC3 ⊢
  generalize chipsCode s xss xs = d at HI HC1 HC2 HC3
  clear h hn h2 hn2 hG
  go_enter Try.func58, Try.ntmps58
  go_wp2_with fail
  refine calls_gen (fun W => Below w.heap.size w W ∧ W.cell? ⟨w.heap.size, 0, none⟩ = some (.int .i64 s) ∧ W.cell? ⟨w.heap.size, 1, none⟩ = some (.slice a n c)) ⟨hb0 _, by go_simp, by go_simp⟩ ?_
  rintro W ⟨hB, k0, k1⟩
  refine (HI.out W hB).mono ?_
  rintro e w1 ⟨rfl, b1⟩
  replace hB := hB.next b1
  replace k0 := b1.keep k0
  replace k1 := b1.keep k1
  clear b1 HI
  by_cases hd : d = 0
  · subst hd
    have hdb : ((0 : Int) != 0) = false := rfl
    go_wp2_with fail
    refine (HX.out w1).mono ?_
    rintro e w2 ⟨rfl, q2⟩
    replace hB := hB.qt q2
    clear q2 HX
    cases hv : inR v s with
    | true =>
      have HF := Lib.hid (HC2.out (by first | rfl | trivial) hv)
      clear HC1 HC2 HC3 hv
      go_wp2
      go_ret
      exact ⟨by rw [HF.out]; rfl, hB⟩
    | false =>
      have HF := Lib.hid (HC3.out (by first | rfl | trivial) hv)
      clear HC1 HC2 HC3 hv
      go_wp2
      go_ret
      exact ⟨by rw [HF.out]; rfl, hB⟩
  · have hdb : (d != 0) = true := by simpa using hd
    have HF := Lib.hid (HC1.out hd)
    clear HC1 HC2 HC3 hd
    go_wp2
    go_ret
    exact ⟨by rw [HF.out]; rfl, hB⟩

set_option maxHeartbeats 1600000 in
theorem fired1 {lo hi lo' hi' : Nat} (ra : Option Addr) (S rc : Nat) (L : Nat → Nat → Int) (a2 : Option Addr) (c2 : Nat) (xs : List Int) (G v : Nat) (w : World) (h : RdR lo hi w (.slice ra S rc) (tab S L)) (h2 : RdI lo' hi' w (.slice a2 S c2) xs) (hn2 : xs.length = S) (hG : w.cell? ⟨G, 0, none⟩ = some (.int .i64 (v : Int))) (hv : v < S) (hS : S ≤ 8)
    (hL : ∀ i j, -20 ≤ L i j ∧ L i j ≤ 20) (hxs : ∀ k, -200 ≤ xs.getD k 0 ∧ xs.getD k 0 ≤ 200) :
    Calls Try.prog 60 #[.slice ra S rc, .slice a2 S c2, .slice (some ⟨G, 0, none⟩) 1 1] w fun e w' => ∃ a' c', e = .returned (.slice a' S c') ∧ OwI w.heap.size w'.heap.size w' (.slice a' S c') (fdN xs (L v) S) ∧ Below w.heap.size w w' := by
  obtain ⟨b, off, rv, rfl, e2, e3⟩ := h.at (tab_len _ _) v hv
  obtain ⟨rb, rcc, rfl⟩ := e3.shape
  rw [tab_rlen L hv] at e2 e3
  have HE := Lib.hid (show ∀ j, j < S → ∃ b' off', rb = some ⟨b', off', none⟩ ∧ w.cell? ⟨b', off' + j, none⟩ = some (.int .i64 (L v j)) from fun j hj => by
    obtain ⟨b', off', f1, f2⟩ := e3.at' (tab_rlen L hv) j hj
    rw [tab_get L hv hj] at f2
    exact ⟨b', off', f1, f2⟩)
  obtain ⟨b2, off2, rfl, _⟩ := h2.at' hn2 0 (by omega)
  have HCL := Lib.hid (slClone S c2 ⟨b2, off2, none⟩ xs w (by omega) hn2 (fun j u hj => by
    have hjl : j < xs.length := by
      have := (List.getElem?_eq_some_iff.1 hj).1
      simpa using this
    obtain ⟨b', off', f1, f2⟩ := h2.at' hn2 j (by omega)
    simp only [Option.some.injEq, Addr.mk.injEq, and_true] at f1
    obtain ⟨rfl, rfl⟩ := f1
    have hap : (⟨b2, off2, none⟩ : Addr).add j = ⟨b2, off2 + j, none⟩ := by unfold Addr.add; split <;> simp_all
    rw [hap, f2]
    simp [hjl] at hj
    rw [← hj]
    simp [List.getD, hjl]))
  have HLB := Lib.hid hL
  have HXB := Lib.hid hxs
  have HXL := Lib.hid hn2
  have HGc := Lib.hid (⟨hG, e2⟩ : _ ∧ _)
  have hvI : (v : Int) < (S : Int) := by omega
  have hv0 : (0 : Int) ≤ (v : Int) := by omega
  clear h h2 hn2 hG e2 e3 hL hxs
  go_enter Try.func60, Try.ntmps60
  go_wp2_with fail
  refine HCL.out.mono ?_
  rintro e w1 ⟨vv, rfl, hown, b1⟩
  obtain ⟨g, cc, rfl, hge, hgl⟩ := hown.form (by omega)
  have g0 := b1.keep HGc.out.1
  have g1 := b1.keep HGc.out.2
  rw [← fdV_0 (L v) HXL.out] at hown
  have HO := Lib.hid (⟨hown, b1⟩ : _ ∧ _)
  clear hown HCL
  go_wp2
  refine wp_loop_rounds 2 ?_
  rw [rounds_succ]
  have hlt0 : (0 : Int) < 1 := by omega
  go_wp2
  clear g0 g1 b1
  go_loopw [25] (fun i wr => ∃ k : Nat, k ≤ S ∧ i = .int .i64 k ∧ wr.ownsRow w.heap.size 2 1 (.slice (some ⟨g, 0, none⟩) S cc) S (fdV xs (L v) S k) ∧ Below w.heap.size w wr) (fun i _ => S - (intOf i).toNat)
  case atStart => exact ⟨0, Nat.zero_le _, rfl, HO.out⟩
  case round =>
    rename_i hrel
    clear HO
    obtain ⟨k, hk, rfl, hC, hB⟩ := hrel
    by_cases hlt : k < S
    · have hkI : (k : Int) < (S : Int) := by omega
      have hk0 : (0 : Int) ≤ (k : Int) := by omega
      obtain ⟨b', off', hrb, r1⟩ := HE.out k hlt
      subst hrb
      replace r1 := hB.keep r1
      have r2 := (hC.cellAt k (by omega)).trans (fdV_get xs (L v) hlt)
      have hfk : fdK xs (L v) k k = xs.getD k 0 := by unfold fdK; rw [if_neg (by omega)]
      rw [hfk] at r2
      have r3 := hC.frozenAt k
      have hst := (hC.stored k (.int .i64 (xs.getD k 0 - L v k))).1
      rw [fdV_put xs (L v) hlt] at hst
      have HF := Lib.hid (⟨hst, hB.setCell (p := ⟨g, k, none⟩) hge _⟩ : _ ∧ Below w.heap.size w (wr.setCell ⟨g, k, none⟩ (.int .i64 (xs.getD k 0 - L v k))))
      have hb1 := HLB.out v k
      have hb2 := HXB.out k
      clear hst hC hB hfk
      generalize xs.getD k 0 = x at r2 HF hb2
      generalize L v k = y at r1 HF hb1
      have m1 : IntKind.i64.wrap (x - y) = x - y := IntWalk.i64_in _ (by omega)
      have m2 : wrap64 (x - y) = x - y := IntWalk.wrap64_in _ (by clear m1; omega)
      clear hb1 hb2
      go_wp2
      clear m1 m2
      go_roundw
      case rel => exact ⟨k+1, by omega, by go_num, HF.out⟩
      case measure => simp [intOf]; omega
    · obtain rfl : k = S := by omega
      rw [fdV_last] at hC
      have hO : OwI w.heap.size wr.heap.size wr (.slice (some ⟨g, 0, none⟩) k cc) (fdN xs (L v) k) := OwI.mk (by simpa using hC) (by omega) (fun x hx => by
        unfold fdN at hx
        obtain ⟨j, _, rfl⟩ := List.mem_map.1 hx
        have h1 := HLB.out v j
        have h2 := HXB.out j
        unfold I64; omega)
      have HF := Lib.hid (⟨hO, hB⟩ : _ ∧ _)
      have hkI : ¬ (k : Int) < (k : Int) := by omega
      have hlt1 : ¬ ((1 : Int) < 1) := by omega
      clear hC hO hB
      go_wp2
      rw [rounds_succ]
      go_wp2
      go_ret
      exact ⟨some ⟨g, 0, none⟩, cc, rfl, HF.out⟩

def fvOf (s : Int) (xss : List (List Int)) (xs : List Int) (v : Int) : List Int × Int :=
  if fvC s xss xs v = 0 then (if (fdN xs (lapS (pairs xss) xss.length v.toNat) s.toNat).all chB then (fdN xs (lapS (pairs xss) xss.length v.toNat) s.toNat, 0) else ([], 3)) else ([], fvC s xss xs v)
theorem fvC_ok {s : Int} {xss : List (List Int)} {xs : List Int} {v : Int} (h : fvC s xss xs v = 0) : chipsCode s xss xs = 0 ∧ inR v s = true := by
  unfold fvC at h
  by_cases h1 : chipsCode s xss xs = 0
  · rw [if_pos h1] at h
    cases h2 : inR v s with
    | true => exact ⟨h1, rfl⟩
    | false => rw [h2] at h; simp at h
  · rw [if_neg h1] at h; exact absurd h h1

set_option maxHeartbeats 1600000 in
theorem implFv {lo hi lo' hi' : Nat} (s : Int) (a : Option Addr) (n c : Nat) (xss : List (List Int)) (a2 : Option Addr) (n2 c2 : Nat) (xs : List Int) (v : Int) (w : World) (h : RdR lo hi w (.slice a n c) xss) (hn : xss.length = n) (h2 : RdI lo' hi' w (.slice a2 n2 c2) xs) (hn2 : xs.length = n2) :
    Calls Try.prog 22 #[.agg #[.int .i64 s, .slice a n c], .slice a2 n2 c2, .int .i64 v] w fun e w' => ∃ a' c', e = .returned (.tuple #[.slice a' (fvOf s xss xs v).1.length c', .int .i64 (fvOf s xss xs v).2]) ∧ OwI w.heap.size w'.heap.size w' (.slice a' (fvOf s xss xs v).1.length c') (fvOf s xss xs v).1 ∧ Below w.heap.size w w' := by
  have hb0 : ∀ o, Below w.heap.size w (w.alloc o) := fun o => (Below.refl _ _).alloc (Nat.le_refl _) o
  have HI := Lib.hid (fun (G : Nat) W (hB : Below w.heap.size w W) (hG : W.cell? ⟨G, 0, none⟩ = some (.slice a2 n2 c2)) => checkChipsAt1 s a n c xss v a2 n2 c2 xs G W (h.below hB) hn (h2.below hB) hn2 hG)
  by_cases hd : fvC s xss xs v = 0
  · obtain ⟨hcc, hin⟩ := fvC_ok hd
    obtain ⟨hg, hl, hx⟩ := chips_ok hcc
    have hg4 := grB_iff hg
    obtain ⟨S, rfl⟩ : ∃ S : Nat, s = (S : Int) := ⟨s.toNat, by omega⟩
    obtain ⟨V, rfl⟩ : ∃ V : Nat, v = (V : Int) := ⟨v.toNat, by unfold inR at hin; simp at hin; omega⟩
    have hVS : V < S := by unfold inR at hin; simp at hin; omega
    have hS8 : S ≤ 8 := by omega
    obtain rfl : n2 = S := by omega
    have eR : fvOf (n2 : Int) xss xs (V : Int) = if (fdN xs (lapS (pairs xss) n V) n2).all chB then (fdN xs (lapS (pairs xss) n V) n2, 0) else ([], 3) := by unfold fvOf; rw [if_pos hd, Int.toNat_natCast, Int.toNat_natCast, hn]
    rw [hd] at HI
    have hLap := @implLap lo hi (n2 : Int) a n c xss
    have elap : lapOf (n2 : Int) xss = (tab n2 (lapS (pairs xss) n), 0) := by unfold lapOf; rw [if_pos hg, Int.toNat_natCast, hn]
    rw [elap] at hLap
    simp only [tab_len] at hLap
    have HLP := Lib.hid (fun W (hB : Below w.heap.size w W) => hLap W (h.below hB) hn)
    have hLB := lapF_bd hg
    rw [hn] at hLB
    have HFD := Lib.hid (fun (lo9 hi9 G : Nat) (ra : Option Addr) (rc : Nat) W (hB : Below w.heap.size w W) (hr : RdR lo9 hi9 W (.slice ra n2 rc) (tab n2 (lapS (pairs xss) n))) (hG : W.cell? ⟨G, 0, none⟩ = some (.int .i64 (V : Int))) => fired1 ra n2 rc (lapS (pairs xss) n) a2 c2 xs G V W hr (h2.below hB) hn2 hG hVS hS8 hLB (fun k => ch_get hx k))
    obtain ⟨ys, hys⟩ : ∃ ys, ys = fdN xs (lapS (pairs xss) n V) n2 := ⟨_, rfl⟩
    have hyl : ys.length = n2 := by rw [hys]; exact fdN_len _ _ _
    rw [← hys] at eR HFD
    have HCH := Lib.hid (fun (lo9 hi9 : Nat) (a9 : Option Addr) (c9 : Nat) W (ho : RdI lo9 hi9 W (.slice a9 n2 c9) ys) => isChips (n2 : Int) a n c a9 n2 c9 ys W ho hyl (by omega))
    have hcB : chipsB (n2 : Int) ys = ys.all chB := by unfold chipsB; rw [hyl]; simp
    rw [hcB] at HCH
    have HYL := Lib.hid hyl
    generalize lapS (pairs xss) n = LM at HLP HFD hLB
    obtain ⟨R, hRR⟩ : ∃ R : List Int × Int, R = (if ys.all chB then (ys, 0) else ([], 3)) := ⟨_, rfl⟩
    rw [eR, ← hRR]
    have HRR := Lib.hid hRR
    clear h hn h2 hn2 hd hcc hin hg hl hx hg4 eR hLap elap hLB hys hyl hcB hRR
    go_enter Try.func22, Try.ntmps22
    go_wp2_with fail
    refine calls_gen (fun W => Below w.heap.size w W ∧ (W.cell? ⟨w.heap.size, 0, none⟩ = some (.int .i64 (n2 : Int)) ∧ W.cell? ⟨w.heap.size, 1, none⟩ = some (.slice a n c)) ∧ W.cell? ⟨w.heap.size + 1, 0, none⟩ = some (.slice a2 n2 c2)) ⟨(hb0 _).alloc (by simp) _, ⟨by go_simp, by go_simp⟩, by go_simp⟩ ?_
    rintro W ⟨hB, ⟨k0, k1⟩, g0⟩
    refine (HI.out _ W hB g0).mono ?_
    rintro e w1 ⟨rfl, b1⟩
    replace hB := hB.next b1
    replace k0 := b1.keep k0
    replace k1 := b1.keep k1
    clear b1 HI g0
    go_wp2_with fail
    refine (HLP.out w1 hB).mono ?_
    rintro e w2 ⟨ra, rc, rfl, o2, b2⟩
    replace hB := hB.next b2
    replace k0 := b2.keep k0
    replace k1 := b2.keep k1
    have hA : ∀ o, Below w2.heap.size w2 (w2.alloc o) := fun o => (Below.refl _ _).alloc (Nat.le_refl _) o
    clear b2 HLP
    go_wp2_with fail
    refine calls_gen (fun V3 => (Below w.heap.size w V3 ∧ RdR w1.heap.size w2.heap.size V3 (.slice ra n2 rc) (tab n2 LM)) ∧ (V3.cell? ⟨w.heap.size, 0, none⟩ = some (.int .i64 (n2 : Int)) ∧ V3.cell? ⟨w.heap.size, 1, none⟩ = some (.slice a n c)) ∧ V3.cell? ⟨w2.heap.size, 0, none⟩ = some (.int .i64 (V : Int))) ⟨⟨hB.next (hA _), (o2.below (hA _)).rd⟩, ⟨(hA _).keep k0, (hA _).keep k1⟩, by go_simp⟩ ?_
    rintro V3 ⟨⟨hB, hr⟩, ⟨k0, k1⟩, g0⟩
    refine (HFD.out _ _ _ _ _ V3 hB hr g0).mono ?_
    rintro e w3 ⟨a3, c3, rfl, o3, b3⟩
    have hB3 := hB.next b3
    replace k0 := b3.keep k0
    replace k1 := b3.keep k1
    have HO3 := Lib.hid (⟨o3, hB.size⟩ : _ ∧ _)
    clear b3 HFD o2 hA hr g0 hB
    go_wp2_with fail
    refine (HCH.out _ _ _ _ w3 HO3.out.1.rd).mono ?_
    rintro e w4 ⟨rfl, b4⟩
    have HF := Lib.hid (⟨(HO3.out.1.below b4).mono HO3.out.2 b4.size, hB3.next b4⟩ : _ ∧ _)
    clear b4 hB3 HCH k0 k1 HO3
    cases hall : ys.all chB with
    | true =>
      have HRE := Lib.hid (show R = (ys, 0) by rw [HRR.out, hall]; rfl)
      clear HRR
      go_wp2
      go_ret2
      refine ⟨a3, c3, ?_, ?_, HF.out.2⟩
      · rw [HRE.out]
        show _ = Ending.returned (.tuple #[.slice a3 ys.length c3, .int .i64 0])
        rw [HYL.out]; rfl
      · rw [HRE.out]
        show OwI _ _ _ (.slice a3 ys.length c3) ys
        rw [HYL.out]; exact HF.out.1
    | false =>
      have HRE := Lib.hid (show R = ([], 3) by rw [HRR.out, hall]; rfl)
      clear HRR
      go_wp2
      go_ret2
      exact ⟨none, 0, by rw [HRE.out]; rfl, by rw [HRE.out]; exact OwI.nil' _ _ _, HF.out.2⟩
  · have e2 : fvOf s xss xs v = ([], fvC s xss xs v) := by unfold fvOf; rw [if_neg hd]
    rw [e2]
    have hcb : (fvC s xss xs v == 0) = false := by simpa using hd
    have hcb2 : (fvC s xss xs v != 0) = true := by simpa using hd
    generalize fvC s xss xs v = cd at HI hcb hcb2 ⊢
    clear h hn h2 hn2 hd e2
    go_enter Try.func22, Try.ntmps22
    go_wp2_with fail
    refine calls_gen (fun W => Below w.heap.size w W ∧ W.cell? ⟨w.heap.size + 1, 0, none⟩ = some (.slice a2 n2 c2)) ⟨(hb0 _).alloc (by simp) _, by go_simp⟩ ?_
    rintro W ⟨hB, g0⟩
    refine (HI.out _ W hB g0).mono ?_
    rintro e w1 ⟨rfl, b1⟩
    replace hB := hB.next b1
    clear b1 HI g0
    go_wp2
    go_ret2
    exact ⟨none, 0, rfl, OwI.nil' _ _ _, hB⟩
end Go.Proofs.Ytnblhkhdilkbeaa
