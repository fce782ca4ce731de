/- EdgeDeterminant, both sides. -/
import Derived.Test.YtmhnckjcpdnabaaBe
import Derived.Test.YtmhnckjcpdnabaaBaE
import Derived.Test.YtmhnckjcpdnabaaEr9
import Derived.Test.YtmhnckjcpdnabaaRec
import Derived.Test.YtmhnckjcpdnabaaChP
set_option linter.unusedSimpArgs false
set_option linter.unusedVariables false
set_option maxRecDepth 100000
namespace Go.Proofs.Ytmhnckjcpdnabaa
open Go.RowKit

set_option maxHeartbeats 1600000 in
theorem detW0 (a : Option Addr) (c : Nat) (w : World) :
    Calls Try.prog 69 #[.iface 78 (.agg #[]), .slice a 0 c] w fun e w' => e = .returned (.int .i64 1) ∧ Below w.heap.size w w' := by
  go_enter Try.func69, Try.ntmps69
  go_wp2
  have hA1 := (Below.refl w.heap.size w).alloc (Nat.le_refl _) (.cells #[.iface 78 (.agg #[]), .slice a 0 c, .int .i64 1] 124)
  have hA2 := hA1.alloc hA1.size (.cells #[.func (.func 111) #[] #[], .func (.func 112) #[] #[], .func (.func 113) #[] #[]] 128)
  have HB := Lib.hid hA2
  have z0 : ((w.alloc (.cells #[.iface 78 (.agg #[]), .slice a 0 c, .int .i64 1] 124)).alloc (.cells #[.func (.func 111) #[] #[], .func (.func 112) #[] #[], .func (.func 113) #[] #[]] 128)).cell? ⟨w.heap.size, 2, none⟩ = some (.int .i64 1) := by go_simp
  generalize ((w.alloc (.cells #[.iface 78 (.agg #[]), .slice a 0 c, .int .i64 1] 124)).alloc (.cells #[.func (.func 111) #[] #[], .func (.func 112) #[] #[], .func (.func 113) #[] #[]] 128)) = V at HB z0 ⊢
  clear hA1 hA2
  refine wp_loop_rounds 1 ?_
  rw [rounds_succ]
  have hlt0 : ¬ ((0 : Int) < 0) := by omega
  go_wp2
  go_ret
  exact ⟨rfl, HB.out⟩
theorem detWa {L H N : Nat} (hN : N ≤ 20) (a : Option Addr) (c : Nat) (f0 : Nat → Nat → Int) (w : World) (h : OwR L H w (.slice a N c) (tab N f0)) (hL : L ≤ w.heap.size)
    (P : (Nat → Nat → Int) → Prop) (HH : BaH 0 P N) (hP : P f0) :
    Calls Try.prog 69 #[.iface 78 (.agg #[]), .slice a N c] w fun e w' => e = .returned (.int .i64 (dt (tp f0 N) (List.range N))) ∧ Below L w w' := by
  by_cases h0 : 0 < N
  · exact detW h0 hN a c f0 w h hL P HH hP
  · obtain rfl : N = 0 := by omega
    refine (detW0 a c w).mono ?_
    rintro e w' ⟨rfl, b⟩
    exact ⟨by simp [tp, dt], b.mono hL⟩

theorem edge_likeF {s : Int} {xss : List (List Int)} (hg : grB s xss = true) :
    ∃ hd bk tl : Nat → Nat, likeF (edgeM (dirE (pairs xss))) (2 * xss.length) hd bk tl := by
  have hs := grB_iff hg
  have hl : (dirE (pairs xss)).length = 2 * xss.length := by rw [dirE_len, pairs_len]
  have hl20 : (dirE (pairs xss)).length ≤ 20 := by omega
  have hb : ∀ i, i < (dirE (pairs xss)).length → 0 ≤ ((dirE (pairs xss)).getD i (0, 0)).1 ∧ ((dirE (pairs xss)).getD i (0, 0)).1 < 8 ∧ 0 ≤ ((dirE (pairs xss)).getD i (0, 0)).2 ∧ ((dirE (pairs xss)).getD i (0, 0)).2 < 8 := by
    intro i hi
    have hm : (dirE (pairs xss)).getD i (0, 0) ∈ dirE (pairs xss) := by
      have : (dirE (pairs xss)).getD i (0, 0) = (dirE (pairs xss))[i] := by simp [List.getD, List.getElem?_eq_getElem hi]
      rw [this]; exact List.getElem_mem hi
    generalize (dirE (pairs xss)).getD i (0, 0) = d at hm ⊢
    unfold dirE at hm
    simp only [List.mem_flatMap, List.mem_cons, List.not_mem_nil, or_false] at hm
    obtain ⟨e, he, h1⟩ := hm
    simp only [pairs, List.mem_map] at he
    obtain ⟨r, hr, rfl⟩ := he
    have := grB_mem hg r hr
    rcases h1 with h1 | h1 <;> rw [h1] <;> simp only <;> omega
  have h1 := edgeS_like (x := fun _ => 1) hl20 (by omega) (fun i hi => ⟨(hb i hi).2.2.1, (hb i hi).2.2.2⟩) (fun _ => by decide)
  rw [edgeS_one, hl] at h1
  rw [hl] at hb
  refine ⟨_, _, fun c => ((dirE (pairs xss)).getD c (0, 0)).1.toNat, h1, fun c hc => by have := hb c hc; omega, fun i c hi hc hne => ?_⟩
  have hq : stepQ (dirE (pairs xss)) (i : Int) (c : Int) = true := by
    by_cases e : stepQ (dirE (pairs xss)) (i : Int) (c : Int) = true
    · exact e
    · exact absurd (by unfold edgeM; rw [if_neg e]) hne
  unfold stepQ at hq
  simp at hq
  have e : ((dirE (pairs xss)).getD i (0, 0)).2 = ((dirE (pairs xss)).getD c (0, 0)).1 := hq.2.1
  show ((dirE (pairs xss)).getD c (0, 0)).1.toNat = ((dirE (pairs xss)).getD i (0, 0)).2.toNat
  rw [e]
theorem sgN_even : ∀ n : Nat, sgN (2 * n) = 1
  | 0 => rfl
  | n + 1 => by
    rw [show 2 * (n + 1) = 2 * n + 1 + 1 by omega]
    unfold sgN; unfold sgN
    rw [Int.neg_neg]; exact sgN_even n
def edO (xss : List (List Int)) : Int := dt (tp (edgeM (dirE (pairs xss))) (2 * xss.length)) (List.range (2 * xss.length))
def edOf (s : Int) (xss : List (List Int)) : Int × Int := if grB s xss = true then (edO xss, 0) else (0, 1)
theorem edOf_yes {s : Int} {xss : List (List Int)} (h : grB s xss = true) : edOf s xss = (edO xss, 0) := by unfold edOf; rw [if_pos h]
theorem edOf_no {s : Int} {xss : List (List Int)} (h : grB s xss = false) : edOf s xss = (0, 1) := by unfold edOf; rw [h]; rfl
theorem ed_bk {xss : List (List Int)} : ((trim (dkL (edgeM (dirE (pairs xss))) (2 * xss.length))).length ≤ 2 * xss.length → edO xss = 0) ∧ (trim (dkL (edgeM (dirE (pairs xss))) (2 * xss.length))).getD (2 * xss.length) 0 = edO xss := by
  have h := dk_top (edgeM (dirE (pairs xss))) (2 * xss.length)
  rw [sgN_even, Int.one_mul] at h
  refine ⟨fun h1 => ?_, ?_⟩
  · have := dk_trim0 (A := edgeM (dirE (pairs xss))) (2 * xss.length) h1 (by omega)
    rw [h] at this; exact this
  · rw [dk_trim _ (by omega), h]; rfl
theorem edge_BaH {s : Int} {xss : List (List Int)} (hg : grB s xss = true) : BaH 0 (signed (edgeM (dirE (pairs xss))) (2 * xss.length)) (2 * xss.length) := by
  obtain ⟨hd, bk, tl, hF⟩ := edge_likeF hg
  have hN := grB_iff hg
  refine ⟨fun R a b h1 h2 h => signed_swn h a b (by omega) h2, fun R h k i j h1 h2 h3 => ?_, fun x hx => reg_0 (by simpa using hx)⟩
  have := signed_mn hF (by omega) h k i j h1 h2 h3
  have e : (2 : Nat) ^ 30 = 1073741824 := by decide
  rw [e] at this
  rw [Int.emod_zero]
  omega
theorem edge_self (E : Nat → Nat → Int) (N : Nat) : signed E N E := fun i hi => ⟨i, 1, hi, .inl rfl, by funext c; rw [Int.one_mul]⟩

set_option maxHeartbeats 1600000 in
theorem implEd {lo hi : Nat} (s : Int) (a : Option Addr) (n c : Nat) (xss : List (List Int)) (w : World) (h : RdR lo hi w (.slice a n c) xss) (hn : xss.length = n) :
    Calls Try.prog 34 #[.agg #[.int .i64 s, .slice a n c]] w fun e w' => e = .returned (.tuple #[.int .i64 (edOf s xss).1, .int .i64 (edOf s xss).2]) ∧ Below w.heap.size w w' := by
  have hb0 : ∀ o, Below w.heap.size w (w.alloc o) := fun o => (Below.refl _ _).alloc (Nat.le_refl _) o
  have HI := Lib.hid (fun W (hB : Below w.heap.size w W) => implIsGraph s a n c xss W (h.below hB) hn)
  cases hg : grB s xss with
  | true =>
    rw [hg] at HI
    have hg4 := grB_iff hg
    have HR := Lib.hid (fun W (hB : Below w.heap.size w W) => edgeRows s a n c xss W (h.below hB) hn hg)
    have HD := Lib.hid (fun (L H : Nat) (a2 : Option Addr) (c2 : Nat) (W : World) (ho : OwR L H W (.slice a2 (2 * n) c2) (tab (2 * n) (edgeM (dirE (pairs xss))))) (hL : L ≤ W.heap.size) => detWa (by omega) a2 c2 _ W ho hL _ (by rw [← hn]; exact edge_BaH hg) (edge_self _ _))
    rw [edOf_yes hg]
    have HX := Lib.hid (show edO xss = dt (tp (edgeM (dirE (pairs xss))) (2 * n)) (List.range (2 * n)) by rw [← hn]; rfl)
    rw [HX.out]
    generalize edgeM (dirE (pairs xss)) = A at HR HD ⊢
    clear h hn hg hg4 HX
    go_enter Try.func34, Try.ntmps34
    go_wp2_with fail
    refine calls_gen (fun W => Below w.heap.size w W ∧ W.cell? ⟨w.heap.size, 0, none⟩ = some (.int .i64 s) ∧ W.cell? ⟨w.heap.size, 1, none⟩ = some (.slice a n c)) ⟨hb0 _, by go_simp, by go_simp⟩ ?_
    rintro W ⟨hB, k0, k1⟩
    refine (HI.out W hB).mono ?_
    rintro e w0 ⟨rfl, b0⟩
    replace hB := hB.next b0
    replace k0 := b0.keep k0
    replace k1 := b0.keep k1
    clear b0 HI
    go_wp2_with fail
    refine (HR.out w0 hB).mono ?_
    rintro e w1 ⟨a1, c1, rfl, o1, b1⟩
    have HC := Lib.hid (HD.out w0.heap.size _ a1 c1 w1 o1 b1.size)
    have HB := Lib.hid (fun (w2 : World) (b : Below w0.heap.size w1 w2) => hB.next (b1.trans b))
    clear hB k0 k1 o1 b1 HR HD
    go_wp2_with fail
    refine HC.out.mono ?_
    rintro e w2 ⟨rfl, b2⟩
    have HF := Lib.hid (HB.out w2 b2)
    clear b2 HC HB
    go_wp2
    go_ret2
    exact ⟨rfl, HF.out⟩
  | false =>
    rw [hg] at HI
    rw [edOf_no hg]
    clear h hn hg
    go_enter Try.func34, Try.ntmps34
    go_wp2_with fail
    refine calls_gen (fun W => Below w.heap.size w W) (hb0 _) ?_
    rintro W hB
    refine (HI.out W hB).mono ?_
    rintro e w1 ⟨rfl, b1⟩
    replace hB := hB.next b1
    clear b1 HI
    go_wp2
    go_ret2
    exact ⟨rfl, hB⟩

set_option maxHeartbeats 1600000 in
theorem specEd {lo hi : Nat} (s : Int) (a : Option Addr) (n c : Nat) (xss : List (List Int)) (w : World) (h : RdR lo hi w (.slice a n c) xss) (hn : xss.length = n) :
    Calls Try.prog 33 #[.agg #[.int .i64 s, .slice a n c]] w fun e w' => e = .returned (.tuple #[.int .i64 (edOf s xss).1, .int .i64 (edOf s xss).2]) ∧ Below w.heap.size w w' := by
  have hb0 : ∀ o, Below w.heap.size w (w.alloc o) := fun o => (Below.refl _ _).alloc (Nat.le_refl _) o
  have HI := Lib.hid (fun W (hB : Below w.heap.size w W) => l01Is s a n c xss W (h.below hB) hn)
  cases hg : grB s xss with
  | true =>
    rw [hg] at HI
    have hg4 := grB_iff hg
    have HR := Lib.hid (fun W (hB : Below w.heap.size w W) => l09Rows s a n c xss W (h.below hB) hn hg)
    rw [edOf_yes hg]
    obtain ⟨N, hN⟩ : ∃ N, N = 2 * n := ⟨_, rfl⟩
    have HFT : fits (edgeM (dirE (pairs xss))) N := by rw [hN, ← hn]; exact edge_fits hg
    have HBK := Lib.hid (fun (a2 : Option Addr) (c2 : Nat) (W : World) (lo hi : Nat) (hr : RdR lo hi W (.slice a2 N c2) (tab N (edgeM (dirE (pairs xss))))) => specBkD' N _ a2 c2 W hr (by omega) HFT)
    have HY := Lib.hid (ed_bk (xss := xss))
    rw [hn, ← hN] at HY
    rw [← hN] at HR
    have hm2 : IntKind.i64.wrap (2 * (n : Int)) = (N : Int) := by rw [hN]; rw [IntWalk.i64_in _ (by omega)]; omega
    have hm2' : wrap64 (2 * (n : Int)) = (N : Int) := by rw [hN]; rw [IntWalk.wrap64_in _ (by omega)]; omega
    obtain ⟨ys, hys⟩ : ∃ ys, ys = trim (dkL (edgeM (dirE (pairs xss))) N) := ⟨_, rfl⟩
    rw [← hys] at HBK HY
    generalize edO xss = D at HY ⊢
    generalize edgeM (dirE (pairs xss)) = A at HR HBK
    have HN20 := Lib.hid (show N ≤ 20 by omega)
    clear h hn hg hg4 hN HFT hys
    go_enter Try.func33, Try.ntmps33
    go_wp2_with fail
    refine calls_gen (fun W => Below w.heap.size w W ∧ W.cell? ⟨w.heap.size, 0, none⟩ = some (.int .i64 s) ∧ W.cell? ⟨w.heap.size, 1, none⟩ = some (.slice a n c)) ⟨hb0 _, by go_simp, by go_simp⟩ ?_
    rintro W ⟨hB, k0, k1⟩
    refine (HI.out W hB).mono ?_
    rintro e w0 ⟨rfl, b0⟩
    replace hB := hB.next b0
    replace k0 := b0.keep k0
    replace k1 := b0.keep k1
    clear b0 HI
    have HRD := Lib.hid (HR.out w0.drew (hB.qt (Qt.refl w0).drew))
    have HB0 := Lib.hid hB
    clear hB HR
    go_wp2_with fail
    go_region_held3 (fun W' => W'.cell? ⟨w.heap.size, 0, none⟩ = some (.int .i64 s) ∧ W'.cell? ⟨w.heap.size, 1, none⟩ = some (.slice a n c))
      (first | (exact ⟨k0, k1⟩) | (go_split_ands; exact ⟨b5.keep (by assumption), b5.keep (by assumption)⟩) | (go_split_ands; exact ⟨b4.keep (by assumption), b4.keep (by assumption)⟩) | go_keep)
      (first
        | (go_at_call 71; with_reducible refine HRD.out.mono ?_; rintro e w4 ⟨a4, c4, rfl, o4, b4⟩)
        | (go_at_call 68; with_reducible refine (HBK.out a4 c4 w4 _ _ o4.rd).mono ?_; rintro e w5 ⟨a5, c5, rfl, o5, b5⟩))
    all_goals
      have HF := Lib.hid (HB0.out.next (((Qt.refl w0).drew.below.next b4).next b5))
      clear hm2 hm2' k0 k1 HRD HBK b4 b5 o4
      by_cases hle : ys.length ≤ N
      · have HD0 := Lib.hid (HY.out.1 hle)
        have hleI : (ys.length : Int) ≤ (N : Int) := by omega
        clear HY o5
        go_wp2
        go_ret2
        exact ⟨by rw [HD0.out]; rfl, HF.out⟩
      · have hlt : N < ys.length := by omega
        have hleI : ¬ (ys.length : Int) ≤ (N : Int) := by omega
        have hltI : (N : Int) < (ys.length : Int) := by omega
        have hN0 : (0 : Int) ≤ (N : Int) := by omega
        obtain ⟨b, off, rfl, h1⟩ := o5.rd.at rfl N hlt
        rw [HY.out.2] at h1
        clear HY o5
        go_wp2
        go_ret2
        exact ⟨rfl, HF.out⟩
  | false =>
    rw [hg] at HI
    rw [edOf_no hg]
    clear h hn hg
    go_enter Try.func33, Try.ntmps33
    go_wp2_with fail
    refine calls_gen (fun W => Below w.heap.size w W) (hb0 _) ?_
    rintro W hB
    refine (HI.out W hB).mono ?_
    rintro e w1 ⟨rfl, b1⟩
    replace hB := hB.next b1
    clear b1 HI
    go_wp2
    go_ret2
    exact ⟨rfl, hB⟩
end Go.Proofs.Ytmhnckjcpdnabaa
