/- Codes of graphs, by the program and by the model. -/
import Derived.Test.YtolipjemabmlkaaSimP
import Derived.Test.YtolipjemabmlkaaWalkL
import Derived.Deep.RegionHeld3
set_option linter.unusedSimpArgs false
set_option linter.unusedVariables false
set_option maxRecDepth 100000
namespace Go.Proofs.Ytolipjemabmlkaa
open Go.RowKit

/-- the numbers of the rows before k up to the diagonal -/
def cdT (f : Nat → Nat → Int) : Nat → List Int
  | 0 => []
  | k + 1 => cdT f k ++ (List.range (k + 1)).map (f k)
def cdR (f : Nat → Nat → Int) (k m : Nat) : List Int := cdT f k ++ (List.range m).map (f k)
theorem cdR_0 (f : Nat → Nat → Int) (k : Nat) : cdR f k 0 = cdT f k := by simp [cdR]
theorem cdR_all (f : Nat → Nat → Int) (k : Nat) : cdR f k (k + 1) = cdT f (k + 1) := rfl
theorem cdR_step (f : Nat → Nat → Int) (k m : Nat) : cdR f k (m + 1) = cdR f k m ++ [f k m] := by
  unfold cdR
  rw [List.range_succ, List.map_append, List.append_assoc]; rfl
theorem cdT_len (f : Nat → Nat → Int) : ∀ k, k ≤ 20 → (cdT f k).length ≤ 20 * k
  | 0, _ => Nat.le_refl _
  | k + 1, h => by
    have := cdT_len f k (by omega)
    unfold cdT
    simp
    omega
theorem cdR_len (f : Nat → Nat → Int) (k m : Nat) (h : k ≤ 8) (hm : m ≤ k + 1) : (cdR f k m).length ≤ 200 := by
  have := cdT_len f k (by omega)
  simp [cdR]; omega
def codeL (S : Nat) (f : Nat → Nat → Int) : List Int := (S : Int) :: cdT f S
theorem codeL_I64 {S : Nat} {f : Nat → Nat → Int} (hS : S ≤ 8) (hf : ∀ i j, I64 (f i j)) : ∀ x ∈ codeL S f, I64 x := by
  intro x hx
  unfold codeL at hx
  rcases List.mem_cons.mp hx with rfl | hx
  · unfold I64; omega
  · have : ∀ k, ∀ x ∈ cdT f k, I64 x := by
      intro k
      induction k with
      | zero => intro x hx; simp [cdT] at hx
      | succ k ih =>
        intro x hx
        rcases List.mem_append.mp hx with h | h
        · exact ih x h
        · obtain ⟨j, _, rfl⟩ := List.mem_map.mp h; exact hf k j
    exact this S x hx
theorem OwR.rowAt {lo hi : Nat} {w : World} {a : Option Addr} {n c : Nat} {f : Nat → Nat → Int} (h : OwR lo hi w (.slice a n c) (tab n f)) {i : Nat} (hi' : i < n) (hn : 0 < n) :
    ∃ g b cb, a = some ⟨g, 0, none⟩ ∧ w.cell? ⟨g, i, none⟩ = some (.slice (some ⟨b, 0, none⟩) n cb) ∧ n ≤ cb ∧ ∀ j, j < n → w.cell? ⟨b, j, none⟩ = some (.int .i64 (f i j)) := by
  obtain ⟨h1, hh, rvs, h3, hr, hd⟩ := h
  rw [tab_len] at h3
  obtain ⟨g, c', e1, hg, hgw⟩ := h3.form hn
  simp only [Value.slice.injEq] at e1
  obtain ⟨rfl, -, rfl⟩ := e1
  have hil : i < (tab n f).length := by rw [tab_len]; exact hi'
  have ho := hr.own i hil
  have hl : i < rvs.length := by rw [hr.len]; exact hil
  have hcell := h3.cellAt i (by omega)
  rw [List.getElem?_eq_getElem hl] at hcell
  have e2 : rvs.getD i (.slice none 0 0) = rvs[i] := by simp [List.getD, List.getElem?_eq_getElem hl]
  rw [← e2] at hcell
  have hrd := ho.rd
  obtain ⟨o1, o2, o3, o4⟩ := ho
  rw [tab_rlen f hi'] at o3
  obtain ⟨b, cb, hrv, hb, hbw⟩ := o3.form hn
  rw [hrv] at hcell o3 hrd
  have hcap : n ≤ cb := by
    rcases o3.2 with ⟨e, _⟩ | ⟨_, _, _, e, _, _, e3, _⟩
    · simp at e
    · simp at e; omega
  refine ⟨g, b, cb, rfl, hcell, hcap, fun j hj => ?_⟩
  obtain ⟨b', off', hbb, e4⟩ := hrd.at (tab_rlen f hi') j hj
  simp only [Option.some.injEq, Addr.mk.injEq, and_true] at hbb
  obtain ⟨rfl, rfl⟩ := hbb
  rw [tab_get f hi' hj, Nat.zero_add] at e4
  exact e4

def cdOf (s : Int) (xss : List (List Int)) : List Int × Int := if grB s xss = true then (codeL s.toNat (adF xss), 0) else ([], 1)
theorem cdOf_no {s : Int} {xss : List (List Int)} (h : grB s xss = false) : cdOf s xss = ([], 1) := by unfold cdOf; rw [h]; rfl
theorem cdOf_yes {S : Nat} {xss : List (List Int)} (h : grB (S : Int) xss = true) : cdOf (S : Int) xss = (codeL S (adF xss), 0) := by unfold cdOf; rw [if_pos h, Int.toNat_natCast]
theorem adF_I64 {s : Int} {xss : List (List Int)} (hg : grB s xss = true) (i j : Nat) : I64 (adF xss i j) := by
  have := adF_bd hg i j
  unfold I64; omega

set_option maxHeartbeats 3200000 in
theorem implCod {lo hi : Nat} (s : Int) (a : Option Addr) (n c : Nat) (xss : List (List Int)) (w : World) (h : RdR lo hi w (.slice a n c) xss) (hn : xss.length = n) :
    Calls Try.prog 35 #[.agg #[.int .i64 s, .slice a n c]] w fun e w' => ∃ a' c', e = .returned (.tuple #[.slice a' (cdOf s xss).1.length c', .int .i64 (cdOf s xss).2]) ∧ OwI w.heap.size w'.heap.size w' (.slice a' (cdOf s xss).1.length c') (cdOf s xss).1 ∧ Below w.heap.size w w' := by
  obtain ⟨i0, hi', z0, z1, z2⟩ := info_parts Try.info2
  have hb0 : ∀ o, Below w.heap.size w (w.alloc o) := fun o => (Below.refl _ _).alloc (Nat.le_refl _) o
  cases hg : grB s xss with
  | true =>
    have hg4 := grB_iff hg
    obtain ⟨S, hS⟩ : ∃ S : Nat, s = (S : Int) := ⟨s.toNat, by omega⟩
    subst hS
    have HR := Lib.hid (fun W (hB : Below w.heap.size w W) => implAdj_yes S a n c xss W (h.below hB) hn hg)
    have HN := Lib.hid hn
    rw [cdOf_yes hg]
    have HAT := Lib.hid (show tab S (fun i j => adS (pairs xss) xss.length i j) = tab S (adF xss) from rfl)
    have HFI := Lib.hid (codeL_I64 (S := S) (by omega) (adF_I64 hg))
    have HCL := Lib.hid (show codeL S (adF xss) = (S : Int) :: cdT (adF xss) S from rfl)
    have hS8 : S ≤ 8 := by omega
    have hS1 : 0 < S := by omega
    generalize adF xss = f at HAT HFI HCL ⊢
    generalize codeL S f = CL at HFI HCL ⊢
    clear h hn hg hg4
    go_enter Try.func35, Try.ntmps35
    go_wp2_with fail
    refine calls_gen (fun W => Below w.heap.size w W ∧ W.cell? ⟨w.heap.size, 0, none⟩ = some (.int .i64 (S : Int))) ⟨hb0 _, by go_simp⟩ ?_
    rintro W ⟨hB, k0⟩
    refine (HR.out W hB).mono ?_
    rintro e w1 ⟨a1, c1, rfl, o1, b1⟩
    have ho : OwR W.heap.size w1.heap.size w1 (.slice a1 S c1) (tab S f) := by
      rw [← HN.out, HAT.out] at o1
      exact o1
    have HO := Lib.hid ho
    have HB := Lib.hid (hB.next b1)
    replace k0 := b1.keep k0
    have hl := World.ownsRow_lit (base := w1.heap.size) (e := 2) (size := 1) w1 #[.int .i64 (S : Int)] 1 (Nat.le_refl _) (by unfold maxLen; omega) rfl
    have hb := (Below.refl w1.heap.size w1).alloc (Nat.le_refl _) (.cells #[.int .i64 (S : Int)] 2)
    have HS := Lib.hid (⟨hl, hb⟩ : _ ∧ Below w1.heap.size w1 (w1.alloc (.cells #[.int .i64 (S : Int)] 2)))
    clear hB o1 b1 ho HR HAT hl hb
    go_wp2
    generalize w1.alloc (.cells #[.int .i64 (S : Int)] 2) = V at HS ⊢
    obtain ⟨G, hG⟩ : ∃ G, G = w1.heap.size := ⟨_, rfl⟩
    rw [← hG] at HS ⊢
    have HG := Lib.hid hG
    clear hG k0
    go_loopw [6, 22] (fun d v wr => ∃ (k q g cg : Nat) (xs : List Int), k ≤ S ∧ v = .int .i64 k ∧ Hid (xs = (S : Int) :: cdT f k ∧ q ≤ 1 + 20 * k) ∧ d = .slice (some ⟨g, 0, none⟩) q cg ∧ wr.ownsRow G 2 1 (.slice (some ⟨g, 0, none⟩) q cg) q (xs.map (Value.int .i64)) ∧ Below G w1 wr) (fun _ v _ => S - (intOf v).toNat)
    case atStart => exact ⟨0, 1, G, 1, [(S : Int)], Nat.zero_le _, rfl, Lib.hid ⟨rfl, by omega⟩, rfl, HS.out⟩
    case round =>
      clear HS
      obtain ⟨k, q, g, cg, xs, hk, rfl, HX, rfl, hown, hB⟩ := hrel
      by_cases hlt : k < S
      · have hB' := hB
        rw [HG.out] at hB'
        obtain ⟨gr, b, cb, rfl, e2, hcb, e4⟩ := (HO.out.below hB').rowAt hlt hS1
        have hkS : (k : Int) < (S : Int) := by omega
        obtain ⟨M, hM⟩ : ∃ M, M = k + 1 := ⟨_, rfl⟩
        obtain ⟨ys, hys⟩ : ∃ ys, ys = (List.range M).map (f k) := ⟨_, rfl⟩
        have hyl : ys.length = M := by rw [hys]; simp
        have hnw : ∀ (j : Nat) (u : Value), (ys.map (Value.int .i64))[j]? = some u → wr.cell? ((⟨b, 0, none⟩ : Addr).add j) = some u := fun j u hj => by
          have hj' : j < M := by
            have := (List.getElem?_eq_some_iff.1 hj).1
            rw [List.length_map, hyl] at this
            exact this
          have ea : (({ block := b, off := 0 } : Addr).add j) = ⟨b, j, none⟩ := by simp [Addr.add] <;> omega
          have eb : (ys.map (Value.int .i64))[j]? = some (.int .i64 (f k j)) := by rw [hys]; simp [hj']
          rw [ea, e4 j (by omega), ← eb]
          exact hj
        have HST := Lib.hid (show (S : Int) :: cdT f (k + 1) = ((S : Int) :: cdT f k) ++ ys by rw [hys, hM]; rfl)
        have hML : (ys.map (Value.int .i64)).length = M * 1 := by rw [List.length_map, hyl, Nat.mul_one]
        have hone : ∀ u ∈ ys.map (Value.int .i64), u.oneCell' = true := fun u hu => by
          obtain ⟨x, _, rfl⟩ := List.mem_map.mp hu; rfl
        clear hys hyl
        have hGw : G ≤ wr.heap.size := by have := hB'.size; have := HG.out; omega
        have hq200 : q ≤ 200 := by have := HX.out.2; omega
        have hg0 := (hown.lt g rfl).1
        have HU := Lib.hid (⟨hB, hcb, hM⟩ : _ ∧ _ ∧ _)
        have hMb : (M : Int) ≤ (cb : Int) := by omega
        have hM0 : (0 : Int) ≤ (M : Int) := by omega
        have hMp : 0 < M := by omega
        have hM9 : M ≤ 9 := by omega
        have w1' : IntKind.i64.wrap ((k : Int) + 1) = (M : Int) := by rw [show (k : Int) + 1 = (M : Int) by omega]; exact IntWalk.i64_in _ (by omega)
        have w2' : wrap64 ((k : Int) + 1) = (M : Int) := by rw [show (k : Int) + 1 = (M : Int) by clear w1'; omega]; exact IntWalk.wrap64_in _ (by clear w1'; omega)
        have HNW := Lib.hid (⟨hnw, hone, hML⟩ : _ ∧ _ ∧ _)
        have HNQ := Lib.hid (⟨hGw, hq200, hg0, hMp, hM9⟩ : G ≤ wr.heap.size ∧ q ≤ 200 ∧ G ≤ g ∧ 0 < M ∧ M ≤ 9)
        clear hB hB' e4 hM hcb hnw hone hML hGw hq200 hg0 hMp hM9
        go_wp2_with (at_builtin; refine wpList_append_lies _ rfl _ _ 26 rfl G 2 i0 (.int .i64 0) 1 8 Try.underlying26 hi' z0 z1 z2 rfl (by decide) _ _ _ rfl hown ⟨b, 0, none⟩ M cb (ys.map (Value.int .i64)) rfl ?da0 ?da1 ?da2 HNQ.out.2.2.2.1 ?da3 ?da4 HNQ.out.1 _ rfl ?_)
        case da0 => exact HNW.out.2.2
        case da1 => exact HNW.out.1
        case da2 => exact HNW.out.2.1
        case da3 => have := HNQ.out; clear w1' w2'; unfold maxLen; omega
        case da4 => have := HNQ.out; clear w1' w2'; omega
        intro g4 c4 w4 hown3 hgr hlie hlt3
        rw [← List.map_append, HX.out.1, ← HST.out] at hown3
        have hb4 : Below G w1 w4 := HU.out.1.grown hgr (by have := HNQ.out; clear w1' w2'; omega) (fun q' hq => by
          have : g = q' := by simpa [Value.ownBlock] using hq
          have := HNQ.out; clear w1' w2'; omega)
        have F := Lib.hid (⟨hown3, hb4⟩ : _ ∧ _)
        have hMk := HU.out.2.2
        have HQ := Lib.hid (show q + M ≤ 1 + 20 * (k + 1) by have := HX.out.2; clear w1' w2'; omega)
        clear hown3 hb4 hgr hlie e2 hown HNW HX HST hMk w1' w2'
        go_wp2
        go_roundw
        case rel => exact ⟨k+1, q + M, g4, c4, (S : Int) :: cdT f (k + 1), by omega, by go_num, Lib.hid ⟨rfl, HQ.out⟩, rfl, F.out⟩
        case measure => simp [intOf]; omega
      · obtain rfl : k = S := by omega
        have hx := HX.out.1
        rw [← HCL.out] at hx
        subst hx
        have hq200 : q ≤ 200 := by have := HX.out.2; omega
        have hO := OwI.mk hown (by omega) HFI.out
        rw [HG.out] at hB
        have hlen : xs.length = q := by have := hown.1; simpa using this
        have HF := Lib.hid (⟨hO.mono (by have := HG.out; have := HB.out.size; omega) (Nat.le_refl _), HB.out.next hB, hlen⟩ : OwI w.heap.size _ wr (.slice (some ⟨g, 0, none⟩) q cg) xs ∧ _ ∧ _)
        clear hown hO hB hlen HX HCL
        go_wp2
        go_ret2
        exact ⟨_, _, by rw [HF.out.2.2]; rfl, by rw [HF.out.2.2]; exact HF.out.1, HF.out.2.1⟩
  | false =>
    have HR := Lib.hid (fun W (hB : Below w.heap.size w W) => implAdj s a n c xss W (h.below hB) hn)
    have hno : adjOf s xss = ([], 1) := by unfold adjOf; rw [hg]; rfl
    rw [hno] at HR
    rw [cdOf_no hg]
    clear h hn hg hno
    go_enter Try.func35, Try.ntmps35
    go_wp2_with fail
    refine calls_gen (fun W => Below w.heap.size w W) (hb0 _) ?_
    rintro W hB
    refine (HR.out W hB).mono ?_
    rintro e w1 ⟨a1, c1, rfl, o1, b1⟩
    replace hB := hB.next b1
    clear o1 b1 HR
    go_wp2
    go_ret2
    exact ⟨none, 0, rfl, OwI.nil' _ _ _, hB⟩

end Go.Proofs.Ytolipjemabmlkaa
