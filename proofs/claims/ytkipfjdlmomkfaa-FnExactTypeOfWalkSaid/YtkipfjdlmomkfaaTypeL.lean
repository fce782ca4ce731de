/- Types of permutations of sheets: the cycles' lengths, descending, by both sides. -/
import Derived.Test.YtkipfjdlmomkfaaPermArr
import Derived.Test.YtkipfjdlmomkfaaSortO
import Derived.Scope
import Derived.Deep.AppendLies
set_option linter.unusedSimpArgs false
set_option linter.unusedVariables false
set_option maxRecDepth 100000
namespace Go.Proofs.Ytkipfjdlmomkfaa
open Go.RowKit

/-- the program's inner loop: none where a lesser sheet is met -/
def cycGo (t : List Int) (first sheet : Int) (len : Nat) : Nat → Option Nat
  | 0 => some 99
  | f + 1 => if sheet = first then some len else if sheet < first then none else cycGo t first (t.getD sheet.toNat 0) (len + 1) f
def cyc1 (t : List Int) (first : Nat) : Option Nat := cycGo t first (t.getD first 0) 1 5
def rawTo (t : List Int) : Nat → List Int
  | 0 => []
  | k + 1 => match cyc1 t k with
    | some n => rawTo t k ++ [(n : Int)]
    | none => rawTo t k
def typL (t : List Int) : List Int := (isort (rawTo t t.length)).reverse

def tyOk (t : List Int) : Bool := (List.range t.length).all (fun k => decide (cyc1 t k ≠ some 99)) && (decide (0 < (rawTo t t.length).length) && (decide ((rawTo t t.length).length ≤ 4) && (rawTo t t.length).all (fun x => decide (1 ≤ x) && decide (x ≤ 4))))
theorem ty1 : ∀ a ∈ four, permB 1 [a] = true → tyOk [a] = true := by decide +kernel
theorem ty2 : ∀ a ∈ four, ∀ b ∈ four, permB 2 [a, b] = true → tyOk [a, b] = true := by decide +kernel
theorem ty3 : ∀ a ∈ four, ∀ b ∈ four, ∀ c ∈ four, permB 3 [a, b, c] = true → tyOk [a, b, c] = true := by decide +kernel
theorem ty4 : ∀ a ∈ four, ∀ b ∈ four, ∀ c ∈ four, ∀ d ∈ four, permB 4 [a, b, c, d] = true → tyOk [a, b, c, d] = true := by decide +kernel

theorem ty_ok {S : Nat} {t : List Int} (h1 : 1 ≤ S) (h4 : S ≤ 4) (h : permB S t = true) : (∀ k, k < S → cyc1 t k ≠ some 99) ∧ 0 < (rawTo t S).length ∧ (rawTo t S).length ≤ 4 ∧ ∀ x ∈ rawTo t S, 1 ≤ x ∧ x ≤ 4 := by
  have hl := permB_len h
  have hin : ∀ x ∈ t, x ∈ four := fun x hx => by
    obtain ⟨i, hi, rfl⟩ := List.getElem_of_mem hx
    have := permB_in h i hi
    simp only [List.getD, List.getElem?_eq_getElem hi, Option.getD_some] at this
    exact inR_four this (by omega)
  have hok : tyOk t = true := by
    have hs : S = 1 ∨ S = 2 ∨ S = 3 ∨ S = 4 := by omega
    rcases hs with rfl | rfl | rfl | rfl
    · obtain ⟨a, rfl⟩ := len1 (by omega : t.length = 1)
      exact ty1 a (hin a (by simp)) h
    · obtain ⟨a, b, rfl⟩ := len2 (by omega : t.length = 2)
      exact ty2 a (hin a (by simp)) b (hin b (by simp)) h
    · obtain ⟨a, b, c, rfl⟩ := len3 (by omega : t.length = 3)
      exact ty3 a (hin a (by simp)) b (hin b (by simp)) c (hin c (by simp)) h
    · obtain ⟨a, b, c, d, rfl⟩ := len4 (by omega : t.length = 4)
      exact ty4 a (hin a (by simp)) b (hin b (by simp)) c (hin c (by simp)) d (hin d (by simp)) h
  have hS : t.length = S := by omega
  unfold tyOk at hok
  rw [hS] at hok
  simp only [Bool.and_eq_true, decide_eq_true_eq, List.all_eq_true, List.mem_range] at hok
  exact ⟨fun k hk => hok.1 k hk, hok.2.1, hok.2.2.1, fun x hx => hok.2.2.2 x hx⟩
theorem raw_len (t : List Int) : ∀ k, (rawTo t k).length ≤ k
  | 0 => Nat.le_refl _
  | k + 1 => by
    have := raw_len t k
    unfold rawTo
    split <;> simp <;> omega

set_option maxHeartbeats 3200000 in
theorem typeOf {lo hi : Nat} (a : Option Addr) (n c : Nat) (t : List Int) (w : World) (h : RdI lo hi w (.slice a n c) t) (hn : t.length = n) (h1 : 1 ≤ n) (h4 : n ≤ 4) (hp : permB n t = true) :
    Calls Try.prog 69 #[.slice a n c] w fun e w' => ∃ a' c', e = .returned (.slice a' (typL t).length c') ∧ OwI w.heap.size w'.heap.size w' (.slice a' (typL t).length c') (typL t) ∧ Below w.heap.size w w' := by
  obtain ⟨i0, hi', z0, z1, z2⟩ := info_parts Try.info2
  obtain ⟨ok1, ok2, ok3, ok4⟩ := ty_ok h1 h4 hp
  have HIN : Hid (∀ j, j < n → ∃ X : Nat, t.getD j 0 = (X : Int) ∧ X < n) := Lib.hid (fun j hj => by
    have := permB_in hp j (by omega)
    unfold inR at this
    simp only [Bool.and_eq_true, decide_eq_true_eq] at this
    exact ⟨(t.getD j 0).toNat, by omega, by omega⟩)
  have HCells := Lib.hid (h.cellsC hn)
  have HN := Lib.hid hn
  have HK1 := Lib.hid ok1
  have HK := Lib.hid (⟨ok2, ok3, ok4⟩ : _ ∧ _ ∧ _)
  clear h hn hp ok1 ok2 ok3 ok4
  go_enter Try.func69, Try.ntmps69
  go_wp2
  refine wp_scope_straight ?_
  go_wp2
  refine wp_label ?_
  go_wp2
  go_loopw [9, 3] (fun i v wr => ∃ (k m : Nat) (av : Option Addr) (cv : Nat), k ≤ n ∧ i = .int .i64 k ∧ v = .slice av m cv ∧ m ≤ k ∧ wr.ownsRow w.heap.size 2 1 (.slice av m cv) m ((rawTo t k).map (Value.int .i64)) ∧ Below w.heap.size w wr) (fun i _ _ => n - (intOf i).toNat)
  case atStart => exact ⟨0, 0, none, 0, Nat.zero_le _, rfl, rfl, Nat.le_refl _, World.ownsRow_nil _ _ _ _, Below.refl _ _⟩
  case round =>
    obtain ⟨k, m, av, cv, hk, rfl, rfl, hm, hown, hB⟩ := hrel
    obtain ⟨U, rfl⟩ : ∃ U, U = wr := ⟨_, rfl⟩
    by_cases hlt : k < n
    · obtain ⟨b, off, rfl, g0⟩ := HCells.out k hlt
      have g1 := hB.keep g0
      obtain ⟨X0, hX0, hX0n⟩ := HIN.out k hlt
      rw [hX0] at g1
      have HST : Hid (cycGo t k (X0 : Int) 1 5 = cyc1 t k) := Lib.hid (by unfold cyc1; rw [hX0])
      have HO := Lib.hid (⟨hown, hB⟩ : _ ∧ _)
      clear hown hX0 g0
      go_wp2
      go_loopw [6, 5] (fun sv lv wr2 => ∃ X L f : Nat, sv = .int .i64 X ∧ X < n ∧ lv = .int .i64 L ∧ L + f = 6 ∧ Hid (cycGo t k (X : Int) L f = cyc1 t k) ∧ wr2 = U) (fun _ lv _ => 6 - (intOf lv).toNat)
      case atStart => exact ⟨X0, 1, 5, rfl, hX0n, by go_num, rfl, HST, rfl⟩
      case round =>
        obtain ⟨X, L, f, rfl, hX, rfl, hLf, HS, rfl⟩ := hrel
        have hf : f ≠ 0 := by
          rintro rfl
          exact HK1.out k hlt HS.out.symm
        obtain ⟨f', rfl⟩ : ∃ f', f = f' + 1 := ⟨f - 1, by omega⟩
        have hcy := HS.out
        rw [cycGo] at hcy
        by_cases h1x : X = k
        · have hraw : rawTo t (k+1) = rawTo t k ++ [(L : Int)] := by
            rw [if_pos (by omega)] at hcy
            rw [rawTo, ← hcy]
          have HRAW := Lib.hid hraw
          have hb : ((X : Int) != (k : Int)) = false := by simp; omega
          obtain ⟨hown, hB2⟩ := HO.out
          have hlo : ∀ q, (Value.slice av m cv).ownBlock = some q → w.heap.size ≤ q := fun q hq => (hown.lt q hq).1
          have hownV := hown.alloc (.cells #[.int .i64 (L : Int)] 2)
          have hnews := news_one wr 2 (.int .i64 (L : Int))
          have hU2 := hB2.alloc hB2.size (.cells #[.int .i64 (L : Int)] 2)
          have hU2s := hU2.size
          have HU := Lib.hid (⟨hU2, hlo⟩ : _ ∧ _)
          clear hown hB2 hU2 hraw hcy hlo
          go_wp2_with (at_builtin; refine wpList_append_lies _ rfl _ _ 35 rfl w.heap.size 2 i0 (.int .i64 0) 1 8 Try.underlying35 hi' z0 z1 z2 rfl (by decide) _ _ _ rfl hownV ⟨wr.heap.size, 0, none⟩ 1 1 [.int .i64 (L : Int)] rfl rfl ?d1 ?d2 (by decide) ?d3 ?d4 ?d5 _ rfl ?_)
          case d1 => exact hnews
          case d2 => first | (intro u hu; simp at hu; subst hu; rfl) | rfl | simp
          case d3 => unfold maxLen; omega
          case d4 => omega
          case d5 => exact hU2s
          intro g4 c4 w4 hown3 hgr hlie hlt3
          replace hown3 : w4.ownsRow w.heap.size 2 1 (.slice (some ⟨g4, 0, none⟩) (m + 1) c4) (m + 1) ((rawTo t (k+1)).map (Value.int .i64)) := by
            rw [HRAW.out]
            simpa using hown3
          have hb4 := HU.out.1.grown hgr hU2s (fun x hx => HU.out.2 x hx)
          have F := Lib.hid (⟨hown3, hb4⟩ : _ ∧ _)
          clear hown3 hb4 hgr hlie
          go_wp2
          go_roundw
          case rel => exact ⟨k+1, m+1, _, c4, by omega, by go_num, rfl, by omega, F.out⟩
          case measure => simp [intOf]; omega
        · rw [if_neg (by omega)] at hcy
          have hb : ((X : Int) != (k : Int)) = true := by simp; omega
          by_cases h2x : X < k
          · have hraw : rawTo t (k+1) = rawTo t k := by
              rw [if_pos (by omega)] at hcy
              rw [rawTo, ← hcy]
            have HRAW := Lib.hid hraw
            clear hraw hcy
            go_wp2
            go_roundw
            case rel => exact ⟨k+1, m, av, cv, by omega, by go_num, rfl, by omega, by rw [HRAW.out]; exact HO.out.1, HO.out.2⟩
            case measure => simp [intOf]; omega
          · rw [if_neg (by omega), Int.toNat_natCast] at hcy
            obtain ⟨bb, ofb, hbb, g2⟩ := HCells.out X hX
            obtain ⟨rfl, rfl⟩ : bb = b ∧ ofb = off := by simp at hbb; exact ⟨hbb.1.symm, hbb.2.symm⟩
            have g3 := HO.out.2.keep g2
            obtain ⟨Y, hY, hYn⟩ := HIN.out X hX
            rw [hY] at g3 hcy
            have HNX := Lib.hid hcy
            clear hcy g2 hY hbb
            go_wp2
            go_roundw
            case rel => exact ⟨Y, L+1, f', rfl, hYn, by go_num, by omega, HNX, by first | rfl | trivial⟩
            case measure => simp [intOf]; omega
    · obtain rfl : k = n := by omega
      obtain ⟨ok2, ok3, ok4⟩ := HK.out
      have hml : (rawTo t k).length = m := by have := hown.1; simpa using this
      obtain ⟨g, rfl, hgl⟩ : ∃ g, av = some ⟨g, 0, none⟩ ∧ w.heap.size ≤ g := by
        obtain ⟨g, cap, hv, hg, _⟩ := hown.form (by omega)
        simp only [Value.slice.injEq] at hv
        exact ⟨g, hv.1, hg⟩
      have hX : OwX w.heap.size cv U g m (rawTo t k) := hown
      have hty : typL t = (isort (rawTo t k)).reverse := by unfold typL; rw [HN.out]
      have HTY := Lib.hid hty
      have hsrt := slSortO w.heap.size g m cv (rawTo t k) U hX (by omega) (by omega)
      have HSRT := Lib.hid hsrt
      have hrv := fun W h => slReverse w.heap.size g m cv (isort (rawTo t k)) W h (by omega) (by omega)
      have HRV := Lib.hid hrv
      have HFIN := Lib.hid (⟨hB, ok4, hml⟩ : _ ∧ _ ∧ _)
      clear hown hX hty hsrt hrv hB ok2 ok3 ok4 hml
      go_wp2_with fail
      refine HSRT.out.mono ?_
      rintro e w2 ⟨rfl, r2, c2⟩
      have HR2 := Lib.hid (⟨r2, c2⟩ : _ ∧ _)
      clear r2 c2
      go_wp2_with fail
      refine (HRV.out w2 HR2.out.1).mono ?_
      rintro e w3 ⟨rfl, r3, c3⟩
      have hch := HR2.out.2.trans c3
      have HR3 := Lib.hid (⟨r3, hch⟩ : _ ∧ _)
      clear r3 c3 hch
      go_wp2
      have hB3 := HFIN.out.1.chgn HR3.out.2 hgl HFIN.out.1.size
      have hO : OwI w.heap.size w3.heap.size w3 (.slice (some ⟨g, 0, none⟩) m cv) (typL t) := by
        rw [HTY.out]
        refine OwI.mk HR3.out.1 (by omega) (fun x hx => ?_)
        have hpos : 0 < (rawTo t k).length := by have := HFIN.out.2.2; have := HK.out.1; omega
        have := HFIN.out.2.1 x ((isort_perm hpos).mem_iff.1 (List.mem_reverse.1 hx))
        unfold I64; omega
      have hlen : (typL t).length = m := by rw [HTY.out, List.length_reverse]; unfold isort; rw [sortTo_len]; exact HFIN.out.2.2
      dsimp only [Exit.noGoto]
      go_wp2
      go_ret
      exact ⟨some ⟨g, 0, none⟩, cv, by rw [hlen]; rfl, by rw [hlen]; exact hO, hB3⟩

end Go.Proofs.Ytkipfjdlmomkfaa
