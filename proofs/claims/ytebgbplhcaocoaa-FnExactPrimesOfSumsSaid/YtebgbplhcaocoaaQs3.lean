/- Lists of sums, by the program. -/
import Derived.Test.YtebgbplhcaocoaaImplMul
import Derived.Test.YtebgbplhcaocoaaConcat
import Derived.Test.YtebgbplhcaocoaaSpecAdd2
import Derived.Laws.AppendOwnNone
set_option linter.unusedSimpArgs false
set_option linter.unusedVariables false
set_option maxRecDepth 100000
namespace Go.Proofs.Ytebgbplhcaocoaa
open Go.RowKit

def smsB (xs : List Int) : Bool := decide (xs.length ≤ 24) && xs.all inW

theorem areClo (x : Int) (w : World) : Calls Try.prog 125 #[.int .i64 x] w fun e w' => e = .returned (.bool (!inW x)) ∧ Qt w w' := by
  go_enter Try.func125, Try.ntmps125
  go_wp2_with fail
  refine (isWithinM x w).mono ?_
  rintro e w1 ⟨rfl, q1⟩
  go_wp2
  go_ret
  exact ⟨rfl, q1⟩

set_option maxHeartbeats 1600000 in
theorem indexSums {lo hi : Nat} (a : Option Addr) (n c : Nat) (xs : List Int) (w : World) (h : RdI lo hi w (.slice a n c) xs) (hn : xs.length = n) (h1 : n ≤ 1000) :
    Calls Try.prog 168 #[.slice a n c, .func (.func 125) #[] #[]] w fun e w' => (∃ v : Int, e = .returned (.int .i64 v) ∧ decide (0 ≤ v) = !xs.all inW) ∧ Qt w w' := by
  have HC := Lib.hid (fun W (hq : Qt w W) => (h.qt hq).cells hn)
  have HYES := Lib.hid (fun k (hk : k < n) (e : inW (xs.getD k 0) = false) => inW_not (xs := xs) (by omega) e)
  have HTK := Lib.hid (fun k (hk : k < n) (h : (xs.take k).all inW = true) (e : inW (xs.getD k 0) = true) => inW_take (xs := xs) (by omega) h e)
  have HFULL := Lib.hid (show xs.take n = xs by rw [← hn]; exact List.take_length)
  clear h hn
  go_enter Try.func168, Try.ntmps168
  go_wp2
  go_loopw [8] (fun v wr => ∃ k : Nat, k ≤ n ∧ v = .int .i64 k ∧ Qt w wr ∧ Hid ((xs.take k).all inW = true)) (fun v _ => n - (intOf v).toNat)
  case atStart => exact ⟨0, Nat.zero_le _, rfl, Qt.refl _, Lib.hid (by simp)⟩
  case round =>
    obtain ⟨k, hk, rfl, hq, HA⟩ := hrel
    by_cases hlt : k < n
    · obtain ⟨b, off, rfl, e0⟩ := HC.out wr hq k hlt
      have hy := HYES.out k hlt
      have ht := HTK.out k hlt HA.out
      generalize xs.getD k 0 = x at e0 hy ht
      have hkn : (k : Int) < (n : Int) := by omega
      have HQ := Lib.hid hq
      have HL := Lib.hid (areClo x wr)
      have HY := Lib.hid hy
      have HT := Lib.hid ht
      clear hq hy ht
      go_wp2_with fail
      refine HL.out.mono ?_
      rintro e w2 ⟨rfl, q2⟩
      have HQ2 := Lib.hid (HQ.out.trans q2)
      clear q2 HL
      cases hx : inW x with
      | false =>
        have HF := Lib.hid (HY.out hx)
        have hk0 : decide ((0 : Int) ≤ (k : Int)) = true := decide_eq_true (by omega)
        clear hx
        go_wp2
        go_ret
        exact ⟨⟨_, rfl, by rw [HF.out]; exact hk0⟩, HQ2.out⟩
      | true =>
        have HN2 := Lib.hid (HT.out hx)
        clear hx
        go_wp2
        go_roundw
        case rel => exact ⟨k+1, by omega, by go_num, HQ2.out, HN2⟩
        case measure => simp [intOf]; omega
    · obtain rfl : k = n := by omega
      have HF := Lib.hid HA.out
      rw [HFULL.out] at HF
      go_wp2
      go_ret
      exact ⟨⟨_, rfl, by rw [HF.out]; rfl⟩, hq⟩

theorem areSums {lo hi : Nat} (a : Option Addr) (n c : Nat) (xs : List Int) (w : World) (h : RdI lo hi w (.slice a n c) xs) (hn : xs.length = n) :
    Calls Try.prog 72 #[.slice a n c] w fun e w' => e = .returned (.bool (smsB xs)) ∧ Qt w w' := by
  by_cases h24 : n ≤ 24
  · have HI := Lib.hid (indexSums a n c xs w h hn (by omega))
    have hs : smsB xs = xs.all inW := by unfold smsB; rw [decide_eq_true (by omega), Bool.true_and]
    have hb : decide ((24 : Int) < (n : Int)) = false := decide_eq_false (by omega)
    rw [hs]
    generalize xs.all inW = z at HI ⊢
    clear h hn hs
    have HC : Hid (Calls Try.prog 124 #[.slice a n c, .func (.func 125) #[] #[]] w fun e w' => e = .returned (.bool (!z)) ∧ Qt w w') := Lib.hid (by
      go_enter Try.func124, Try.ntmps124
      go_wp2_with fail
      refine HI.out.mono ?_
      rintro e w2 ⟨⟨v, rfl, hv⟩, q2⟩
      go_wp2
      go_ret
      exact ⟨by rw [← hv]; rfl, q2⟩)
    clear HI
    go_enter Try.func72, Try.ntmps72
    go_wp2_with fail
    refine HC.out.mono ?_
    rintro e w2 ⟨rfl, q2⟩
    cases z <;> (go_wp2; go_ret; exact ⟨rfl, q2⟩)
  · have hs : smsB xs = false := by unfold smsB; rw [decide_eq_false (by omega), Bool.false_and]
    rw [hs]
    have hn9 : n ≤ 17592186044416 := by rw [← hn]; exact h.1
    have hb : decide ((24 : Int) < (n : Int)) = true := decide_eq_true (by omega)
    clear h hn hs
    go_enter Try.func72, Try.ntmps72
    go_wp2
    go_ret
    exact ⟨rfl, Qt.refl _⟩

theorem run_append_zero {P : Program} {w : World} {base e size n : Nat} {v : Value} {xs : List Value} (t ty : TypeId) (i : TypeInfo) (ht : P.underlying t = some (.slice e)) (hi : P.info? e = some i) (hown : w.ownsRow base e size v n xs) (ad : Option Addr) (c : Nat) :
    (Builtin.append_ #[t, t] ty #[v, .slice ad 0 c]).run P w = .ok v w := by
  rcases hown.2 with ⟨rfl, rfl⟩ | ⟨g, cap, cur, rfl, _, _, hnc, _⟩ <;> cases ad <;>
    simp [Builtin.append_, run_underlying ht, sizeOf, typeInfo, hi, Builtin.lenOf, Builtin.firstCells, loadCells, loadCellsFrom, storeCells, *]
theorem wpList_append_zero {P : Program} {w : World} {ops : Array Oper} {rest : List Oper} {o : Oper} {a : Act} {Q : Exit → Act → World → Prop} (hgd : o.guard = none) (s x : Operand) (t : TypeId)
    (ho : o.op = .call { callee := .builtin .append, args := #[s, x], argTypes := #[t, t] })
    (base : Nat) (e : TypeId) (i : TypeInfo) (size : Nat) (ht : P.underlying t = some (.slice e)) (hi : P.info? e = some i)
    (v : Value) (n : Nat) (xs : List Value) (hs : a.eval s = v) (hown : w.ownsRow base e size v n xs) (ad : Option Addr) (c : Nat) (hx : a.eval x = .slice ad 0 c)
    (h : wpList P ops Q rest (a.put o.dst v) w) : wpList P ops Q (o :: rest) a w := by
  refine wpList_plain hgd fun K hK => ?_
  have hrun := run_append_zero (P := P) (w := w) t o.type i ht hi hown ad c
  unfold Oper.wp
  simp [execOp, ho, resolve, invoke, builtin, hs, hx, hrun, Result.andThen]
  exact hK _ _ h

def szJ (n q : Nat) : Nat := if q = 0 then 0 else if q = 1 then 1 else 1 + n
def catJ (ws : List Int) (q : Nat) : List Value := if q = 0 then [] else if q = 1 then [.int .i64 0] else .int .i64 0 :: ws.map (Value.int .i64)

set_option maxHeartbeats 6400000 in
theorem slConcatG {lo hi : Nat} (Y b n c : Nat) (a : Option Addr) (ws : List Int) (w : World) (hl : ws.length = n) (hn : n ≤ 24)
    (y0 : w.cell? ⟨Y, 0, none⟩ = some (.slice (some ⟨b, 0, none⟩) 1 1)) (y1 : w.cell? ⟨Y, 1, none⟩ = some (.slice a n c))
    (hz : w.cell? ⟨b, 0, none⟩ = some (.int .i64 0)) (hc : RdI lo hi w (.slice a n c) ws) :
    Calls Try.prog 128 #[.slice (some ⟨Y, 0, none⟩) 2 2] w fun e w' => ∃ v, e = .returned v ∧ w'.ownsRow w.heap.size 2 1 v (1 + n) ((0 :: ws).map (Value.int .i64)) ∧ Below w.heap.size w w' := by
  obtain ⟨i0, hi', z0, z1, z2⟩ := info_parts Try.info2
  have HC := Lib.hid (fun W (hB : Below w.heap.size w W) => (hc.below hB).cells hl)
  have HL := Lib.hid hl
  clear hc hl
  go_enter Try.func128, Try.ntmps128
  go_wp2
  go_loopw [11, 3] (fun i v wr => ∃ q : Nat, q ≤ 2 ∧ i = .int .i64 q ∧ v = .int .i64 (szJ n q) ∧ Qt w wr) (fun i _ _ => 2 - (intOf i).toNat)
  case atStart => exact ⟨0, by omega, rfl, rfl, Qt.refl _⟩
  case round =>
    obtain ⟨q, hq, rfl, rfl, hqt⟩ := hrel
    have k0 := hqt.below.keep y0
    have k1 := hqt.below.keep y1
    rcases (show q = 0 ∨ q = 1 ∨ q = 2 by omega) with rfl | rfl | rfl
    · have e0 : szJ n 0 = 0 := rfl
      rw [e0]
      go_wp2
      go_roundw
      case rel => exact ⟨1, by omega, rfl, by simp [szJ], hqt⟩
      case measure => simp [intOf]
    · have e0 : szJ n 1 = 1 := rfl
      have hnn : ¬ (1 + (n : Int) < 0) := by omega
      have hw1 : IntKind.i64.wrap (1 + (n : Int)) = 1 + (n : Int) := IntWalk.i64_in _ (by omega)
      have hw2 : wrap64 (1 + (n : Int)) = 1 + (n : Int) := IntWalk.wrap64_in _ (by clear hw1; omega)
      rw [e0]
      go_wp2
      clear hw1 hw2
      go_roundw
      case rel => exact ⟨2, by omega, rfl, by simp [szJ], hqt⟩
      case measure => simp [intOf]
    · obtain ⟨U, rfl⟩ : ∃ U, U = wr := ⟨_, rfl⟩
      have e0 : ((szJ n 2 : Nat) : Int) = ((1 + n : Nat) : Int) := rfl
      rw [e0]
      have HQ := Lib.hid hqt
      clear k0 k1 hqt e0
      go_wp2_with fail
      refine (slGrowO (1 + n) (by omega) (by omega) _).mono ?_
      rintro e w1 ⟨G, rfl, hG, o1, b1⟩
      have hB := HQ.out.below.next b1
      have hbase : w.heap.size ≤ U.heap.size := HQ.out.below.size
      have HO := Lib.hid o1
      have HBB := Lib.hid b1
      clear o1 b1
      go_wp2
      go_loopw [27, 6] (fun i v wr' => ∃ (q m : Nat) (u : Value), q ≤ 2 ∧ i = .int .i64 q ∧ m = szJ n q ∧ u = v ∧ wr'.ownsRow U.heap.size 2 1 u m (catJ ws q) ∧ Below U.heap.size U wr') (fun i _ _ => 2 - (intOf i).toNat)
      case atStart => exact ⟨0, 0, _, by omega, rfl, rfl, rfl, HO.out, HBB.out⟩
      case round =>
        rename_i hrel
        obtain ⟨q, m, vv, hq, rfl, hm, rfl, hown, hB'⟩ := hrel
        have hBw := HQ.out.below.next hB'
        have k0 := hBw.keep y0
        have k1 := hBw.keep y1
        have hwz := hB'.size
        rcases (show q = 0 ∨ q = 1 ∨ q = 2 by omega) with rfl | rfl | rfl
        · obtain rfl : m = 0 := hm
          have g0 := hBw.keep hz
          go_wp2_with (at_builtin; refine wpList_append_own _ rfl _ _ 37 rfl U.heap.size 2 i0 (.int .i64 0) 1 8 Try.underlying37 hi' z0 z1 z2 rfl (by decide) _ _ _ rfl hown ⟨b, 0, none⟩ 1 1 [.int .i64 0] rfl rfl (fun j u hj => by cases j with | zero => (simp at hj; subst hj; exact g0) | succ j => simp at hj) (fun u hu => by simp at hu; subst hu; rfl) (by unfold maxLen; omega) (by omega) hwz ?_; intro v3 w3 hown3 hgr _)
          have e9 : catJ ws 0 ++ [.int .i64 0] = catJ ws 1 := rfl
          rw [e9] at hown3
          have hB3 := hB'.grown hgr hwz (fun j hj => (hown.lt j hj).1)
          have HF := Lib.hid (⟨hown3, hB3⟩ : _ ∧ _)
          clear hown hB' hgr hown3 hB3
          go_roundw
          case rel => exact ⟨1, 1, _, by omega, rfl, rfl, rfl, HF.out⟩
          case measure => simp [intOf]
        · obtain rfl : m = 1 := hm
          have e9 : catJ ws 1 ++ ws.map (Value.int .i64) = catJ ws 2 := rfl
          by_cases hn0 : n = 0
          · subst hn0
            have hws : ws = [] := List.length_eq_zero_iff.1 HL.out
            have e8 : catJ ws 2 = catJ ws 1 := by rw [hws]; rfl
            rw [← e8] at hown
            have HF := Lib.hid (⟨hown, hB'⟩ : _ ∧ _)
            go_wp2_with (at_builtin; refine wpList_append_zero rfl _ _ 37 rfl U.heap.size 2 i0 1 Try.underlying37 hi' _ _ _ rfl hown _ _ rfl ?_)
            clear hown hB'
            go_roundw
            case rel => exact ⟨vv, _, .int .i64 2, _, _, _, _, _, _, _, ⟨2, 1, vv, by omega, rfl, rfl, rfl, HF.out⟩, rfl⟩
            case measure => simp [intOf]
          · obtain ⟨b2, off2, rfl, _⟩ := HC.out wr hBw 0 (by omega)
            have hnews : ∀ j u, (ws.map (Value.int .i64))[j]? = some u → wr.cell? ((⟨b2, off2, none⟩ : Addr).add j) = some u := fun j u hj => by
              have hjn : j < n := by
                have := (List.getElem?_eq_some_iff.1 hj).1
                rw [List.length_map, HL.out] at this; exact this
              rw [List.getElem?_map, List.getElem?_eq_getElem (by rw [HL.out]; exact hjn)] at hj
              simp only [Option.map_some, Option.some.injEq] at hj
              obtain ⟨b3, off3, hbe, hcl⟩ := HC.out wr hBw j hjn
              simp only [Option.some.injEq, Addr.mk.injEq, and_true] at hbe
              obtain ⟨rfl, rfl⟩ := hbe
              rw [← hj, Addr.add_lit]
              simpa [List.getD, List.getElem?_eq_getElem (show j < ws.length by rw [HL.out]; exact hjn)] using hcl
            have hone : ∀ u ∈ ws.map (Value.int .i64), u.oneCell' = true := fun u hu => by
              obtain ⟨x, _, rfl⟩ := List.mem_map.1 hu
              rfl
            go_wp2_with (at_builtin; refine wpList_append_own _ rfl _ _ 37 rfl U.heap.size 2 i0 (.int .i64 0) 1 8 Try.underlying37 hi' z0 z1 z2 rfl (by decide) _ _ _ rfl hown ⟨b2, off2, none⟩ n c (ws.map (Value.int .i64)) rfl (by rw [List.length_map, HL.out, Nat.mul_one]) hnews hone (by unfold maxLen; omega) (by omega) hwz ?_; intro v3 w3 hown3 hgr _)
            rw [e9] at hown3
            have hB3 := hB'.grown hgr hwz (fun j hj => (hown.lt j hj).1)
            have HF := Lib.hid (⟨hown3, hB3⟩ : _ ∧ _)
            clear hown hB' hgr hown3 hB3 hnews hone
            go_roundw
            case rel => exact ⟨2, 1 + n, _, by omega, rfl, rfl, rfl, HF.out⟩
            case measure => simp [intOf]
        · obtain rfl : m = 1 + n := hm
          have HF := Lib.hid (⟨ownsRow_mono hown hbase, hBw⟩ : wr.ownsRow w.heap.size 2 1 vv (1 + n) (catJ ws 2) ∧ Below w.heap.size w wr)
          clear hown hB' hBw k0 k1
          go_wp2
          go_ret
          exact ⟨vv, rfl, HF.out⟩

end Go.Proofs.Ytebgbplhcaocoaa
