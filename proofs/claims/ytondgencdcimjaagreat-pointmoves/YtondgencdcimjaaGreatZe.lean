/-
  The document's answer for layer 3: the sum of two wide bounds, and the wide cells of a row.
-/
import Derived.Test.YtondgencdcimjaaGreatZd
import Derived.Laws.BitsLemmas
import Derived.Laws.OwnMore
import Derived.Deep.OwnRows
import Derived.Deep.RegionLaw
namespace Go.Proofs.YtondgencdcimjaaGreat
open Go.RowKit
set_option linter.unusedVariables false
set_option maxRecDepth 100000
theorem i64_and1 (n : Int) : bits .and .i64 n 1 = n % 2 := by
  have h1 : (BitVec.ofInt 64 1).toNat = 2 ^ 1 - 1 := by decide
  have key : (BitVec.ofInt 64 n &&& BitVec.ofInt 64 1).toNat = (n % ((2 ^ 64 : Nat) : Int)).toNat % 2 ^ 1 := by
    rw [BitVec.toNat_and, BitVec.toNat_ofInt, h1, Nat.and_two_pow_sub_one_eq_mod]
  show IntKind.i64.wrap ((BitVec.ofInt 64 n &&& BitVec.ofInt 64 1).toNat : Nat) = n % 2
  rw [key, IntKind.wrap_i64]
  omega
theorem i64_or_odd (a b : Int) : bits .or .i64 a b % 2 = if a % 2 = 1 ∨ b % 2 = 1 then 1 else 0 := by
  have key : (BitVec.ofInt 64 a ||| BitVec.ofInt 64 b).toNat % 2 = 1 ↔ (a % ((2 ^ 64 : Nat) : Int)).toNat % 2 = 1 ∨ (b % ((2 ^ 64 : Nat) : Int)).toNat % 2 = 1 := by
    rw [BitVec.toNat_or, BitVec.toNat_ofInt, BitVec.toNat_ofInt, Nat.or_mod_two_eq_one]
  show IntKind.i64.wrap ((BitVec.ofInt 64 a ||| BitVec.ofInt 64 b).toNat : Nat) % 2 = _
  rw [IntKind.wrap_i64]
  generalize (BitVec.ofInt 64 a ||| BitVec.ofInt 64 b).toNat = x at *
  split <;> omega
def rplus (a b : Int) : Int := if a = opn ∨ b = opn then opn else if ¬ a.tmod 2 = 0 ∨ ¬ b.tmod 2 = 0 then wrap64 (wrap64 (a + b) - 1) else wrap64 (a + b)
theorem wrap_wrap (x : Int) : wrap64 (wrap64 x - 0) = wrap64 x := by unfold wrap64; omega
theorem rplus_eq (a b : Int) : rplus a b = dplus a b := by
  unfold rplus dplus
  split
  · rfl
  · rw [i64_and1, i64_or_odd]
    have ha : (¬ a.tmod 2 = 0) ↔ a % 2 = 1 := by have := Int.emod_two_eq a; have := Int.mul_tdiv_add_tmod a 2; have := Int.lt_tmod_of_pos a (show (0 : Int) < 2 by decide); have := Int.tmod_lt_of_pos a (show (0 : Int) < 2 by decide); omega
    have hb : (¬ b.tmod 2 = 0) ↔ b % 2 = 1 := by have := Int.emod_two_eq b; have := Int.mul_tdiv_add_tmod b 2; have := Int.lt_tmod_of_pos b (show (0 : Int) < 2 by decide); have := Int.tmod_lt_of_pos b (show (0 : Int) < 2 by decide); omega
    simp only [ha, hb]
    split
    · rfl
    · exact (wrap_wrap _).symm
theorem rplus_any (a b : Int) (w : World) :
    Calls Tryz.prog 178 #[.int .i64 a, .int .i64 b] w fun e w' => e = .returned (.int .i64 (dplus a b)) ∧ w' = w := by
  rw [← rplus_eq]
  by_cases h : a = opn
  · have e : rplus a b = opn := by simp [rplus, h]
    rw [e]
    clear e
    unfold opn at *
    go_enter Tryz.func178, Tryz.ntmps178
    go_wp2
    all_goals go_ret
    all_goals first | exact ⟨rfl, rfl⟩ | (exfalso; omega) | (exfalso; simp_all; done) | (rename_i hh; exfalso; simp at hh; omega)
  · by_cases h1 : b = opn
    · have e : rplus a b = opn := by simp [rplus, h1]
      rw [e]
      clear e
      unfold opn at *
      go_enter Tryz.func178, Tryz.ntmps178
      go_wp2
      all_goals go_ret
      all_goals first | exact ⟨rfl, rfl⟩ | (exfalso; omega) | (exfalso; simp_all; done) | (rename_i hh; exfalso; simp at hh; omega)
    · have e : rplus a b = if ¬ a.tmod 2 = 0 ∨ ¬ b.tmod 2 = 0 then wrap64 (wrap64 (a + b) - 1) else wrap64 (a + b) := by simp [rplus, h, h1]
      rw [e]
      clear e
      unfold opn at *
      have t1 : (a == 4611686018427387904) = false := by simpa using h
      have t2 : (b == 4611686018427387904) = false := by simpa using h1
      clear h h1
      by_cases ca : a.tmod 2 = 0
      · by_cases cb : b.tmod 2 = 0
        · rw [if_neg (by omega)]
          go_enter Tryz.func178, Tryz.ntmps178
          go_wp2
          all_goals go_ret
          all_goals first | exact ⟨rfl, rfl⟩ | (exfalso; simp_all; done)
        · rw [if_pos (by omega)]
          have cb' : (b.tmod 2 != 0) = true := by simpa using cb
          go_enter Tryz.func178, Tryz.ntmps178
          go_wp2
          all_goals go_ret
          all_goals first | exact ⟨rfl, rfl⟩ | (exfalso; simp_all; done)
      · rw [if_pos (by omega)]
        have ca' : (a.tmod 2 != 0) = true := by simpa using ca
        go_enter Tryz.func178, Tryz.ntmps178
        go_wp2
        all_goals go_ret
        all_goals first | exact ⟨rfl, rfl⟩ | (exfalso; simp_all; done)
end Go.Proofs.YtondgencdcimjaaGreat

/-
  The document's answer for layer 3: the wide cells of a row.
-/
namespace Go.Proofs.YtondgencdcimjaaGreat
open Go.RowKit
set_option linter.unusedVariables false
set_option maxRecDepth 100000
theorem info_i64 : (Tryz.prog.info? 2).map (fun i => (i.zero, i.size, i.bytes)) = some (some (.int .i64 0), 1, 8) := by kernel_rfl
def wideV (x : Int) : Int := if x = 2147483647 then 4611686018427387904 else x
def wideL (l : List Int) (k : Nat) : List Int := (l.take k).map wideV
theorem wideL_next (l : List Int) (k : Nat) (h : k < l.length) : wideL l (k + 1) = wideL l k ++ [wideV (l.getD k 0)] := by
  unfold wideL
  rw [List.take_succ_eq_append_getElem h, List.map_append]
  congr 1
  simp [List.getD, h]
theorem wideL_len (l : List Int) (k : Nat) (h : k ≤ l.length) : (wideL l k).length = k := by simp [wideL]; omega
set_option maxHeartbeats 2000000 in
theorem wide_any (cb off cap : Nat) (l : List Int) (w : World) (hl : l.length ≤ 81) (hR : RowAt w cb off l) (hcb : cb < w.heap.size) (hi : ∀ j, j < l.length → -2147483648 ≤ l.getD j 0 ∧ l.getD j 0 ≤ 2147483647) :
    Calls Tryz.prog 125 #[.slice (some ⟨cb, off, none⟩) l.length cap] w fun e w' => ∃ v, e = .returned v ∧ w'.ownsRow w.heap.size 2 1 v l.length ((wideL l l.length).map (Value.int .i64)) ∧ Below w.heap.size w w' := by
  obtain ⟨i0, hi0, hz0, hz1, hz2⟩ := info_parts info_i64
  have HI := hideD hi
  have HR := hideD hR
  clear hi hR
  have hl1 : (l.length : Int) ≤ 81 := by omega
  go_enter Tryz.func125, Tryz.ntmps125
  go_wp2_with fail
  go_loopw [3, 4] (fun v i wr => ∃ k : Nat, k ≤ l.length ∧ i = .int .i64 k ∧ Hid (wr.ownsRow w.heap.size 2 1 v k ((wideL l k).map (Value.int .i64))) ∧ Hid (Below w.heap.size w wr)) (fun _ i _ => l.length - (intOf i).toNat)
  case atStart => exact ⟨0, Nat.zero_le _, rfl, World.ownsRow_nil _ _ _ _, Below.refl _ _⟩
  case round =>
    obtain ⟨k, hk, rfl, hown, hB⟩ := hrel
    by_cases hlt : k < l.length
    · have hcell := (HR.out.later hB.out hcb) k hlt
      obtain ⟨x0, x1⟩ := HI.out k hlt
      have nx := hideD (wideL_next l k hlt)
      have hsz := hB.out.size
      generalize l.getD k 0 = x at *
      by_cases cx : x = 2147483647
      · have ew : wideV x = 4611686018427387904 := by simp [wideV, cx]
        rw [ew] at nx
        subst cx
        have HN : Hid (∀ j u, [Value.int .i64 4611686018427387904][j]? = some u → (wr.alloc (.cells #[.int .i64 4611686018427387904] 2)).cell? ((⟨wr.heap.size, 0, none⟩ : Addr).add j) = some u) := by
          intro j u hj
          match j, hj with
          | 0, hj => simp at hj; subst hj; simp [Addr.add]
        go_wp2_with (at_builtin; refine wpList_append_own _ rfl _ _ 106 rfl w.heap.size 2 i0 (.int .i64 0) 1 8 Tryz.underlying106 hi0 hz0 hz1 hz2 rfl (by decide) _ k ((wideL l k).map (Value.int .i64)) rfl (hown.out.alloc _) ⟨wr.heap.size, 0, none⟩ 1 1 [.int .i64 4611686018427387904] rfl rfl HN.out (fun u hu => by simp at hu; subst hu; rfl) (by unfold maxLen; omega) (by omega) (by simp; omega) ?_; intro v' w1 hown' hgrow hnil)
        have hb1 : Below w.heap.size w w1 := (hB.out.alloc hsz _).grown hgrow (by simp; omega) (by intro q hq; exact (hown.out.lt q hq).1)
        have ho := hideD hown'
        have hb2 := hideD hb1
        have nx' : Hid (w1.ownsRow w.heap.size 2 1 v' (k + 1) ((wideL l (k + 1)).map (Value.int .i64))) := by
          show w1.ownsRow _ _ _ _ _ _
          rw [nx.out, List.map_append]
          exact ho.out
        clear hown' hgrow hnil hb1 ho nx hown HN
        go_wp2_with fail
        go_roundw
        case rel => exact ⟨k + 1, by omega, by go_num, nx', hb2⟩
        case measure => simp [intOf]; omega
      · have ew : wideV x = x := by simp [wideV, cx]
        rw [ew] at nx
        have ex : wrap64 x = x := by unfold wrap64; omega
        have cx' : (x == 2147483647) = false := by simpa using cx
        have HN : Hid (∀ j u, [Value.int .i64 x][j]? = some u → (wr.alloc (.cells #[.int .i64 x] 2)).cell? ((⟨wr.heap.size, 0, none⟩ : Addr).add j) = some u) := by
          intro j u hj
          match j, hj with
          | 0, hj => simp at hj; subst hj; simp [Addr.add]
        go_wp2_with (at_builtin; refine wpList_append_own _ rfl _ _ 106 rfl w.heap.size 2 i0 (.int .i64 0) 1 8 Tryz.underlying106 hi0 hz0 hz1 hz2 rfl (by decide) _ k ((wideL l k).map (Value.int .i64)) rfl (hown.out.alloc _) ⟨wr.heap.size, 0, none⟩ 1 1 [.int .i64 x] rfl rfl HN.out (fun u hu => by simp at hu; subst hu; rfl) (by unfold maxLen; omega) (by omega) (by simp; omega) ?_; intro v' w1 hown' hgrow hnil)
        have hb1 : Below w.heap.size w w1 := (hB.out.alloc hsz _).grown hgrow (by simp; omega) (by intro q hq; exact (hown.out.lt q hq).1)
        have ho := hideD hown'
        have hb2 := hideD hb1
        have nx' : Hid (w1.ownsRow w.heap.size 2 1 v' (k + 1) ((wideL l (k + 1)).map (Value.int .i64))) := by
          show w1.ownsRow _ _ _ _ _ _
          rw [nx.out, List.map_append]
          exact ho.out
        clear hown' hgrow hnil hb1 ho nx hown HN
        go_wp2_with fail
        go_roundw
        case rel => exact ⟨k + 1, by omega, by go_num, nx', hb2⟩
        case measure => simp [intOf]; omega
    · have st : Hid (k = l.length) := by show k = _; omega
      go_wp2_with fail
      go_ret
      refine ⟨_, rfl, ?_, hB.out⟩
      have e := st.out
      subst e
      exact hown.out
end Go.Proofs.YtondgencdcimjaaGreat

/-
  The document's answer for layer 3: the closed form of wide cells.
-/
namespace Go.Proofs.YtondgencdcimjaaGreat
open Go.RowKit
set_option linter.unusedVariables false
set_option maxRecDepth 100000
/-- A matrix of wide cells in a row of memory. -/
structure MatAt (w : World) (g n : Nat) (r : Mat) : Prop where
  cell : ∀ i j, i ≤ n → j ≤ n → w.cell? ⟨g, i * (n + 1) + j, none⟩ = some (.int .i64 (r i j))
  free : ∀ i j, i ≤ n → j ≤ n → w.frozen? ⟨g, i * (n + 1) + j, none⟩ = false
theorem pos_inj {n i j a c : Nat} (hj : j ≤ n) (hc : c ≤ n) (h : i * (n + 1) + j = a * (n + 1) + c) : i = a ∧ j = c := by
  have h1 : (i * (n + 1) + j) / (n + 1) = i := by rw [Nat.mul_comm, Nat.mul_add_div (by omega), Nat.div_eq_of_lt (by omega)]; rfl
  have h2 : (a * (n + 1) + c) / (n + 1) = a := by rw [Nat.mul_comm, Nat.mul_add_div (by omega), Nat.div_eq_of_lt (by omega)]; rfl
  have e : i = a := by rw [← h1, h, h2]
  subst e
  exact ⟨rfl, by omega⟩
theorem pos_lt {n i j : Nat} (hi : i ≤ n) (hj : j ≤ n) : i * (n + 1) + j < (n + 1) * (n + 1) := by
  have := Nat.mul_le_mul_right (n + 1) (show i + 1 ≤ n + 1 by omega)
  rw [Nat.add_mul] at this
  omega
theorem MatAt.set {w : World} {g n : Nat} {r : Mat} (h : MatAt w g n r) {i j : Nat} (hi : i ≤ n) (hj : j ≤ n) (v : Int) : MatAt (w.setCell ⟨g, i * (n + 1) + j, none⟩ (.int .i64 v)) g n (upd r i j v) := by
  refine ⟨?_, ?_⟩
  · intro a c ha hc
    by_cases e : a = i ∧ c = j
    · obtain ⟨rfl, rfl⟩ := e
      rw [World.cell?_setCell_same _ _ _ (h.cell a c ha hc)]
      simp [upd]
    · rw [World.cell?_setCell_other _ _ _ _ (by intro q; injection q with q1 q2; exact e ⟨(pos_inj hj hc q2).1.symm, (pos_inj hj hc q2).2.symm⟩), h.cell a c ha hc]
      simp [upd, e]
  · intro a c ha hc
    rw [World.frozen?_setCell]
    exact h.free a c ha hc
theorem MatAt.drewN {w : World} {g n : Nat} {r : Mat} (h : MatAt w g n r) (k : Nat) : MatAt (w.drewN k) g n r := ⟨h.cell, h.free⟩
theorem MatAt.drew {w : World} {g n : Nat} {r : Mat} (h : MatAt w g n r) : MatAt w.drew g n r := ⟨h.cell, h.free⟩
def rcStep (k i j : Nat) (r : Mat) : Mat := if dplus (r i k) (r k j) < r i j then upd r i j (dplus (r i k) (r k j)) else r
def rcRow (k i : Nat) : Nat → Mat → Mat
  | 0, r => r
  | c + 1, r => rcStep k i c (rcRow k i c r)
def rcAll (k n : Nat) : Nat → Mat → Mat
  | 0, r => r
  | c + 1, r => rcRow k c (n + 1) (rcAll k n c r)
def rcl (n : Nat) : Nat → Mat → Option Mat
  | 0, r => some r
  | c + 1, r => (rcl n c r).bind fun q => if diagOk n (rcAll c n (n + 1) q) (n + 1) then some (rcAll c n (n + 1) q) else none
theorem rcl_none {n : Nat} {r : Mat} : ∀ {c : Nat} (d : Nat), c ≤ d → rcl n c r = none → rcl n d r = none := by
  intro c d h e
  induction d with
  | zero => obtain rfl : c = 0 := by omega
            exact e
  | succ d ih =>
    by_cases q : c = d + 1
    · subst q; exact e
    · simp [rcl, ih (by omega)]
set_option maxHeartbeats 2000000 in
theorem rclose_raw (g n m cap : Nat) (r : Mat) (w : World) (h : n ≤ 8) (hm : Hid (m = (n + 1) * (n + 1))) (hM : MatAt w g n r) :
    Calls Tryz.prog 160 #[.int .i64 n, .slice (some ⟨g, 0, none⟩) m cap] w fun e w' => e = .returned (.bool (rcl n (n + 1) r).isSome) ∧ Below g w w' ∧ (∃ s, MatAt w' g n s ∧ ∀ s', rcl n (n + 1) r = some s' → s' = s) := by
  have HM := hideD hM
  clear hM
  go_enter Tryz.func160, Tryz.ntmps160
  go_wp2_with fail
  go_loopw [5] (fun s wr => ∃ (K : Nat) (q : Mat), K ≤ n + 1 ∧ s = .int .i64 K ∧ Hid (rcl n K r = some q) ∧ Hid (MatAt wr g n q) ∧ Hid (Below g w wr)) (fun s _ => n + 1 - (intOf s).toNat)
  case atStart => exact ⟨0, r, by omega, rfl, rfl, HM, Below.refl _ _⟩
  case round =>
    obtain ⟨K, q, hK, rfl, hq, hM, hB⟩ := hrel
    by_cases ck : K ≤ n
    · go_wp2_with fail
      go_loopw [6] (fun s wr => ∃ (I : Nat), I ≤ n + 1 ∧ s = .int .i64 I ∧ Hid (MatAt wr g n (rcAll K n I q)) ∧ Hid (Below g w wr)) (fun s _ => n + 1 - (intOf s).toNat)
      case atStart => exact ⟨0, by omega, rfl, hM, hB⟩
      case round =>
        obtain ⟨I, hI, rfl, hM, hB⟩ := hrel
        by_cases ci : I ≤ n
        · go_wp2_with fail
          go_loopw [7] (fun s wr => ∃ (J : Nat), J ≤ n + 1 ∧ s = .int .i64 J ∧ Hid (MatAt wr g n (rcRow K I J (rcAll K n I q))) ∧ Hid (Below g w wr)) (fun s _ => n + 1 - (intOf s).toNat)
          case atStart => exact ⟨0, by omega, rfl, hM, hB⟩
          case round =>
            obtain ⟨J, hJ, rfl, hM, hB⟩ := hrel
            by_cases cj : J ≤ n
            · have h1 := hM.out.cell I K ci ck
              have h2 := hM.out.cell K J ck cj
              have h3 := hM.out.cell I J ci cj
              have h4 := hM.out.free I J ci cj
              have l1 := pos_lt ci ck
              have l2 := pos_lt ck cj
              have l3 := pos_lt ci cj
              have q81 : (n + 1) * (n + 1) ≤ 81 := Nat.mul_le_mul (show n + 1 ≤ 9 by omega) (show n + 1 ≤ 9 by omega)
              rw [← hm.out] at l1 l2 l3 q81
              obtain ⟨p, hp⟩ : ∃ p, p = rcRow K I J (rcAll K n I q) := ⟨_, rfl⟩
              have ST : Hid (rcRow K I (J + 1) (rcAll K n I q) = rcStep K I J p) := by show rcRow K I (J + 1) (rcAll K n I q) = _; rw [hp]; rfl
              rw [← hp] at hM h1 h2 h3
              clear hp
              have e1 : IntKind.i64.wrap ((I : Int) * ((n : Int) + 1)) = ((I * (n + 1) : Nat) : Int) := by
                have : (I : Int) * ((n : Int) + 1) = ((I * (n + 1) : Nat) : Int) := by simp
                rw [this, IntKind.wrap_i64]
                generalize I * (n + 1) = z at *
                omega
              have e2 : IntKind.i64.wrap ((K : Int) * ((n : Int) + 1)) = ((K * (n + 1) : Nat) : Int) := by
                have : (K : Int) * ((n : Int) + 1) = ((K * (n + 1) : Nat) : Int) := by simp
                rw [this, IntKind.wrap_i64]
                generalize K * (n + 1) = z at *
                omega
              have SE := hideD (fun k v => (hM.out.drewN k).set ci cj v)
              generalize I * (n + 1) = a at *
              generalize K * (n + 1) = b at *
              have e3 : (0 : Int) ≤ (a : Int) := by omega
              have e4 : (0 : Int) ≤ (b : Int) := by omega
              have e5 : (a : Int) + (K : Int) < (m : Int) := by omega
              have e6 : (b : Int) + (J : Int) < (m : Int) := by omega
              have e7 : (a : Int) + (J : Int) < (m : Int) := by omega
              have e8 : (m : Int) ≤ 81 := by omega
              have HP : Hid (∀ w, Calls Tryz.prog 178 #[.int .i64 (p I K), .int .i64 (p K J)] w fun e w' => e = .returned (.int .i64 (dplus (p I K) (p K J))) ∧ w' = w) := fun w => rplus_any _ _ w
              have ST2 : Hid (rcStep K I J p = if dplus (p I K) (p K J) < p I J then upd p I J (dplus (p I K) (p K J)) else p) := rfl
              generalize p I K = x at *
              generalize p K J = y at *
              generalize p I J = z at *
              generalize dplus x y = s at *
              by_cases cz : s < z
              · rw [if_pos cz] at ST2
                go_wp2_with fail
                go_quiet ((go_at_call 178; exact Calls.quiet_of_same (HP.out _)))
                go_wp2_with fail
                go_roundw
                case rel => exact ⟨J + 1, by omega, by go_num, by rw [ST.out, ST2.out]; exact SE.out _ _, (below_drewN hB.out _).setCell (Nat.le_refl _) _⟩
                case measure => simp [intOf]; omega
              · rw [if_neg cz] at ST2
                go_wp2_with fail
                go_quiet ((go_at_call 178; exact Calls.quiet_of_same (HP.out _)))
                go_wp2_with fail
                go_roundw
                case rel => exact ⟨J + 1, by omega, by go_num, by rw [ST.out, ST2.out]; exact hM.out.drewN _, below_drewN hB.out _⟩
                case measure => simp [intOf]; omega
            · have hM' : Hid (MatAt wr g n (rcAll K n (I + 1) q)) := by
                obtain rfl : J = n + 1 := by omega
                exact hM
              clear hM
              go_wp2_with fail
              go_roundw
              case rel => exact ⟨I + 1, by omega, by go_num, hM', hB⟩
              case measure => simp [intOf]; omega
        · have hM' : Hid (MatAt wr g n (rcAll K n (n + 1) q)) := by
            obtain rfl : I = n + 1 := by omega
            exact hM
          have ST : Hid (rcl n (K + 1) r = if diagOk n (rcAll K n (n + 1) q) (n + 1) then some (rcAll K n (n + 1) q) else none) := by show rcl n (K + 1) r = _; simp [rcl, hq.out]
          clear hM
          generalize rcAll K n (n + 1) q = p at *
          go_wp2_with fail
          go_loopw [9] (fun s wr => ∃ (I : Nat), I ≤ n + 1 ∧ s = .int .i64 I ∧ Hid (diagOk n p I = true) ∧ Hid (MatAt wr g n p) ∧ Hid (Below g w wr)) (fun s _ => n + 1 - (intOf s).toNat)
          case atStart => exact ⟨0, by omega, rfl, rfl, hM', hB⟩
          case round =>
            obtain ⟨I2, hI2, rfl, hd, hM, hB⟩ := hrel
            by_cases ci2 : I2 ≤ n
            · have h1 := hM.out.cell I2 I2 ci2 ci2
              have l1 := pos_lt ci2 ci2
              have q81 : (n + 1) * (n + 1) ≤ 81 := Nat.mul_le_mul (show n + 1 ≤ 9 by omega) (show n + 1 ≤ 9 by omega)
              rw [← hm.out] at l1 q81
              have st : Hid (diagOk n p (I2 + 1) = decide (1 ≤ p I2 I2)) := by show diagOk n p (I2 + 1) = _; simp [diagOk, hd.out]
              have e1 : IntKind.i64.wrap ((I2 : Int) * ((n : Int) + 1)) = ((I2 * (n + 1) : Nat) : Int) := by
                have : (I2 : Int) * ((n : Int) + 1) = ((I2 * (n + 1) : Nat) : Int) := by simp
                rw [this, IntKind.wrap_i64]
                generalize I2 * (n + 1) = z at *
                omega
              generalize I2 * (n + 1) = a at *
              have e3 : (0 : Int) ≤ (a : Int) := by omega
              have e5 : (a : Int) + (I2 : Int) < (m : Int) := by omega
              have e8 : (m : Int) ≤ 81 := by omega
              generalize p I2 I2 = x at *
              by_cases cx : x < 1
              · have st3 : Hid (rcl n (n + 1) r = none) := by
                  show rcl n (n + 1) r = none
                  refine rcl_none (c := K + 1) (n + 1) (by omega) ?_
                  have e : diagOk n p (n + 1) = false := by
                    refine diagOk_false (c := I2 + 1) (n + 1) (by omega) ?_
                    rw [st.out, decide_eq_false (by omega)]
                  rw [ST.out, e]
                  rfl
                clear st ST hd
                go_wp2_with fail
                go_ret
                refine ⟨?_, hB.out, p, hM.out, fun s' e => ?_⟩
                · rw [st3.out]; rfl
                · rw [st3.out] at e; simp at e
              · have st3 : Hid (diagOk n p (I2 + 1) = true) := by show diagOk n p (I2 + 1) = true; rw [st.out, decide_eq_true (by omega)]
                clear st hd
                go_wp2_with fail
                go_roundw
                case rel => exact ⟨I2 + 1, by omega, by go_num, st3, hM, hB⟩
                case measure => simp [intOf]; omega
            · have st3 : Hid (rcl n (K + 1) r = some p) := by
                obtain rfl : I2 = n + 1 := by omega
                show rcl n (K + 1) r = _
                rw [ST.out, hd.out]
                rfl
              clear ST hd
              go_wp2_with fail
              go_roundw
              case rel => exact ⟨K + 1, p, by omega, by go_num, st3, hM, hB⟩
              case measure => simp [intOf]; omega
    · have st : Hid (rcl n (n + 1) r = some q) := by
        obtain rfl : K = n + 1 := by omega
        exact hq
      clear hq
      go_wp2_with fail
      go_ret
      refine ⟨?_, hB.out, q, hM.out, fun s' e => ?_⟩
      · rw [st.out]; rfl
      · rw [st.out] at e; injection e with e; exact e.symm
end Go.Proofs.YtondgencdcimjaaGreat

/-
  Both ways of closing are one: the program's, which gives up at the first clock that would be less than itself, and the document's, which looks behind each round.
-/
namespace Go.Proofs.YtondgencdcimjaaGreat
open Go.RowKit
set_option linter.unusedVariables false
def One (n : Nat) (p : Mat) : Prop := ∀ i, i ≤ n → p i i = 1
def Bad (n : Nat) (p : Mat) : Prop := ∃ i, i ≤ n ∧ p i i < 1
theorem rcStep_le (k i j : Nat) (p : Mat) (a : Nat) : rcStep k i j p a a ≤ p a a := by
  unfold rcStep
  split
  · unfold upd
    split
    · rename_i h e
      obtain ⟨rfl, rfl⟩ := e
      omega
    · omega
  · omega
theorem Bad.step {n : Nat} {p : Mat} (h : Bad n p) (k i j : Nat) : Bad n (rcStep k i j p) := by
  obtain ⟨a, ha, hb⟩ := h
  exact ⟨a, ha, by have := rcStep_le k i j p a; omega⟩
theorem Bad.row {n : Nat} {p : Mat} (h : Bad n p) (k i c : Nat) : Bad n (rcRow k i c p) := by
  induction c with
  | zero => exact h
  | succ c ih => exact ih.step _ _ _
theorem Bad.all {n : Nat} {p : Mat} (h : Bad n p) (k m c : Nat) : Bad n (rcAll k m c p) := by
  induction c with
  | zero => exact h
  | succ c ih => exact ih.row _ _ _
theorem step_both {n : Nat} {p : Mat} (h : One n p) (k i j : Nat) (hi : i ≤ n) (hj : j ≤ n) :
    (cbStep k i j p = some (rcStep k i j p) ∧ One n (rcStep k i j p)) ∨ (cbStep k i j p = none ∧ Bad n (rcStep k i j p)) := by
  unfold cbStep rcStep
  by_cases c : p i j ≤ dplus (p i k) (p k j)
  · rw [if_pos c, if_neg (by omega)]
    exact .inl ⟨rfl, h⟩
  · have c' : dplus (p i k) (p k j) < p i j := by omega
    rw [if_neg c, if_pos c']
    by_cases e : i = j
    · subst e
      rw [if_pos rfl]
      refine .inr ⟨rfl, i, hi, ?_⟩
      have := h i hi
      simp [upd]
      omega
    · rw [if_neg e]
      refine .inl ⟨rfl, fun a ha => ?_⟩
      have : ¬ (a = i ∧ a = j) := by omega
      simp [upd, this]
      exact h a ha
theorem row_both {n : Nat} {p : Mat} (h : One n p) (k i : Nat) (hi : i ≤ n) (c : Nat) (hc : c ≤ n + 1) :
    (cbRow k i c p = some (rcRow k i c p) ∧ One n (rcRow k i c p)) ∨ (cbRow k i c p = none ∧ Bad n (rcRow k i c p)) := by
  induction c with
  | zero => exact .inl ⟨rfl, h⟩
  | succ c ih =>
    rcases ih (by omega) with ⟨e, o⟩ | ⟨e, b⟩
    · rcases step_both o k i c hi (by omega) with ⟨e2, o2⟩ | ⟨e2, b2⟩
      · exact .inl ⟨by simp [cbRow, e, e2, rcRow], o2⟩
      · exact .inr ⟨by simp [cbRow, e, e2], b2⟩
    · exact .inr ⟨by simp [cbRow, e], b.step _ _ _⟩
theorem all_both {n : Nat} {p : Mat} (h : One n p) (k c : Nat) (hc : c ≤ n + 1) :
    (cbAll k n c p = some (rcAll k n c p) ∧ One n (rcAll k n c p)) ∨ (cbAll k n c p = none ∧ Bad n (rcAll k n c p)) := by
  induction c with
  | zero => exact .inl ⟨rfl, h⟩
  | succ c ih =>
    rcases ih (by omega) with ⟨e, o⟩ | ⟨e, b⟩
    · rcases row_both o k c (by omega) (n + 1) (Nat.le_refl _) with ⟨e2, o2⟩ | ⟨e2, b2⟩
      · exact .inl ⟨by simp [cbAll, e, e2, rcAll], o2⟩
      · exact .inr ⟨by simp [cbAll, e, e2], b2⟩
    · exact .inr ⟨by simp [cbAll, e], b.row _ _ _⟩
theorem diagOk_iff (n : Nat) (p : Mat) (c : Nat) : diagOk n p c = true ↔ ∀ i, i < c → 1 ≤ p i i := by
  induction c with
  | zero => simp [diagOk]
  | succ c ih =>
    simp only [diagOk, Bool.and_eq_true, ih, decide_eq_true_eq]
    constructor
    · rintro ⟨a, b⟩ i hi
      by_cases e : i = c
      · subst e; exact b
      · exact a i (by omega)
    · intro h
      exact ⟨fun i hi => h i (by omega), h c (by omega)⟩
theorem One.ok {n : Nat} {p : Mat} (h : One n p) : diagOk n p (n + 1) = true := (diagOk_iff _ _ _).2 fun i hi => by have := h i (by omega); omega
theorem Bad.no {n : Nat} {p : Mat} (h : Bad n p) : diagOk n p (n + 1) = false := by
  cases e : diagOk n p (n + 1)
  · rfl
  · obtain ⟨i, hi, hb⟩ := h
    have := (diagOk_iff _ _ _).1 e i (by omega)
    omega
theorem rounds_both {n : Nat} {r : Mat} (h : One n r) (c : Nat) (hc : c ≤ n + 1) : clAll n c r = rcl n c r ∧ ∀ q, rcl n c r = some q → One n q := by
  induction c with
  | zero => exact ⟨rfl, fun q e => by simp [rcl] at e; subst e; exact h⟩
  | succ c ih =>
    obtain ⟨e, o⟩ := ih (by omega)
    cases er : rcl n c r with
    | none => simp [clAll, rcl, e, er]
    | some q =>
      rcases all_both (o q er) c (n + 1) (Nat.le_refl _) with ⟨e2, o2⟩ | ⟨e2, b2⟩
      · have k := o2.ok
        refine ⟨by simp [clAll, rcl, e, er, e2, k], fun q' h' => ?_⟩
        simp [rcl, er, k] at h'
        subst h'
        exact o2
      · have k := b2.no
        exact ⟨by simp [clAll, rcl, e, er, e2, k], fun q' h' => by simp [rcl, er, k] at h'⟩
/-- A matrix whose own differences are at most 0 is closed alike by both. -/
theorem close_both {n : Nat} {r : Mat} (h : ∀ i, i ≤ n → r i i ≤ 1) : closeR n r = rcl n (n + 1) r := by
  unfold closeR
  cases d : diagOk n r (n + 1)
  · simp only [Bool.false_eq_true, if_false]
    have b : Bad n r := by
      apply Classical.byContradiction
      intro hb
      have : diagOk n r (n + 1) = true := (diagOk_iff _ _ _).2 fun i hi => by
        apply Classical.byContradiction
        intro q
        exact hb ⟨i, by omega, by omega⟩
      rw [this] at d
      cases d
    symm
    refine rcl_none (c := 1) (n + 1) (by omega) ?_
    have k := (b.all 0 n (n + 1)).no
    simp [rcl, k]
  · simp only [if_true]
    have o : One n r := fun i hi => by
      have := (diagOk_iff _ _ _).1 d i (by omega)
      have := h i hi
      omega
    exact (rounds_both o (n + 1) (Nat.le_refl _)).1
end Go.Proofs.YtondgencdcimjaaGreat

/-
  The document's answer for layer 3: the empty zone.
-/
namespace Go.Proofs.YtondgencdcimjaaGreat
open Go.RowKit
set_option linter.unusedVariables false
set_option maxRecDepth 100000
/-- A zone of the document in memory: its clocks, and its cells in a row of their own. -/
def RZone (w : World) (B b n : Nat) (l : List Int) : Prop := ∃ g cap, w.cell? ⟨b, 0, none⟩ = some (.int .i64 n) ∧ w.cell? ⟨b, 1, none⟩ = some (.slice (some ⟨g, 0, none⟩) l.length cap) ∧ B ≤ b ∧ B ≤ g ∧ RowAt w g 0 l
theorem empty1_raw (n m : Nat) (w : World) (h : n ≤ 8) (hm : m = (n + 1) * (n + 1)) :
    Calls Tryz.prog 161 #[.int .i64 n] w fun e w' => (∃ b, e = .returned (.pointer (some ⟨b, 0, none⟩)) ∧ RZone w' w.heap.size b n (List.replicate m 0)) ∧ Below w.heap.size w w' := by
  have q81 : (n + 1) * (n + 1) ≤ 81 := Nat.mul_le_mul (show n + 1 ≤ 9 by omega) (show n + 1 ≤ 9 by omega)
  have e1 : IntKind.i64.wrap (((n : Int) + 1) * ((n : Int) + 1)) = (m : Int) := by
    have : ((n : Int) + 1) * ((n : Int) + 1) = (((n + 1) * (n + 1) : Nat) : Int) := by simp
    rw [this, ← hm, IntKind.wrap_i64]
    omega
  rw [← hm] at q81
  have hmk := run_make_row' (P := Tryz.prog) 59 93 (.int .i32 0) 4 Tryz.underlying59 info_bd rfl .i64 .i64 m (by omega) (by omega)
  clear hm
  go_enter Tryz.func161, Tryz.ntmps161
  go_wp2_with fail
  go_ret
  refine ⟨⟨w.heap.size + 1, rfl, w.heap.size, m, ?_, ?_, by omega, by omega, ?_⟩, ((Below.refl _ _).alloc (Nat.le_refl _) _).alloc (by simp) _⟩
  · simp [go_sem]
  · simp [go_sem]
  · intro j hj
    have hj' : j < m := by simpa using hj
    rw [World.cell?_alloc_past _ _ _ (by simp), World.cell?_alloc_at _ _ _ _ rfl]
    simp [madeCells, List.getD, hj', Nat.mod_one]

/-! ### made -/
theorem step_own {P : Program} {ops : Array Oper} {o : Oper} {a : Act} {w : World} {K : Act → World → Prop} {Q : Exit → Act → World → Prop} {E : Prop} (hgd : o.guard = none) (s x : Operand) (t : TypeId)
    (ho : o.op = .call { callee := .builtin .append, args := #[s, x], argTypes := #[t, t] })
    (base : Nat) (e : TypeId) (i : TypeInfo) (z : Value) (size bytes : Nat) (ht : P.underlying t = some (.slice e)) (hi : P.info? e = some i) (hz : i.zero = some z)
    (hsize : i.size = size) (hby : i.bytes = bytes) (hzs : z.cells.size = size) (hsz : 0 < size)
    (v : Value) (n : Nat) (xs : List Value) (hs : a.eval s = v) (hown : w.ownsRow base e size v n xs)
    (ad : Addr) (m c : Nat) (news : List Value) (hx : a.eval x = .slice (some ad) m c) (hl : news.length = m * size) (hnews : ∀ j u, news[j]? = some u → w.cell? (ad.add j) = some u) (h1 : ∀ u ∈ news, u.oneCell' = true)
    (h63 : n + m ≤ maxLen) (hbytes : (n + m) * bytes ≤ 140737488355328) (hbase : base ≤ w.heap.size)
    (hK : ∀ v' w', w'.ownsRow base e size v' (n + m) (xs ++ news) → w.grownBy w' v.ownBlock → K (a.put o.dst v') w') :
    if Region.wanted o (yielded ops a.tmps) = true then Oper.wp P o a w K Q else E := by
  have hw : Region.wanted o (yielded ops a.tmps) = true := by simp [Region.wanted, hgd]
  rw [if_pos hw]
  exact wp_append_own w s x t ho base e i z size bytes ht hi hz hsize hby hzs hsz v n xs hs hown ad m c news hx hl hnews h1 h63 hbytes hbase fun v' w' h2 h3 _ => hK v' w' h2 h3
theorem MatAt.cell0 {w : World} {g n : Nat} {r : Mat} (h : MatAt w g n r) {j : Nat} (hj : j ≤ n) : w.cell? ⟨g, j, none⟩ = some (.int .i64 (r 0 j)) ∧ w.frozen? ⟨g, j, none⟩ = false := by
  have a := h.cell 0 j (by omega) hj
  have b := h.free 0 j (by omega) hj
  simp only [Nat.zero_mul, Nat.zero_add] at a b
  exact ⟨a, b⟩
theorem MatAt.set0 {w : World} {g n : Nat} {r : Mat} (h : MatAt w g n r) {j : Nat} (hj : j ≤ n) (v : Int) : MatAt (w.setCell ⟨g, j, none⟩ (.int .i64 v)) g n (upd r 0 j v) := by
  have a := h.set (show 0 ≤ n by omega) hj v
  simp only [Nat.zero_mul, Nat.zero_add] at a
  exact a
def clipD (i : Nat) (r : Mat) : Mat := if 1 < r i i then upd r i i 1 else r
def clip0 (i : Nat) (r : Mat) : Mat := if 1 < r 0 i then upd r 0 i 1 else r
def clipAll : Nat → Mat → Mat
  | 0, r => r
  | c + 1, r => clip0 c (clipD c (clipAll c r))
/-- The cells of a closed matrix, as a list. -/
def nl (n : Nat) (p : Mat) (k : Nat) : List Int := (List.range k).map fun i => narB (flat n p i)
theorem nl_next (n : Nat) (p : Mat) (k : Nat) : nl n p (k + 1) = nl n p k ++ [narB (flat n p k)] := by simp [nl, List.range_succ]
theorem nl_len (n : Nat) (p : Mat) (k : Nat) : (nl n p k).length = k := by simp [nl]
theorem MatAt.flat {w : World} {g n : Nat} {r : Mat} (h : MatAt w g n r) {k : Nat} (hk : k < (n + 1) * (n + 1)) : w.cell? ⟨g, k, none⟩ = some (.int .i64 (flat n r k)) := by
  have a := h.cell (k / (n + 1)) (k % (n + 1)) (by have := Nat.div_lt_of_lt_mul hk; omega) (by have := Nat.mod_lt k (show 0 < n + 1 by omega); omega)
  rw [show k / (n + 1) * (n + 1) + k % (n + 1) = k by rw [Nat.mul_comm]; exact Nat.div_add_mod k (n + 1)] at a
  exact a
theorem MatAt.later {w w' : World} {g n : Nat} {r : Mat} (h : MatAt w g n r) {B : Nat} (hb : Below B w w') (hB : g < B) : MatAt w' g n r :=
  ⟨fun i j hi hj => (hb.cell (p := ⟨g, i * (n + 1) + j, none⟩) hB).trans (h.cell i j hi hj), fun i j hi hj => (hb.frozen (p := ⟨g, i * (n + 1) + j, none⟩) hB).trans (h.free i j hi hj)⟩
theorem MatAt.lt {w : World} {g n : Nat} {r : Mat} (h : MatAt w g n r) : g < w.heap.size := World.block_lt_of_cell? _ _ (h.cell 0 0 (by omega) (by omega))
/-- What is told of wide cells. -/
def RZoneOut (w' : World) (B n : Nat) (e : Ending) : Option (List Int) → Prop
  | none => e = .returned (.tuple #[.pointer none, .int .i64 10])
  | some l => ∃ b, e = .returned (.tuple #[.pointer (some ⟨b, 0, none⟩), .int .i64 0]) ∧ RZone w' B b n l
def madeR (n m : Nat) (r : Mat) : Option (List Int) :=
  match rcl n (n + 1) (clipAll (n + 1) r) with
  | none => some (List.replicate m 0)
  | some p => if narAll n p m then some (nl n p m) else none
theorem own_form {w : World} {base K : Nat} {E : TypeId} {v : Value} {xs : List Value} (h : w.ownsRow base E 1 v (K + 1) xs) : ∃ g cap, v = .slice (some ⟨g, 0, none⟩) (K + 1) cap := by
  rcases h.2 with ⟨_, h0⟩ | ⟨g, cap, cur, hv, _⟩
  · omega
  · exact ⟨g, cap, hv⟩
theorem own_slice {w : World} {base K : Nat} {E : TypeId} {v : Value} {xs : List Value} (h : w.ownsRow base E 1 v K xs) : ∃ ao cap, v = .slice ao K cap := by
  rcases h.2 with ⟨hv, h0⟩ | ⟨g, cap, cur, hv, _⟩
  · subst h0; exact ⟨none, 0, hv⟩
  · exact ⟨_, cap, hv⟩
theorem after_app {W w1 w : World} {bz g n K : Nat} {p : Mat} {v v' : Value} {o : Obj} {E : TypeId} {xs ys : List Value} (hgz : g < bz) (c0 : W.cell? ⟨bz, 0, none⟩ = some (.int .i64 n)) (c1 : W.cell? ⟨bz, 1, none⟩ = some v) (c2 : W.frozen? ⟨bz, 1, none⟩ = false) (c3 : bz + 1 ≤ W.heap.size)
    (hown : W.ownsRow (bz + 1) E 1 v K xs) (hM : MatAt W g n p) (hB : Below g w W) (hgrow : (W.alloc o).grownBy w1 v.ownBlock) (hown' : w1.ownsRow (bz + 1) E 1 v' (K + 1) ys) :
    w1.cell? ⟨bz, 1, none⟩ = some v ∧ w1.frozen? ⟨bz, 1, none⟩ = false ∧ (w1.setCell ⟨bz, 1, none⟩ v').cell? ⟨bz, 0, none⟩ = some (.int .i64 n) ∧ (w1.setCell ⟨bz, 1, none⟩ v').cell? ⟨bz, 1, none⟩ = some v' ∧ (w1.setCell ⟨bz, 1, none⟩ v').frozen? ⟨bz, 1, none⟩ = false ∧ bz + 1 ≤ (w1.setCell ⟨bz, 1, none⟩ v').heap.size ∧
    (w1.setCell ⟨bz, 1, none⟩ v').ownsRow (bz + 1) E 1 v' (K + 1) ys ∧ MatAt (w1.setCell ⟨bz, 1, none⟩ v') g n p ∧ Below g w (w1.setCell ⟨bz, 1, none⟩ v') := by
  have hb : Below (bz + 1) W w1 := ((Below.refl (bz + 1) W).alloc c3 o).grown hgrow (by simp; omega) (by intro q hq; exact (hown.lt q hq).1)
  have d0 : w1.cell? ⟨bz, 0, none⟩ = some (.int .i64 n) := (hb.cell (p := ⟨bz, 0, none⟩) (Nat.lt_succ_self _)).trans c0
  have d1 : w1.cell? ⟨bz, 1, none⟩ = some v := (hb.cell (p := ⟨bz, 1, none⟩) (Nat.lt_succ_self _)).trans c1
  have d2 : w1.frozen? ⟨bz, 1, none⟩ = false := (hb.frozen (p := ⟨bz, 1, none⟩) (Nat.lt_succ_self _)).trans c2
  have hb2 : Below bz W (w1.setCell ⟨bz, 1, none⟩ v') := (hb.mono (Nat.le_succ _)).setCell (Nat.le_refl _) _
  refine ⟨d1, d2, ?_, World.cell?_setCell_same _ _ _ d1, by rw [World.frozen?_setCell]; exact d2, ?_, ownsRow_setCell_below hown' (Nat.lt_succ_self _) _, hM.later hb2 hgz, hB.trans (hb2.mono (Nat.le_of_lt hgz))⟩
  · rw [World.cell?_setCell_other _ _ _ _ (by intro e; injection e; omega)]
    exact d0
  · have := hb2.size
    omega
theorem after_app2 {W w1 w : World} {bz g n K : Nat} {p : Mat} {v v' : Value} {o : Obj} {E : TypeId} {xs ys : List Value} (hgz : g < bz) (c0 : W.cell? ⟨bz, 0, none⟩ = some (.int .i64 n)) (c1 : W.cell? ⟨bz, 1, none⟩ = some v) (c2 : W.frozen? ⟨bz, 1, none⟩ = false) (c3 : bz + 1 ≤ W.heap.size)
    (hown : W.ownsRow (bz + 1) E 1 v K xs) (hM : MatAt W g n p) (hB : Below g w W) (hgrow : (W.alloc o).drew.grownBy w1 v.ownBlock) (hown' : w1.ownsRow (bz + 1) E 1 v' (K + 1) ys) :
    w1.cell? ⟨bz, 1, none⟩ = some v ∧ w1.frozen? ⟨bz, 1, none⟩ = false ∧ (w1.setCell ⟨bz, 1, none⟩ v').cell? ⟨bz, 0, none⟩ = some (.int .i64 n) ∧ (w1.setCell ⟨bz, 1, none⟩ v').cell? ⟨bz, 1, none⟩ = some v' ∧ (w1.setCell ⟨bz, 1, none⟩ v').frozen? ⟨bz, 1, none⟩ = false ∧ bz + 1 ≤ (w1.setCell ⟨bz, 1, none⟩ v').heap.size ∧
    (w1.setCell ⟨bz, 1, none⟩ v').ownsRow (bz + 1) E 1 v' (K + 1) ys ∧ MatAt (w1.setCell ⟨bz, 1, none⟩ v') g n p ∧ Below g w (w1.setCell ⟨bz, 1, none⟩ v') := by
  have hb : Below (bz + 1) W w1 := (((Below.refl (bz + 1) W).alloc c3 o).drew).grown hgrow (by simp; omega) (by intro q hq; exact (hown.lt q hq).1)
  have d0 : w1.cell? ⟨bz, 0, none⟩ = some (.int .i64 n) := (hb.cell (p := ⟨bz, 0, none⟩) (Nat.lt_succ_self _)).trans c0
  have d1 : w1.cell? ⟨bz, 1, none⟩ = some v := (hb.cell (p := ⟨bz, 1, none⟩) (Nat.lt_succ_self _)).trans c1
  have d2 : w1.frozen? ⟨bz, 1, none⟩ = false := (hb.frozen (p := ⟨bz, 1, none⟩) (Nat.lt_succ_self _)).trans c2
  have hb2 : Below bz W (w1.setCell ⟨bz, 1, none⟩ v') := (hb.mono (Nat.le_succ _)).setCell (Nat.le_refl _) _
  refine ⟨d1, d2, ?_, World.cell?_setCell_same _ _ _ d1, by rw [World.frozen?_setCell]; exact d2, ?_, ownsRow_setCell_below hown' (Nat.lt_succ_self _) _, hM.later hb2 hgz, hB.trans (hb2.mono (Nat.le_of_lt hgz))⟩
  · rw [World.cell?_setCell_other _ _ _ _ (by intro e; injection e; omega)]
    exact d0
  · have := hb2.size
    omega
set_option maxHeartbeats 2000000 in
theorem made_raw (g n m cap : Nat) (r : Mat) (w : World) (h : n ≤ 8) (hm : Hid (m = (n + 1) * (n + 1))) (hM : MatAt w g n r) :
    Calls Tryz.prog 124 #[.int .i64 n, .slice (some ⟨g, 0, none⟩) m cap] w fun e w' => RZoneOut w' w.heap.size n e (madeR n m r) ∧ Below g w w' := by
  have HM := hideD hM
  clear hM
  go_enter Tryz.func124, Tryz.ntmps124
  go_wp2_with fail
  go_loopw [6] (fun s wr => ∃ (I : Nat), I ≤ n + 1 ∧ s = .int .i64 I ∧ Hid (MatAt wr g n (clipAll I r)) ∧ Hid (Below g w wr)) (fun s _ => n + 1 - (intOf s).toNat)
  case atStart => exact ⟨0, by omega, rfl, HM, Below.refl _ _⟩
  case round =>
    obtain ⟨I, hI, rfl, hM, hB⟩ := hrel
    by_cases ci : I ≤ n
    · obtain ⟨p, hp⟩ : ∃ p, p = clipAll I r := ⟨_, rfl⟩
      have ST : Hid (clipAll (I + 1) r = clip0 I (clipD I p)) := by show clipAll (I + 1) r = _; rw [hp]; rfl
      rw [← hp] at hM
      clear hp
      have h1 := hM.out.cell I I ci ci
      have h2 := hM.out.free I I ci ci
      have l1 := pos_lt ci ci
      have q81 : (n + 1) * (n + 1) ≤ 81 := Nat.mul_le_mul (show n + 1 ≤ 9 by omega) (show n + 1 ≤ 9 by omega)
      rw [← hm.out] at l1 q81
      have e1 : IntKind.i64.wrap ((I : Int) * ((n : Int) + 1)) = ((I * (n + 1) : Nat) : Int) := by
        have : (I : Int) * ((n : Int) + 1) = ((I * (n + 1) : Nat) : Int) := by simp
        rw [this, IntKind.wrap_i64]
        generalize I * (n + 1) = z at *
        omega
      have SE := hideD (hM.out.set ci ci 1)
      generalize I * (n + 1) = a at *
      have e3 : (0 : Int) ≤ (a : Int) := by omega
      have e5 : (a : Int) + (I : Int) < (m : Int) := by omega
      have e6 : (I : Int) < (m : Int) := by omega
      have e8 : (m : Int) ≤ 81 := by omega
      by_cases cx : 1 < p I I
      · have ed : Hid (clipD I p = upd p I I 1) := by show clipD I p = _; simp [clipD, cx]
        rw [ed.out] at ST
        obtain ⟨k1, k2⟩ := SE.out.cell0 ci
        by_cases cy : 1 < upd p I I 1 0 I
        · have ee : Hid (clip0 I (upd p I I 1) = upd (upd p I I 1) 0 I 1) := by show clip0 I _ = _; simp only [clip0, if_pos cy]
          have S2 := hideD (SE.out.set0 ci 1)
          rw [ee.out] at ST
          clear ed ee
          generalize upd p I I 1 0 I = y at *
          generalize p I I = x at *
          go_wp2_with fail
          go_roundw
          case rel => exact ⟨I + 1, by omega, by go_num, by rw [ST.out]; exact S2, (hB.out.setCell (Nat.le_refl _) _).setCell (Nat.le_refl _) _⟩
          case measure => simp [intOf]; omega
        · have ee : Hid (clip0 I (upd p I I 1) = upd p I I 1) := by show clip0 I _ = _; simp only [clip0, if_neg cy]
          rw [ee.out] at ST
          clear ed ee
          generalize upd p I I 1 0 I = y at *
          generalize p I I = x at *
          go_wp2_with fail
          go_roundw
          case rel => exact ⟨I + 1, by omega, by go_num, by rw [ST.out]; exact SE, hB.out.setCell (Nat.le_refl _) _⟩
          case measure => simp [intOf]; omega
      · have ed : Hid (clipD I p = p) := by show clipD I p = _; simp [clipD, cx]
        rw [ed.out] at ST
        obtain ⟨k1, k2⟩ := hM.out.cell0 ci
        by_cases cy : 1 < p 0 I
        · have ee : Hid (clip0 I p = upd p 0 I 1) := by show clip0 I _ = _; simp only [clip0, if_pos cy]
          have S2 := hideD (hM.out.set0 ci 1)
          rw [ee.out] at ST
          clear ed ee SE
          generalize p 0 I = y at *
          generalize p I I = x at *
          go_wp2_with fail
          go_roundw
          case rel => exact ⟨I + 1, by omega, by go_num, by rw [ST.out]; exact S2, hB.out.setCell (Nat.le_refl _) _⟩
          case measure => simp [intOf]; omega
        · have ee : Hid (clip0 I p = p) := by show clip0 I _ = _; simp only [clip0, if_neg cy]
          rw [ee.out] at ST
          clear ed ee SE
          generalize p 0 I = y at *
          generalize p I I = x at *
          go_wp2_with fail
          go_roundw
          case rel => exact ⟨I + 1, by omega, by go_num, by rw [ST.out]; exact hM, hB⟩
          case measure => simp [intOf]; omega
    · have hM' : Hid (MatAt wr g n (clipAll (n + 1) r)) := by
        obtain rfl : I = n + 1 := by omega
        exact hM
      have HC := hideD (rclose_raw g n m cap _ wr h hm hM'.out)
      clear hM
      have hsz0 := hB.out.size
      cases ec : rcl n (n + 1) (clipAll (n + 1) r) with
      | none =>
        rw [ec] at HC
        have MR : Hid (madeR n m r = some (List.replicate m 0)) := by show madeR n m r = _; simp [madeR, ec]
        go_wp2_with fail
        refine HC.out.mono ?_
        rintro e w1 ⟨rfl, hb, s, hs, -⟩
        go_wp2_with fail
        refine (empty1_raw n m _ h hm.out).mono ?_
        rintro e w2 ⟨⟨b, rfl, hz⟩, hb2⟩
        go_wp2_with fail
        refine bodyPost_ret (v := .tuple #[.pointer (some ⟨b, 0, none⟩), .int .i64 0]) (by simp [results, Tryz.results124, go_sem]) rfl ⟨?_, (hB.out.trans hb).trans (hb2.mono (Nat.le_of_lt hs.lt))⟩
        rw [MR.out]
        obtain ⟨g', c', z1, z2, z3, z4, z5⟩ := hz
        have := hb.size
        exact ⟨b, rfl, g', c', z1, z2, by omega, by omega, z5⟩
      | some p =>
        rw [ec] at HC
        have MR : Hid (madeR n m r = if narAll n p m then some (nl n p m) else none) := by show madeR n m r = _; simp [madeR, ec]
        go_wp2_with fail
        refine HC.out.mono ?_
        rintro e w1 ⟨rfl, hb, s, hs, hp⟩
        obtain rfl := hp p rfl
        have hM1 := hideD (hs.later ((Below.refl w1.heap.size w1).alloc (Nat.le_refl _) (.cells #[.int .i64 n, .slice none 0 0] 212)) hs.lt)
        have hB1 := hideD ((hB.out.trans hb).alloc (Nat.le_of_lt hs.lt) (.cells #[.int .i64 n, .slice none 0 0] 212))
        have hsz1 : w.heap.size ≤ w1.heap.size := by have := hb.size; omega
        have hgz := hs.lt
        have n0 : (w1.alloc (.cells #[.int .i64 n, .slice none 0 0] 212)).cell? ⟨w1.heap.size, 0, none⟩ = some (.int .i64 n) := by simp [go_sem]
        have n1 : (w1.alloc (.cells #[.int .i64 n, .slice none 0 0] 212)).cell? ⟨w1.heap.size, 1, none⟩ = some (.slice none 0 0) := by simp [go_sem]
        have n2 : (w1.alloc (.cells #[.int .i64 n, .slice none 0 0] 212)).frozen? ⟨w1.heap.size, 1, none⟩ = false := by simp [go_sem]
        have n3 : w1.heap.size + 1 ≤ (w1.alloc (.cells #[.int .i64 n, .slice none 0 0] 212)).heap.size := by simp
        have N0 := hideD n0
        have N1 := hideD n1
        have N2 := hideD n2
        have N3 := hideD n3
        clear hb hs hp HC hM' hB n0 n1 n2 n3
        go_wp2_with fail
        generalize w1.alloc (.cells #[.int .i64 n, .slice none 0 0] 212) = W1 at *
        generalize w1.heap.size = bz at *
        go_loopw [8] (fun s wr => ∃ (K : Nat) (v : Value), K ≤ m ∧ s = .int .i64 K ∧ Hid (narAll n p K = true) ∧ Hid (wr.cell? ⟨bz, 0, none⟩ = some (.int .i64 n)) ∧ Hid (wr.cell? ⟨bz, 1, none⟩ = some v) ∧ Hid (wr.frozen? ⟨bz, 1, none⟩ = false) ∧ Hid (bz + 1 ≤ wr.heap.size) ∧ Hid (wr.ownsRow (bz + 1) 93 1 v K ((nl n p K).map (Value.int .i32))) ∧ Hid (MatAt wr g n p) ∧ Hid (Below g w wr)) (fun s _ => m - (intOf s).toNat)
        case atStart => exact ⟨0, .slice none 0 0, by omega, rfl, rfl, N0, N1, N2, N3, World.ownsRow_nil _ _ _ _, hM1, hB1⟩
        case round =>
          obtain ⟨K, v, hK, rfl, hq, c0, c1, c2, c3, hown, hM, hB⟩ := hrel
          clear N0 N1 N2 N3 hM1 hB1
          obtain ⟨ao, cv, rfl⟩ := own_slice hown.out
          by_cases ck : K < m
          · have h1 := hM.out.flat (show K < (n + 1) * (n + 1) by have := hm.out; omega)
            obtain ⟨x, hx⟩ : ∃ x, x = flat n p K := ⟨_, rfl⟩
            have NX : Hid (nl n p (K + 1) = nl n p K ++ [narB x]) := by show nl n p (K + 1) = _; rw [nl_next, ← hx]
            have st : Hid (narAll n p (K + 1) = narOk x) := by show narAll n p (K + 1) = _; simp [narAll, hq.out, ← hx]
            rw [← hx] at h1
            clear hx
            have a0 := c0.out
            have a1 := c1.out
            have a2 := c2.out
            have a3 := c3.out
            have m81 : m ≤ 81 := by
              have := Nat.mul_le_mul (show n + 1 ≤ 9 by omega) (show n + 1 ≤ 9 by omega)
              have := hm.out
              omega
            have k1 : (K : Int) < (m : Int) := by omega
            have k2 : (m : Int) ≤ 81 := by omega
            obtain ⟨i0, hi0, hz0, hz1, hz2⟩ := info_parts info_bd
            by_cases cx : x = opn
            · have en : narB x = 2147483647 := by simp [narB, cx]
              have eo : narOk x = true := by simp [narOk, cx]
              rw [en] at NX
              rw [eo] at st
              unfold opn at cx
              subst cx
              have HN : Hid (∀ j u, [Value.int .i32 2147483647][j]? = some u → (wr.alloc (.cells #[.int .i32 2147483647] 93)).cell? ((⟨wr.heap.size, 0, none⟩ : Addr).add j) = some u) := by
                intro j u hj
                match j, hj with
                | 0, hj => simp at hj; subst hj; simp [Addr.add]
              go_wp2_with (at_builtin; refine wpList_append_own _ rfl _ _ 59 rfl (bz + 1) 93 i0 (.int .i32 0) 1 4 Tryz.underlying59 hi0 hz0 hz1 hz2 rfl (by decide) _ K ((nl n p K).map (Value.int .i32)) rfl (hown.out.alloc _) ⟨wr.heap.size, 0, none⟩ 1 1 [.int .i32 2147483647] rfl rfl HN.out (fun u hu => by simp at hu; subst hu; rfl) (by unfold maxLen; omega) (by omega) (by simp; omega) ?_; intro v' w2 hown' hgrow hnil; obtain ⟨gv, cw, rfl⟩ := own_form hown'; have R := hideD (after_app hgz a0 a1 a2 a3 hown.out hM.out hB.out hgrow hown'); have r1 := R.out.1; have r2 := R.out.2.1; clear hown' hgrow hnil)
              go_roundw
              case rel =>
                obtain ⟨-, -, s0, s1, s2, s3, s4, s5, s6⟩ := R.out
                refine ⟨K + 1, _, by omega, by go_num, st, s0, s1, s2, s3, ?_, s5, s6⟩
                show World.ownsRow _ _ _ _ _ _ _
                rw [NX.out, List.map_append]
                exact s4
              case measure => simp [intOf]; omega
            · have cx' : (x == 4611686018427387904) = false := by unfold opn at cx; simpa using cx
              by_cases cr : x < -536870912 ∨ 536870913 < x
              · have eo : narOk x = false := by simp [narOk, cx, cr]
                rw [eo] at st
                have MR2 : Hid (madeR n m r = none) := by
                  show madeR n m r = none
                  rw [MR.out, narAll_false (k := K + 1) m (by omega) st.out]
                  rfl
                clear MR st NX
                by_cases cl : x < -536870912
                · go_wp2_with fail
                  refine bodyPost_ret (v := .tuple #[.pointer none, .int .i64 10]) (by simp [results, Tryz.results124, go_sem]) rfl ⟨?_, hB.out⟩
                  rw [MR2.out]
                  exact rfl
                · have cg : 536870913 < x := by omega
                  go_wp2_with fail
                  refine bodyPost_ret (v := .tuple #[.pointer none, .int .i64 10]) (by simp [results, Tryz.results124, go_sem]) rfl ⟨?_, hB.out⟩
                  rw [MR2.out]
                  exact rfl
              · have en : narB x = x := by simp [narB, cx, cr]
                have eo : narOk x = true := by simp [narOk, cx, cr]
                rw [en] at NX
                rw [eo] at st
                have x0 : ¬ x < -536870912 := by omega
                have x1 : ¬ 536870913 < x := by omega
                have ex : IntKind.i32.wrap x = x := by rw [IntKind.wrap_i32]; omega
                have HN : Hid (∀ (W : World) j u, [Value.int .i32 x][j]? = some u → (W.alloc (.cells #[.int .i32 x] 93)).cell? ((⟨W.heap.size, 0, none⟩ : Addr).add j) = some u) := by
                  intro W j u hj
                  match j, hj with
                  | 0, hj => simp at hj; subst hj; simp [Addr.add]
                have b1 : ∀ O, (wr.alloc O).cell? ⟨bz, 1, none⟩ = some (.slice ao K cv) := fun O => kc _ _ (below_one _ _) a1
                have b2 : ∀ O, (wr.alloc O).cell? ⟨g, K, none⟩ = some (.int .i64 x) := fun O => kc _ _ (below_one _ _) h1
                go_wp2_with fail
                go_region_law (refine step_own rfl (.tmp 85) (.tmp 91) 59 rfl (bz + 1) 93 i0 (.int .i32 0) 1 4 Tryz.underlying59 hi0 hz0 hz1 hz2 rfl (by decide) (.slice ao K cv) K ((nl n p K).map (Value.int .i32)) (by simp [Act.eval]) (by first | exact hown.out.alloc _ | exact (hown.out.drew).alloc _ | exact (hown.out.alloc _).drew) ⟨wr.heap.size, 0, none⟩ 1 1 [.int .i32 x] (by simp [Act.eval]) rfl (by first | exact HN.out wr | exact HN.out wr.drew) (fun u hu => by simp at hu; subst hu; rfl) (by unfold maxLen; omega) (by omega) (by simp; omega) ?_; intro v' w2 hown' hgrow; obtain ⟨gv, cw, rfl⟩ := own_form hown'; have R := hideD (after_app2 hgz a0 a1 a2 a3 hown.out hM.out hB.out (by first | exact hgrow) hown'); have r1 := R.out.1; have r2 := R.out.2.1)
                all_goals
                  go_wp2_with fail
                  go_roundw
                  case rel =>
                    obtain ⟨-, -, s0, s1, s2, s3, s4, s5, s6⟩ := R.out
                    refine ⟨K + 1, _, by omega, by go_num, st, s0, s1, s2, s3, ?_, s5, s6⟩
                    show World.ownsRow _ _ _ _ _ _ _
                    rw [NX.out, List.map_append]
                    exact s4
                  case measure => simp [intOf]; omega
          · have ek : Hid (K = m) := by show K = m; omega
            have MR2 : Hid (madeR n m r = some (nl n p m)) := by
              show madeR n m r = _
              have e := ek.out
              subst e
              rw [MR.out, hq.out]
              rfl
            have ZZ : Hid (RZone wr w.heap.size bz n (nl n p m)) := by
              have e := ek.out
              subst e
              have hp : 0 < K := by have := hm.out; rw [this]; exact Nat.mul_pos (by omega) (by omega)
              obtain ⟨K', rfl⟩ : ∃ K', K = K' + 1 := ⟨K - 1, by omega⟩
              obtain ⟨gv, cw, hv⟩ := own_form hown.out
              cases hv
              first | refine ⟨gv, cv, c0.out, ?_, hsz1, ?_, ?_⟩ | refine ⟨gv, cw, c0.out, ?_, hsz1, ?_, ?_⟩
              · rw [nl_len]; exact c1.out
              · have := (hown.out.lt gv rfl).1
                omega
              · intro j hj
                have hc := World.ownsRow.cells hown.out (g := gv) rfl j (.int .i32 ((nl n p (K' + 1)).getD j 0)) (by simp [List.getD, hj])
                rw [Addr.add_lit] at hc
                exact hc
            clear MR
            go_wp2_with fail
            refine bodyPost_ret (v := .tuple #[.pointer (some ⟨bz, 0, none⟩), .int .i64 0]) (by simp [results, Tryz.results124, go_sem]) rfl ⟨?_, hB.out⟩
            rw [MR2.out]
            exact ⟨bz, rfl, ZZ.out⟩
end Go.Proofs.YtondgencdcimjaaGreat

/-
  The document's answer for layer 3: Of, Cells; and that it is the program's.
-/
namespace Go.Proofs.YtondgencdcimjaaGreat
open Go.RowKit
set_option linter.unusedVariables false
set_option maxRecDepth 100000
/-- The matrix of a row of wide cells. -/
def rowMat (n : Nat) (l : List Int) : Mat := fun i j => if i ≤ n ∧ j ≤ n then wideV (l.getD (i * (n + 1) + j) 0) else 0
theorem matAt_own {w : World} {base g n cap : Nat} {l : List Int} (hl : l.length = (n + 1) * (n + 1)) (h : w.ownsRow base 2 1 (.slice (some ⟨g, 0, none⟩) l.length cap) l.length ((wideL l l.length).map (Value.int .i64))) : MatAt w g n (rowMat n l) := by
  refine ⟨fun i j hi hj => ?_, fun i j hi hj => h.frozenAt _⟩
  have lt : i * (n + 1) + j < l.length := by rw [hl]; exact pos_lt hi hj
  rw [h.cellAt _ (by omega)]
  simp [wideL, rowMat, List.getD, lt, hi, hj]
/-- What Of tells by the document. -/
def refOf (n : Nat) (l : List Int) : Option (List Int) := madeR n l.length (rowMat n l)
set_option maxHeartbeats 2000000 in
theorem rof_clock (n : Int) (v : Value) (w : World) (h : ¬ (0 ≤ n ∧ n ≤ 8)) :
    Calls Tryz.prog 67 #[.int .i64 n, v] w fun e w' => e = errOf 12 ∧ w' = w := by
  by_cases c : n < 0
  · go_enter Tryz.func67, Tryz.ntmps67
    go_wp2_with fail
    exact bodyPost_ret (v := .tuple #[.pointer none, .int .i64 12]) (by simp [results, Tryz.results67, go_sem]) rfl ⟨rfl, rfl⟩
  · have d : 8 < n := by omega
    go_enter Tryz.func67, Tryz.ntmps67
    go_wp2_with fail
    exact bodyPost_ret (v := .tuple #[.pointer none, .int .i64 12]) (by simp [results, Tryz.results67, go_sem]) rfl ⟨rfl, rfl⟩
set_option maxHeartbeats 2000000 in
theorem rof_long (n len cap m : Nat) (a : Option Addr) (w : World) (h : n ≤ 8) (hm : m = (n + 1) * (n + 1)) (hl : ¬ len = m) :
    Calls Tryz.prog 67 #[.int .i64 n, .slice a len cap] w fun e w' => e = errOf 6 ∧ w' = w := by
  have q81 : (n + 1) * (n + 1) ≤ 81 := Nat.mul_le_mul (show n + 1 ≤ 9 by omega) (show n + 1 ≤ 9 by omega)
  have e1 : IntKind.i64.wrap (((n : Int) + 1) * ((n : Int) + 1)) = (m : Int) := by
    have : ((n : Int) + 1) * ((n : Int) + 1) = (((n + 1) * (n + 1) : Nat) : Int) := by simp
    rw [this, ← hm, IntKind.wrap_i64]
    omega
  have e2 : ((len : Int) != (m : Int)) = true := by simp; omega
  clear hm
  go_enter Tryz.func67, Tryz.ntmps67
  go_wp2_with fail
  exact bodyPost_ret (v := .tuple #[.pointer none, .int .i64 6]) (by simp [results, Tryz.results67, go_sem]) rfl ⟨rfl, rfl⟩
set_option maxHeartbeats 2000000 in
theorem rof_main (n cb off cap : Nat) (l : List Int) (w : World) (h : n ≤ 8) (hlen : l.length = (n + 1) * (n + 1)) (hR : RowAt w cb off l) (hi : ∀ j, j < l.length → -2147483648 ≤ l.getD j 0 ∧ l.getD j 0 ≤ 2147483647) :
    Calls Tryz.prog 67 #[.int .i64 n, .slice (some ⟨cb, off, none⟩) l.length cap] w fun e w' => Below w.heap.size w w' ∧
      ((allRight l l.length = false ∧ e = errOf 7) ∨ (allRight l l.length = true ∧ RZoneOut w' w.heap.size n e (refOf n l))) := by
  have q81 : (n + 1) * (n + 1) ≤ 81 := Nat.mul_le_mul (show n + 1 ≤ 9 by omega) (show n + 1 ≤ 9 by omega)
  have hcb : cb < w.heap.size := World.block_lt_of_cell? _ _ (hR 0 (by rw [hlen]; exact Nat.mul_pos (by omega) (by omega)))
  have HW := hideD (wide_any cb off cap l w (by omega) hR hcb hi)
  have e1 : IntKind.i64.wrap (((n : Int) + 1) * ((n : Int) + 1)) = (l.length : Int) := by
    have : ((n : Int) + 1) * ((n : Int) + 1) = (((n + 1) * (n + 1) : Nat) : Int) := by simp
    rw [this, ← hlen, IntKind.wrap_i64]
    omega
  have HL := hideD hlen
  rw [← hlen] at q81
  have HR := hideD hR
  have HI := hideD hi
  have hpos : 0 < l.length := by rw [hlen]; exact Nat.mul_pos (by omega) (by omega)
  clear hlen hR hi
  generalize em : l.length = m at *
  have m1 : (m : Int) ≤ 81 := by omega
  go_enter Tryz.func67, Tryz.ntmps67
  go_wp2_with fail
  go_loopw [6] (fun s wr => ∃ (K : Nat), K ≤ m ∧ s = .int .i64 K ∧ Hid (allRight l K = true) ∧ wr = w) (fun s _ => m - (intOf s).toNat)
  case atStart => exact ⟨0, by omega, rfl, rfl, rfl⟩
  case round =>
    obtain ⟨K, hK, rfl, hq, rfl⟩ := hrel
    by_cases ck : K < m
    · have hrow := HR.out K (by omega)
      obtain ⟨x0, x1⟩ := HI.out K (by omega)
      have st : Hid (allRight l (K + 1) = rightB (l.getD K 0)) := by show allRight l (K + 1) = _; simp [allRight, hq.out]
      have HB : Hid (∀ w, Calls Tryz.prog 123 #[.int .i32 (l.getD K 0)] w fun e w' => e = .returned (.bool (rightB (l.getD K 0))) ∧ w' = w) := fun w => rright_any _ w x0 x1
      have k1 : (K : Int) < (m : Int) := by omega
      generalize l.getD K 0 = x at *
      cases er : rightB x with
      | false =>
        rw [er] at HB st
        have st3 : Hid (allRight l m = false) := allRight_false (k := K + 1) m (by omega) st.out
        go_wp2_with fail
        refine (HB.out _).mono ?_
        rintro e' w3 ⟨rfl, rfl⟩
        go_wp2_with fail
        exact bodyPost_ret (v := .tuple #[.pointer none, .int .i64 7]) (by simp [results, Tryz.results67, go_sem]) rfl ⟨Below.refl _ _, .inl ⟨st3.out, rfl⟩⟩
      | true =>
        rw [er] at HB st
        go_wp2_with fail
        refine (HB.out _).mono ?_
        rintro e' w3 ⟨rfl, rfl⟩
        go_wp2_with fail
        go_roundw
        case rel => exact ⟨K + 1, by omega, by go_num, st, by first | rfl | trivial⟩
        case measure => simp [intOf]; omega
    · have st : Hid (allRight l m = true) := by
        obtain rfl : K = m := by omega
        exact hq
      clear hq
      go_wp2_with fail
      refine HW.out.mono ?_
      rintro e w1 ⟨v, rfl, hown, hb⟩
      obtain ⟨m', rfl⟩ : ∃ m', m = m' + 1 := ⟨m - 1, by omega⟩
      obtain ⟨gv, cw, rfl⟩ := own_form hown
      have gb := (hown.lt gv rfl).1
      have hmat : MatAt w1 gv n (rowMat n l) := matAt_own (by rw [em]; exact HL.out) (by rw [em]; exact hown)
      have HM := hideD (made_raw gv n (m' + 1) cw _ w1 h HL hmat)
      have RO : Hid (refOf n l = madeR n (m' + 1) (rowMat n l)) := by show refOf n l = _; rw [refOf, em]
      have B1 := hideD hb
      clear hown hmat hb
      go_wp2_with fail
      refine HM.out.mono ?_
      rintro e w2 ⟨hz, hb2⟩
      rw [← RO.out] at hz
      have B2 := hideD (B1.out.trans (hb2.mono gb))
      have sz := B1.out.size
      cases er : refOf n l with
      | none =>
        rw [er] at hz
        obtain rfl := hz
        go_wp2_with fail
        exact bodyPost_ret (v := .tuple #[.pointer none, .int .i64 10]) (by simp [results, Tryz.results67, go_sem]) rfl ⟨B2.out, .inr ⟨st.out, by rw [er]; exact rfl⟩⟩
      | some q =>
        rw [er] at hz
        obtain ⟨b, rfl, g', c', z1, z2, z3, z4, z5⟩ := hz
        go_wp2_with fail
        exact bodyPost_ret (v := .tuple #[.pointer (some ⟨b, 0, none⟩), .int .i64 0]) (by simp [results, Tryz.results67, go_sem]) rfl ⟨B2.out, .inr ⟨st.out, by rw [er]; exact ⟨b, rfl, g', c', z1, z2, by omega, by omega, z5⟩⟩⟩
end Go.Proofs.YtondgencdcimjaaGreat

/-
  The program's zone of a row of bounds, and the document's, are one.
-/
namespace Go.Proofs.YtondgencdcimjaaGreat
open Go.RowKit
set_option linter.unusedVariables false
def tgV (a x : Int) : Int := if x = 2147483647 then a else min a x
theorem tgAll_at (n : Nat) (l : List Int) (r : Mat) (k : Nat) (hk : k ≤ (n + 1) * (n + 1)) (i j : Nat) :
    tgAll n l k r i j = if i ≤ n ∧ j ≤ n ∧ i * (n + 1) + j < k then tgV (r i j) (l.getD (i * (n + 1) + j) 0) else r i j := by
  induction k with
  | zero => simp [tgAll]
  | succ k ih =>
    have ih := ih (by omega)
    have d1 : k / (n + 1) ≤ n := by have := Nat.div_lt_of_lt_mul (show k < (n + 1) * (n + 1) by omega); omega
    have d2 : k % (n + 1) ≤ n := by have := Nat.mod_lt k (show 0 < n + 1 by omega); omega
    have d3 : k / (n + 1) * (n + 1) + k % (n + 1) = k := by rw [Nat.mul_comm]; exact Nat.div_add_mod k (n + 1)
    by_cases e : i = k / (n + 1) ∧ j = k % (n + 1)
    · obtain ⟨rfl, rfl⟩ := e
      rw [if_neg (by rw [d3]; omega)] at ih
      rw [if_pos ⟨d1, d2, by rw [d3]; omega⟩, d3]
      simp only [tgAll, tg, tgV]
      split
      · exact ih
      · simp [upd, ih]
    · have e2 : tgAll n l (k + 1) r i j = tgAll n l k r i j := by
        simp only [tgAll, tg]
        split
        · rfl
        · simp [upd, e]
      rw [e2, ih]
      congr 1
      apply propext
      constructor
      · rintro ⟨a, b, c⟩
        exact ⟨a, b, by omega⟩
      · rintro ⟨a, b, c⟩
        refine ⟨a, b, ?_⟩
        apply Classical.byContradiction
        intro q
        have : i * (n + 1) + j = k / (n + 1) * (n + 1) + k % (n + 1) := by omega
        exact e (pos_inj b d2 this)
theorem clipAll_at (r : Mat) (c i j : Nat) : clipAll c r i j = if (i = j ∧ i < c) ∨ (i = 0 ∧ j < c) then min 1 (r i j) else r i j := by
  induction c with
  | zero => simp [clipAll]
  | succ c ih =>
    have s : ∀ (q : Mat) (a : Nat), clipD a q i j = if i = a ∧ j = a then min 1 (q i j) else q i j := by
      intro q a
      unfold clipD
      by_cases e : i = a ∧ j = a
      · obtain ⟨rfl, rfl⟩ := e
        by_cases c1 : 1 < q j j
        · rw [if_pos c1, if_pos ⟨rfl, rfl⟩]
          simp [upd]
          omega
        · rw [if_neg c1, if_pos ⟨rfl, rfl⟩]
          omega
      · rw [if_neg e]
        split
        · simp [upd, e]
        · rfl
    have s0 : ∀ (q : Mat) (a : Nat), clip0 a q i j = if i = 0 ∧ j = a then min 1 (q i j) else q i j := by
      intro q a
      unfold clip0
      by_cases e : i = 0 ∧ j = a
      · obtain ⟨rfl, rfl⟩ := e
        by_cases c1 : 1 < q 0 j
        · rw [if_pos c1, if_pos ⟨rfl, rfl⟩]
          simp [upd]
          omega
        · rw [if_neg c1, if_pos ⟨rfl, rfl⟩]
          omega
      · rw [if_neg e]
        split
        · simp [upd, e]
        · rfl
    simp only [clipAll]
    rw [s0, s, ih]
    repeat' split
    all_goals omega
/-- Both begin with one matrix. -/
theorem start_both (n : Nat) (l : List Int) (hi : ∀ j, j < (n + 1) * (n + 1) → l.getD j 0 ≤ 2147483647) : clipAll (n + 1) (rowMat n l) = tgAll n l ((n + 1) * (n + 1)) (startR n (n + 1) 0) := by
  funext i j
  rw [clipAll_at, tgAll_at n l _ _ (Nat.le_refl _)]
  by_cases b : i ≤ n ∧ j ≤ n
  · have lt := pos_lt b.1 b.2
    rw [if_pos (show i ≤ n ∧ j ≤ n ∧ i * (n + 1) + j < (n + 1) * (n + 1) from ⟨b.1, b.2, lt⟩)]
    have x1 := hi _ lt
    have e1 : rowMat n l i j = wideV (l.getD (i * (n + 1) + j) 0) := by simp only [rowMat, if_pos b]
    have e2 : startR n (n + 1) 0 i j = startV i j := by simp only [startR]; rw [if_pos (.inl ⟨by omega, b.2⟩)]
    rw [e1, e2]
    generalize l.getD (i * (n + 1) + j) 0 = x at *
    unfold wideV tgV startV
    repeat' split
    all_goals omega
  · have e1 : rowMat n l i j = 0 := by simp only [rowMat, if_neg b]
    have e2 : startR n (n + 1) 0 i j = 0 := by simp only [startR]; rw [if_neg (by omega)]
    rw [e1, e2, if_neg (by omega), if_neg (by omega)]
theorem listOf_zero (m : Nat) : listOf (fun _ => 0) m = List.replicate m 0 := by
  induction m with
  | zero => rfl
  | succ m ih => simp [listOf, List.range_succ, List.replicate_succ'] at *; exact ih
theorem listOf_cells (n : Nat) (p : Mat) (m : Nat) : listOf (cellsUpto n p m) m = nl n p m := by
  unfold listOf nl
  apply List.map_congr_left
  intro a ha
  have : a < m := by simpa using ha
  simp [cellsUpto, this]
/-- One answer. -/
theorem of_same (n : Nat) (l : List Int) (hl : l.length = (n + 1) * (n + 1)) (hi : ∀ j, j < (n + 1) * (n + 1) → l.getD j 0 ≤ 2147483647) :
    refOf n l = (zoneR n (tgAll n l l.length (startR n (n + 1) 0))).map (fun c => listOf c ((n + 1) * (n + 1))) := by
  have s := start_both n l hi
  have d : ∀ i, i ≤ n → tgAll n l ((n + 1) * (n + 1)) (startR n (n + 1) 0) i i ≤ 1 := by
    intro i h
    rw [← s, clipAll_at, if_pos (.inl ⟨rfl, by omega⟩)]
    omega
  unfold refOf madeR zoneR
  rw [hl, s, ← close_both d]
  cases closeR n (tgAll n l ((n + 1) * (n + 1)) (startR n (n + 1) 0)) with
  | none => simp [listOf_zero]
  | some p =>
    simp only
    split
    · simp [listOf_cells]
    · rfl
end Go.Proofs.YtondgencdcimjaaGreat
