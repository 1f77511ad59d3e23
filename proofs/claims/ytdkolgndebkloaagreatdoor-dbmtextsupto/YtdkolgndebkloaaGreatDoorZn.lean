/-
  A zone's text, cell by cell, and what its cells make.
-/
import Derived.Test.YtdkolgndebkloaaGreatDoorZe
import Derived.Test.YtdkolgndebkloaaGreatDoorZf
import Derived.Test.YtdkolgndebkloaaGreatDoorZg
import Derived.Test.YtdkolgndebkloaaGreatDoorTx0z
import Derived.Lib.IndexLaws
namespace Go.Proofs.YtdkolgndebkloaaGreatDoor
open Go.RowKit
set_option linter.unusedVariables false
set_option maxRecDepth 100000
abbrev Cell3 := Nat × Nat × Int
def term3 (x : Cell3) : List UInt8 := termS x.1 x.2.1 x.2.2
/-- The cells that stand in a zone's text. -/
def toldL (n : Nat) (c : Row) : Nat → List Cell3
  | 0 => []
  | K + 1 => if tellsB (K / (n + 1)) (K % (n + 1)) (c K) = true then toldL n c K ++ [(K / (n + 1), K % (n + 1), c K)] else toldL n c K
theorem acc_told (n : Nat) (c : Row) : ∀ K, accS n c K = headS n ++ (toldL n c K).flatMap term3
  | 0 => by simp [accS, toldL]
  | K + 1 => by
    unfold accS toldL
    split
    · rw [acc_told n c K, List.flatMap_append, ← List.append_assoc]
      simp [term3]
    · exact acc_told n c K
/-- A matrix with cells that were tightened, one behind the other. -/
def tgs (l : List Cell3) (r : Mat) : Mat := l.foldl (fun r x => tg r x.1 x.2.1 x.2.2) r
theorem tgs_snoc (l : List Cell3) (x : Cell3) (r : Mat) : tgs (l ++ [x]) r = tg (tgs l r) x.1 x.2.1 x.2.2 := by simp [tgs, List.foldl_append]
theorem startT_at {n i j : Nat} (hi : i ≤ n) (hj : j ≤ n) : startR n (n + 1) 0 i j = startV i j := by
  unfold startR
  rw [if_pos (.inl ⟨by omega, hj⟩)]
theorem posT_inj {n i j K : Nat} (hj : j ≤ n) (h : i * (n + 1) + j = K) : i = K / (n + 1) ∧ j = K % (n + 1) := by
  subst h
  constructor
  · rw [Nat.mul_comm, Nat.mul_add_div (by omega), Nat.div_eq_of_lt (by omega)]; rfl
  · rw [Nat.mul_comm, Nat.mul_add_mod, Nat.mod_eq_of_lt (by omega)]
theorem pos_back {n K : Nat} : (K / (n + 1)) * (n + 1) + K % (n + 1) = K := by
  rw [Nat.mul_comm]; exact Nat.div_add_mod K (n + 1)
theorem not_told {n m K : Nat} {p : Mat} {c : Row} (hm : m = (n + 1) * (n + 1)) (h : FullC n m p c) (hK : K < m) (ht : tellsB (K / (n + 1)) (K % (n + 1)) (c K) = false) : startV (K / (n + 1)) (K % (n + 1)) = p (K / (n + 1)) (K % (n + 1)) := by
  have ho := opn_val
  have hi : K / (n + 1) ≤ n := by have := Nat.div_lt_of_lt_mul (show K < (n + 1) * (n + 1) by omega); omega
  have hj : K % (n + 1) ≤ n := by have := Nat.mod_lt K (show 0 < n + 1 by omega); omega
  have e := h.at hm hi hj
  rw [pos_back] at e
  rw [e] at ht
  have lw := h.low (K % (n + 1)) hj
  have on := h.cl.one (K / (n + 1)) hi
  have ok := h.ok hm hi hj
  generalize K / (n + 1) = i at *
  generalize K % (n + 1) = j at *
  unfold startV
  by_cases cij : i = j
  · subst cij
    rw [if_neg (by omega), on]
  · by_cases i0 : i = 0
    · subst i0
      rw [if_neg (by omega)]
      rcases narOk_cases ok with ⟨h1, h2⟩ | ⟨h1, h2, h3, h4⟩
      · omega
      · rw [h2] at ht
        simp [tellsB, cij] at ht
        have : ¬ p 0 j = 2147483647 := by omega
        have := ht this
        omega
    · rw [if_pos ⟨i0, cij⟩]
      rcases narOk_cases ok with ⟨h1, h2⟩ | ⟨h1, h2, h3, h4⟩
      · rw [h1]; rfl
      · rw [h2] at ht
        simp [tellsB, cij, i0] at ht
        omega
theorem told_at {n m : Nat} {p : Mat} {c : Row} (hm : m = (n + 1) * (n + 1)) (h : FullC n m p c) : ∀ K, K ≤ m → ∀ i j, i ≤ n → j ≤ n → tgs (toldL n c K) (startR n (n + 1) 0) i j = if i * (n + 1) + j < K then p i j else startV i j
  | 0, _, i, j, hi, hj => by rw [if_neg (by omega)]; exact startT_at hi hj
  | K + 1, hK, i, j, hi, hj => by
    have ih := told_at hm h K (by omega)
    have di : K / (n + 1) ≤ n := by have := Nat.div_lt_of_lt_mul (show K < (n + 1) * (n + 1) by omega); omega
    have dj : K % (n + 1) ≤ n := by have := Nat.mod_lt K (show 0 < n + 1 by omega); omega
    unfold toldL
    by_cases ht : tellsB (K / (n + 1)) (K % (n + 1)) (c K) = true
    · rw [if_pos ht, tgs_snoc]
      have ck : ¬ c K = 2147483647 := by
        intro e
        rw [e] at ht
        simp [tellsB] at ht
      show tg _ (K / (n + 1)) (K % (n + 1)) (c K) i j = _
      unfold tg
      rw [if_neg ck]
      unfold upd
      by_cases e : i = K / (n + 1) ∧ j = K % (n + 1)
      · obtain ⟨rfl, rfl⟩ := e
        rw [if_pos ⟨rfl, rfl⟩, ih _ _ di dj, if_neg (by rw [pos_back]; omega), if_pos (by rw [pos_back]; omega)]
        have ec := h.at hm di dj
        rw [pos_back] at ec
        have tv := tgV_narr (s := startV (K / (n + 1)) (K % (n + 1))) (q := p (K / (n + 1)) (K % (n + 1))) (by unfold startV; split; exact .inl rfl; exact .inr rfl) (h.le di dj) (h.ok hm di dj)
        rw [← ec] at tv
        unfold tgV at tv
        rw [if_neg ck] at tv
        exact tv
      · rw [if_neg e, ih i j hi hj]
        have ne : ¬ i * (n + 1) + j = K := fun q => e (posT_inj hj q)
        by_cases q : i * (n + 1) + j < K
        · rw [if_pos q, if_pos (by omega)]
        · rw [if_neg q, if_neg (by omega)]
    · rw [if_neg ht, ih i j hi hj]
      by_cases q : i * (n + 1) + j < K
      · rw [if_pos q, if_pos (by omega)]
      · rw [if_neg q]
        by_cases q2 : i * (n + 1) + j = K
        · rw [if_pos (by omega)]
          obtain ⟨rfl, rfl⟩ := posT_inj hj q2
          exact not_told hm h (by omega) (by simpa using ht)
        · rw [if_neg (by omega)]
theorem same_cells {n m : Nat} {M q : Mat} {d : Row} (hn : n ≤ 8) (hm : m = (n + 1) * (n + 1)) (h : FullC n m q d) (e : ∀ i j, i ≤ n → j ≤ n → M i j = q i j) : zoneR n M = some d := by
  have O : Ok n M := ok_of (fun i j hi hj => by rw [e i j hi hj]; exact F_fin (h.fin hm hi hj)) (fun i hi => by rw [e i i hi hi, h.cl.one i hi]; exact Int.le_refl _)
  obtain ⟨p, h1, h2⟩ := close_above hn h.cl O (fun i j hi hj => by rw [e i j hi hj]; exact Int.le_refl _)
  have R := close_rounds hn O.fin O.diag h1
  have eq : ∀ i j, i ≤ n → j ≤ n → p i j = q i j := fun i j hi hj => Int.le_antisymm (by rw [← e i j hi hj]; exact R.le i j hi hj) (h2 i j hi hj)
  unfold zoneR
  rw [h1, ← hm]
  show (if narAll n p m = true then some (cellsUpto n p m) else none) = some d
  rw [narAll_congr eq m (by omega), cellsUpto_congr eq m (by omega), if_pos h.nar, ← h.cells]
theorem told_zone {n m : Nat} {p : Mat} {c : Row} (hn : n ≤ 8) (hm : m = (n + 1) * (n + 1)) (h : FullC n m p c) : zoneR n (tgs (toldL n c m) (startR n (n + 1) 0)) = some c :=
  same_cells hn hm h fun i j hi hj => by rw [told_at hm h m (Nat.le_refl _) i j hi hj, if_pos (by rw [hm]; exact pos_lt hi hj)]
/-- What may stand in a text: two clocks, and a finite bound. -/
def Good3 (n : Nat) (x : Cell3) : Prop := x.1 ≤ n ∧ x.2.1 ≤ n ∧ finB x.2.2 = true
theorem told_good {n m : Nat} {p : Mat} {c : Row} (hm : m = (n + 1) * (n + 1)) (h : FullC n m p c) : ∀ K, K ≤ m → ∀ x ∈ toldL n c K, Good3 n x
  | 0, _, x, hx => by simp [toldL] at hx
  | K + 1, hK, x, hx => by
    have ih := told_good hm h K (by omega)
    unfold toldL at hx
    split at hx
    · rename_i ht
      rcases List.mem_append.1 hx with q | q
      · exact ih x q
      · rw [List.mem_singleton.1 q]
        have di : K / (n + 1) ≤ n := by have := Nat.div_lt_of_lt_mul (show K < (n + 1) * (n + 1) by omega); omega
        have dj : K % (n + 1) ≤ n := by have := Nat.mod_lt K (show 0 < n + 1 by omega); omega
        refine ⟨di, dj, ?_⟩
        have ec := h.at hm di dj
        rw [pos_back] at ec
        rcases narOk_cases (h.ok hm di dj) with ⟨h1, h2⟩ | ⟨h1, h2, h3, h4⟩
        · rw [ec, h2] at ht
          simp [tellsB] at ht
        · show finB (c K) = true
          rw [ec, h2]
          exact (fin_iff _).2 ⟨h3, h4⟩
    · exact ih x hx
/-- Tightened matrices may be closed. -/
structure Fit (n : Nat) (r : Mat) : Prop where
  ok : Ok n r
  low : ∀ j, j ≤ n → r 0 j ≤ 1
theorem start_fit (n : Nat) : Fit n (startR n (n + 1) 0) := by
  have hv : ∀ i j, startV i j = opn ∨ startV i j = 1 := fun i j => by unfold startV; split; exact .inl rfl; exact .inr rfl
  refine ⟨ok_of (fun i j hi hj => ?_) (fun i hi => ?_), fun j hj => ?_⟩
  · rw [startT_at hi hj]
    rcases hv i j with e | e
    · exact .inl e
    · rw [e]; exact .inr ⟨by omega, by omega⟩
  · rw [startT_at hi hi]
    unfold startV
    rw [if_neg (by omega)]
    exact Int.le_refl _
  · rw [startT_at (by omega) hj]
    unfold startV
    rw [if_neg (by omega)]
    exact Int.le_refl _
theorem Fit.tg {n i j : Nat} {r : Mat} {b : Int} (h : Fit n r) (hb : rightB b = true) : Fit n (Go.Proofs.YtdkolgndebkloaaGreatDoor.tg r i j b) := by
  have hb := of_decide_eq_true hb
  unfold Go.Proofs.YtdkolgndebkloaaGreatDoor.tg
  split
  · exact h
  · refine ⟨ok_of (fun a c ha hc => ?_) (fun a ha => ?_), fun c hc => ?_⟩
    · unfold upd
      split
      · rename_i q
        obtain ⟨rfl, rfl⟩ := q
        have f : Fin' 1073741824 (r a c) := h.ok.fin a c ha hc
        have ho := opn_val
        unfold Fin' at *
        omega
      · exact h.ok.fin a c ha hc
    · unfold upd
      split
      · rename_i q
        obtain ⟨rfl, e⟩ := q
        have := h.ok.diag a ha
        rw [← e]
        omega
      · exact h.ok.diag a ha
    · unfold upd
      split
      · rename_i q
        obtain ⟨e, rfl⟩ := q
        have := h.low c hc
        rw [← e]
        omega
      · exact h.low c hc
/-! ### The bytes of a text -/
def termT (x : Cell3) : List UInt8 := [120] ++ Lib.itoa (x.1 : Int) ++ [45, 120] ++ Lib.itoa (x.2.1 : Int) ++ printS x.2.2
theorem term3_T (x : Cell3) : term3 x = 32 :: termT x := by simp [term3, termS, termT]
theorem itoa_dig (i : Nat) (h : i ≤ 8) : Lib.itoa (i : Int) = [48 + i.toUInt8] := by
  unfold Lib.itoa
  rw [if_neg (by omega)]
  unfold Lib.decDigits
  match i, h with
  | 0, _ => rfl
  | 1, _ => rfl
  | 2, _ => rfl
  | 3, _ => rfl
  | 4, _ => rfl
  | 5, _ => rfl
  | 6, _ => rfl
  | 7, _ => rfl
  | 8, _ => rfl
theorem termT_form {n : Nat} {x : Cell3} (hn : n ≤ 8) (h : Good3 n x) : termT x = [120, 48 + x.1.toUInt8, 45, 120, 48 + x.2.1.toUInt8] ++ printS x.2.2 := by
  unfold termT
  rw [itoa_dig x.1 (by have := h.1; omega), itoa_dig x.2.1 (by have := h.2.1; omega)]
  simp
theorem dig_ne : ∀ i : Nat, i ≤ 8 → (48 + i.toUInt8 ≠ 32 ∧ 48 + i.toUInt8 ≠ 60 ∧ 48 + i.toUInt8 ≠ 45 ∧ 48 + i.toUInt8 ≠ 58)
  | 0, _ => by decide
  | 1, _ => by decide
  | 2, _ => by decide
  | 3, _ => by decide
  | 4, _ => by decide
  | 5, _ => by decide
  | 6, _ => by decide
  | 7, _ => by decide
  | 8, _ => by decide
theorem digitsT_ne (u : Nat) : ∀ c ∈ Lib.decDigits u, c ≠ 32 := by
  intro c hc e
  have := digits_allB u
  rw [List.all_eq_true] at this
  have := this c hc
  rw [e] at this
  revert this
  decide
theorem itoa_ne (v : Int) : ∀ c ∈ Lib.itoa v, c ≠ 32 := by
  intro c hc
  unfold Lib.itoa at hc
  split at hc
  · rcases List.mem_cons.1 hc with e | e
    · subst e; decide
    · exact digitsT_ne _ c e
  · exact digitsT_ne _ c hc
theorem printS_ne (b : Int) (h : finB b = true) : ∀ c ∈ printS b, c ≠ 32 := by
  intro c hc
  rw [printS_fin b h] at hc
  rcases List.mem_append.1 hc with e | e
  · split at e
    · rcases List.mem_cons.1 e with q | q
      · subst q; decide
      · rw [List.mem_singleton.1 q]; decide
    · rw [List.mem_singleton.1 e]; decide
  · exact itoa_ne _ c e
theorem termT_ne {n : Nat} {x : Cell3} (hn : n ≤ 8) (h : Good3 n x) : ∀ c ∈ termT x, c ≠ 32 := by
  intro c hc
  rw [termT_form hn h] at hc
  have d1 := (dig_ne x.1 (by have := h.1; omega)).1
  have d2 := (dig_ne x.2.1 (by have := h.2.1; omega)).1
  rcases List.mem_append.1 hc with e | e
  · simp at e
    rcases e with e | e | e | e | e
    · subst e; decide
    · subst e; exact d1
    · subst e; decide
    · subst e; decide
    · subst e; exact d2
  · exact printS_ne _ h.2.2 c e
theorem idx_none {b : UInt8} : ∀ {l : List UInt8}, (∀ c ∈ l, c ≠ b) → Lib.indexByte l b = -1
  | [], _ => rfl
  | c :: l, h => by
    have ih := idx_none (l := l) fun x hx => h x (by simp [hx])
    have hc := h c (by simp)
    simp [Lib.indexByte, hc, ih]
theorem idx_at {b : UInt8} {r : List UInt8} : ∀ {a : List UInt8}, (∀ c ∈ a, c ≠ b) → Lib.indexByte (a ++ b :: r) b = a.length
  | [], _ => by simp [Lib.indexByte]
  | c :: a, h => by
    have ih := idx_at (r := r) (a := a) fun x hx => h x (by simp [hx])
    have hc := h c (by simp)
    have ne : ¬ ((a.length : Int) = -1) := by omega
    simp [Lib.indexByte, hc, ih, ne]
/-- The first term of what is left of a text, and the rest. -/
def spT (T : List UInt8) : List UInt8 × List UInt8 := if Lib.indexByte T 32 = -1 then (T, []) else (T.take (Lib.indexByte T 32).toNat, T.drop (Lib.indexByte T 32).toNat)
theorem spT_len (T : List UInt8) : (spT T).1.length ≤ T.length ∧ (spT T).2.length ≤ T.length := by
  unfold spT
  split
  · simp
  · simp
    omega
theorem flat_form (l : List Cell3) : l.flatMap term3 = [] ∧ l = [] ∨ ∃ x l', l = x :: l' ∧ l.flatMap term3 = 32 :: (termT x ++ l'.flatMap term3) := by
  cases l with
  | nil => exact .inl ⟨rfl, rfl⟩
  | cons x l' => exact .inr ⟨x, l', rfl, by rw [List.flatMap_cons, term3_T]; rfl⟩
theorem spT_exact {n : Nat} {x : Cell3} (hn : n ≤ 8) (h : Good3 n x) (l : List Cell3) : spT (termT x ++ l.flatMap term3) = (termT x, l.flatMap term3) := by
  unfold spT
  rcases flat_form l with ⟨e, -⟩ | ⟨y, l', -, e⟩
  · rw [e, List.append_nil, if_pos (idx_none (termT_ne hn h))]
  · rw [e, idx_at (termT_ne hn h), if_neg (by omega)]
    simp
end Go.Proofs.YtdkolgndebkloaaGreatDoor

/-
  dbm.readClock, readTerm.
-/
namespace Go.Proofs.YtdkolgndebkloaaGreatDoor
open Go.RowKit Go.Shelf
set_option linter.unusedVariables false
set_option maxRecDepth 100000
theorem ilow_any (l : List UInt8) (x : UInt8) (w : World) : Calls Tryz.prog 51 #[.string ⟨l.toArray⟩, .int .u8 (x.toNat : Int)] w fun e w' => e = .returned (.int .i64 (Lib.indexByte l x)) ∧ w' = w := by
  have h := Tryz.strings_IndexByte ⟨l.toArray⟩ (x.toNat : Int) w
  have e : ((x.toNat : Int).toNat).toUInt8 = x := by simp
  rw [e] at h
  exact h
theorem readN_itoa (k : Nat) (hk : k ≤ 8) : readN (Lib.itoa (k : Int)) = k ∧ readS (Lib.itoa (k : Int)) = true := by
  unfold readN readS
  rw [readV_itoa k (by omega) (by omega)]
  exact ⟨rfl, rfl⟩
set_option maxHeartbeats 1000000 in
theorem rclk_any (s : List UInt8) (w : World) (hlim : s.length ≤ 1048576) (ht : Pow w) (he : Errs w) :
    Calls Tryz.prog 72 #[.string ⟨s.toArray⟩] w fun e w' => (∃ (i : Int) (ok : Bool), e = .returned (.tuple #[.int .i64 i, .bool ok]) ∧ Hid (∀ k : Nat, k ≤ 8 → s = 120 :: Lib.itoa (k : Int) → i = k ∧ ok = true)) ∧ Hid (Below w.heap.size w w') := by
  by_cases h : ∃ m, s = [120] ++ m
  · obtain ⟨m, rfl⟩ := h
    have H1 := hideD (cut_yes ⟨([120] ++ m).toArray⟩ [120] m w (by simp))
    have H2 := hideD (read_any ⟨m.toArray⟩ w (by simp [ByteArray.size] at *; omega) ht he)
    have FIN : Hid (∀ k : Nat, k ≤ 8 → [120] ++ m = 120 :: Lib.itoa (k : Int) → readN m = k ∧ readS m = true) := fun k hk e => by
      have : m = Lib.itoa (k : Int) := by simpa using e
      rw [this]
      exact readN_itoa k hk
    generalize ([120] ++ m).toArray = sa at *
    simp only at H2
    generalize readN m = i at *
    generalize readS m = ok at *
    clear hlim
    go_enter Tryz.func72, Tryz.ntmps72
    go_wp2_with fail
    refine H1.out.mono ?_
    rintro e w1 ⟨rfl, rfl⟩
    go_wp2_with fail
    refine H2.out.mono ?_
    rintro e w2 ⟨rfl, hb⟩
    have hB := hideD hb
    clear hb H1 H2 ht he
    cases ok
    · go_wp2_with fail
      exact bodyPost_ret (v := .tuple #[.int .i64 i, .bool false]) (by simp [results, Tryz.results72, go_sem]) rfl ⟨⟨_, _, rfl, FIN⟩, hB⟩
    · go_wp2_with fail
      exact bodyPost_ret (v := .tuple #[.int .i64 i, .bool true]) (by simp [results, Tryz.results72, go_sem]) rfl ⟨⟨_, _, rfl, fun k hk e => ⟨(FIN.out k hk e).1, rfl⟩⟩, hB⟩
  · have H1 := hideD (cut_no ⟨s.toArray⟩ [120] w (fun m e => h ⟨m, by simpa using e⟩))
    have H2 := hideD (read_any ⟨s.toArray⟩ w (by simp [ByteArray.size] at *; omega) ht he)
    have FIN : Hid (∀ k : Nat, k ≤ 8 → s = 120 :: Lib.itoa (k : Int) → readN s = k ∧ false = true) := fun k hk e => absurd ⟨_, by simpa using e⟩ h
    simp only at H2
    generalize readN s = i at *
    generalize readS s = ok at *
    generalize s.toArray = sa at *
    clear hlim h
    go_enter Tryz.func72, Tryz.ntmps72
    go_wp2_with fail
    refine H1.out.mono ?_
    rintro e w1 ⟨rfl, rfl⟩
    go_wp2_with fail
    refine H2.out.mono ?_
    rintro e w2 ⟨rfl, hb⟩
    have hB := hideD hb
    clear hb H1 H2 ht he
    go_wp2_with fail
    exact bodyPost_ret (v := .tuple #[.int .i64 i, .bool false]) (by simp [results, Tryz.results72, go_sem]) rfl ⟨⟨_, _, rfl, FIN⟩, hB⟩
theorem printS_head (b : Int) (h : finB b = true) : ∃ r, printS b = 60 :: r := by
  rw [printS_fin b h]
  split
  · exact ⟨_, rfl⟩
  · exact ⟨_, rfl⟩
theorem term_idx {n : Nat} {x : Cell3} (hn : n ≤ 8) (h : Good3 n x) : Lib.indexByte (termT x) 60 = 5 ∧ (termT x).take 5 = [120, 48 + x.1.toUInt8, 45, 120, 48 + x.2.1.toUInt8] ∧ (termT x).drop 5 = printS x.2.2 := by
  rw [termT_form hn h]
  obtain ⟨r, e⟩ := printS_head x.2.2 h.2.2
  have d1 := (dig_ne x.1 (by have := h.1; omega)).2.1
  have d2 := (dig_ne x.2.1 (by have := h.2.1; omega)).2.1
  refine ⟨?_, by simp, by simp⟩
  rw [e]
  simp [Lib.indexByte, d1, d2]
theorem term_cut {n : Nat} {x : Cell3} (hn : n ≤ 8) (h : Good3 n x) : cutB 45 [120, 48 + x.1.toUInt8, 45, 120, 48 + x.2.1.toUInt8] = (120 :: Lib.itoa (x.1 : Int), 120 :: Lib.itoa (x.2.1 : Int), true) := by
  have d1 := (dig_ne x.1 (by have := h.1; omega)).2.2.1
  rw [itoa_dig x.1 (by have := h.1; omega), itoa_dig x.2.1 (by have := h.2.1; omega)]
  simp [cutB, d1]
/-- What a term of a text is. -/
def TermIs (s : List UInt8) (i j b : Int) (ok : Bool) : Prop := (ok = true → rightB b = true) ∧ ∀ (n : Nat) (x : Cell3), n ≤ 8 → Good3 n x → s = termT x → i = x.1 ∧ j = x.2.1 ∧ b = x.2.2 ∧ ok = true
theorem parseIs_right {s : List UInt8} {b e : Int} (h : ParseIs s b e) : e = 0 → rightB b = true := fun e0 => by
  rcases h with ⟨_, h, _⟩ | ⟨h, _⟩
  · exact h
  · omega
theorem parseIs_print {b b' e' : Int} (h : rightB b = true) (h' : ParseIs (printS b) b' e') : b' = b ∧ e' = 0 := (ParseIs.one h' (.inl ⟨rfl, h, rfl⟩))
theorem parseIs_i32 {s : List UInt8} {b e : Int} (h : ParseIs s b e) : -2147483648 ≤ b ∧ b ≤ 2147483647 := by
  rcases h with ⟨_, h, _⟩ | ⟨_, h, _⟩
  · have := of_decide_eq_true h
    omega
  · omega
set_option maxHeartbeats 4000000 in
theorem rterm_any (s : List UInt8) (w : World) (hlim : s.length ≤ 1048576) (ht : Pow w) (he : Errs w) :
    Calls Tryz.prog 52 #[.string ⟨s.toArray⟩] w fun e w' => (∃ (i j b : Int) (ok : Bool), e = .returned (.tuple #[.agg #[.int .i64 i, .int .i64 j, .int .i32 b], .bool ok]) ∧ Hid (TermIs s i j b ok)) ∧ Hid (Below w.heap.size w w') := by
  have H1 : Hid (∀ w, Calls Tryz.prog 51 #[.string ⟨s.toArray⟩, .int .u8 60] w fun e w' => e = .returned (.int .i64 (Lib.indexByte s 60)) ∧ w' = w) := fun w => ilow_any s 60 w
  have B0 := hideD (below_one w (.cells #[.int .i64 0, .int .i64 0, .int .i32 0] 49))
  have ht0 := hideD (pow_later ht B0.out)
  have he0 := hideD (errs_later he B0.out)
  rcases cutB_index 60 s with ⟨hx, -⟩ | ⟨k, hx, hk, -⟩
  · rw [hx] at H1
    have FIN : Hid (TermIs s 0 0 0 false) := ⟨fun h => (by cases h), fun n x hn hg e => (by
      subst e
      rw [(term_idx hn hg).1] at hx
      cases hx)⟩
    clear hx hlim ht he ht0 he0
    go_enter Tryz.func52, Tryz.ntmps52
    go_wp2_with fail
    refine (H1.out _).mono ?_
    rintro e w1 ⟨rfl, rfl⟩
    go_wp2_with fail
    exact bodyPost_ret (v := .tuple #[.agg #[.int .i64 0, .int .i64 0, .int .i32 0], .bool false]) (by simp [results, Tryz.results52, go_sem]) rfl ⟨⟨_, _, _, _, rfl, FIN⟩, B0⟩
  · rw [hx] at H1
    have e1 : (⟨s.toArray⟩ : ByteArray).extract 0 k = ⟨(s.take k).toArray⟩ := take_bytes ⟨s.toArray⟩ k (by simp [ByteArray.size]; omega)
    have e2 : (⟨s.toArray⟩ : ByteArray).extract k s.length = ⟨(s.drop k).toArray⟩ := by
      have := drop_bytes ⟨s.toArray⟩ k
      simpa [ByteArray.size] using this
    have HC : Hid (∀ w, Calls Tryz.prog 47 #[.string ⟨(s.take k).toArray⟩, .string ⟨#[45]⟩] w fun e w' => e = .returned (.tuple #[.string ⟨(cutB 45 (s.take k)).1.toArray⟩, .string ⟨(cutB 45 (s.take k)).2.1.toArray⟩, .bool (cutB 45 (s.take k)).2.2]) ∧ Below w.heap.size w w') := fun w => cutB_any 45 ⟨(s.take k).toArray⟩ w (by simp [ByteArray.size]; omega)
    have hl1 := cutB_len 45 (s.take k)
    rw [List.length_take] at hl1
    have HK1 := hideD (fun w ht he => rclk_any (cutB 45 (s.take k)).1 w (by omega) ht he)
    have HK2 := hideD (fun w ht he => rclk_any (cutB 45 (s.take k)).2.1 w (by omega) ht he)
    have HP := hideD (fun w ht he => parse_any ⟨(s.drop k).toArray⟩ w (by simp [ByteArray.size]; omega) ht he)
    have FIN : Hid (∀ (i j b er : Int) (o1 o2 : Bool), (∀ q : Nat, q ≤ 8 → (cutB 45 (s.take k)).1 = 120 :: Lib.itoa (q : Int) → i = q ∧ o1 = true) → (∀ q : Nat, q ≤ 8 → (cutB 45 (s.take k)).2.1 = 120 :: Lib.itoa (q : Int) → j = q ∧ o2 = true) → ParseIs (s.drop k) b er → TermIs s i j b (o1 && o2 && decide (er = 0))) := fun i j b er o1 o2 h1 h2 h3 => by
      refine ⟨fun h => parseIs_right h3 (by simp at h; exact h.2), fun n x hn hg e => ?_⟩
      subst e
      obtain ⟨t1, t2, t3⟩ := term_idx hn hg
      obtain rfl : k = 5 := by rw [t1] at hx; omega
      rw [t2, term_cut hn hg] at h1 h2
      rw [t3] at h3
      obtain ⟨a1, a2⟩ := h1 x.1 (by have := hg.1; omega) rfl
      obtain ⟨a3, a4⟩ := h2 x.2.1 (by have := hg.2.1; omega) rfl
      obtain ⟨a5, a6⟩ := parseIs_print (by have := (fin_iff x.2.2).1 hg.2.2; exact decide_eq_true (.inr this)) h3
      exact ⟨a1, a3, a5, by simp [a2, a4, a6]⟩
    have k0 : (0 : Int) ≤ (k : Int) := by omega
    have k1 : (k : Int) ≤ (s.length : Int) := by omega
    have k2 : ¬ ((k : Int) < 0) := by omega
    have sz : (⟨s.toArray⟩ : ByteArray).size = s.length := by simp [ByteArray.size]
    generalize (cutB 45 (s.take k)).1 = sa at *
    generalize (cutB 45 (s.take k)).2.1 = sb at *
    generalize (cutB 45 (s.take k)).2.2 = sc at *
    generalize (s.take k).toArray = st at *
    generalize hd : (s.drop k).toArray = sd at *
    clear hx hlim hl1 hk
    go_enter Tryz.func52, Tryz.ntmps52
    go_wp2_with fail
    refine (H1.out _).mono ?_
    rintro e w1 ⟨rfl, rfl⟩
    go_wp2_with fail
    refine (HC.out _).mono ?_
    rintro e w2 ⟨rfl, hb2⟩
    have B2 := hideD (beyondD B0.out hb2)
    have HK1' := hideD (HK1.out w2 (pow_later ht B2.out) (errs_later he B2.out))
    have f0 := kc ⟨w.heap.size, 0, none⟩ (.int .i64 0) hb2 (by simp [go_sem])
    have f1 := kc ⟨w.heap.size, 1, none⟩ (.int .i64 0) hb2 (by simp [go_sem])
    have f2 := kc ⟨w.heap.size, 2, none⟩ (.int .i32 0) hb2 (by simp [go_sem])
    have z0 := kf ⟨w.heap.size, 0, none⟩ (.int .i64 0) hb2 (by simp [go_sem]) (by simp [go_sem])
    have z1 := kf ⟨w.heap.size, 1, none⟩ (.int .i64 0) hb2 (by simp [go_sem]) (by simp [go_sem])
    have z2 := kf ⟨w.heap.size, 2, none⟩ (.int .i32 0) hb2 (by simp [go_sem]) (by simp [go_sem])
    clear hb2 HC HK1 B0 H1 ht0 he0
    have ht' := hideD ht
    have he' := hideD he
    clear ht he
    go_wp2_with fail
    refine HK1'.out.mono ?_
    rintro e w3 ⟨⟨i, o1, rfl, hi⟩, hb3⟩
    have B3 := hideD (beyondD B2.out hb3.out)
    have HK2' := hideD (HK2.out w3 (pow_later ht'.out B3.out) (errs_later he'.out B3.out))
    have g0 := kc _ _ hb3.out f0
    have g1 := kc _ _ hb3.out f1
    have g2 := kc _ _ hb3.out f2
    have y0 := kf _ _ hb3.out f0 z0
    have y1 := kf _ _ hb3.out f1 z1
    have y2 := kf _ _ hb3.out f2 z2
    clear hb3 HK1' HK2 B2 f0 f1 f2 z0 z1 z2
    go_wp2_with fail
    refine HK2'.out.mono ?_
    rintro e w4 ⟨⟨j, o2, rfl, hj⟩, hb4⟩
    have B4 := hideD (beyondD B3.out hb4.out)
    have HP' := hideD (HP.out w4 (pow_later ht'.out B4.out) (errs_later he'.out B4.out))
    have f0 := kc _ _ hb4.out g0
    have f1 := kc _ _ hb4.out g1
    have f2 := kc _ _ hb4.out g2
    have z0 := kf _ _ hb4.out g0 y0
    have z1 := kf _ _ hb4.out g1 y1
    have z2 := kf _ _ hb4.out g2 y2
    clear hb4 HK2' HP B3 g0 g1 g2 y0 y1 y2
    go_wp2_with fail
    refine HP'.out.mono ?_
    rintro e w5 ⟨b, er, rfl, hp, hb5⟩
    have B5 := hideD (beyondD B4.out hb5)
    have g0 := kc _ _ hb5 f0
    have g1 := kc _ _ hb5 f1
    have g2 := kc _ _ hb5 f2
    have y0 := kf _ _ hb5 f0 z0
    have y1 := kf _ _ hb5 f1 z1
    have y2 := kf _ _ hb5 f2 z2
    have F := hideD (FIN.out i j b er o1 o2 hi.out hj.out (by rw [← hd] at hp; simpa using hp))
    clear hb5 HP' B4 f0 f1 f2 z0 z1 z2 FIN hi hj hp
    have eo : decide (er = 0) = (er == 0) := by by_cases h : er = 0 <;> simp [h]
    rw [eo] at F
    cases o1
    · go_wp2_with fail
      exact bodyPost_ret (v := .tuple #[.agg #[.int .i64 i, .int .i64 j, .int .i32 b], .bool false]) (by simp [results, Tryz.results52, go_sem, *]) rfl ⟨⟨i, j, b, _, rfl, by show TermIs _ _ _ _ _; simpa using F.out⟩, ((B5.out.setCell (p := ⟨w.heap.size, 0, none⟩) (Nat.le_refl _) _).setCell (p := ⟨w.heap.size, 1, none⟩) (Nat.le_refl _) _).setCell (p := ⟨w.heap.size, 2, none⟩) (Nat.le_refl _) _⟩
    · cases o2
      · go_wp2_with fail
        exact bodyPost_ret (v := .tuple #[.agg #[.int .i64 i, .int .i64 j, .int .i32 b], .bool false]) (by simp [results, Tryz.results52, go_sem, *]) rfl ⟨⟨i, j, b, _, rfl, by show TermIs _ _ _ _ _; simpa using F.out⟩, ((B5.out.setCell (p := ⟨w.heap.size, 0, none⟩) (Nat.le_refl _) _).setCell (p := ⟨w.heap.size, 1, none⟩) (Nat.le_refl _) _).setCell (p := ⟨w.heap.size, 2, none⟩) (Nat.le_refl _) _⟩
      · go_wp2_with fail
        exact bodyPost_ret (v := .tuple #[.agg #[.int .i64 i, .int .i64 j, .int .i32 b], .bool (er == 0)]) (by simp [results, Tryz.results52, go_sem, *]) rfl ⟨⟨i, j, b, _, rfl, by show TermIs _ _ _ _ _; simpa using F.out⟩, ((B5.out.setCell (p := ⟨w.heap.size, 0, none⟩) (Nat.le_refl _) _).setCell (p := ⟨w.heap.size, 1, none⟩) (Nat.le_refl _) _).setCell (p := ⟨w.heap.size, 2, none⟩) (Nat.le_refl _) _⟩
end Go.Proofs.YtdkolgndebkloaaGreatDoor

/-
  What is left of a text while it is read, and what was read of it.
-/
namespace Go.Proofs.YtdkolgndebkloaaGreatDoor
open Go.RowKit
set_option linter.unusedVariables false
set_option maxRecDepth 100000
structure ReadSt (s : List UInt8) (n : Nat) (R : List UInt8) (r : Mat) : Prop where
  fit : Fit n r
  told : ∀ c p, FullC n ((n + 1) * (n + 1)) p c → s = printZ n c → ∃ l1 l2, toldL n c ((n + 1) * (n + 1)) = l1 ++ l2 ∧ R = l2.flatMap term3 ∧ r = tgs l1 (startR n (n + 1) 0)
theorem ReadSt.head {s : List UInt8} {n : Nat} {R : List UInt8} {r : Mat} (h : ReadSt s n R r) (h0 : R ≠ []) (h1 : ∀ T, R ≠ 32 :: T) : ∀ c p, FullC n ((n + 1) * (n + 1)) p c → s ≠ printZ n c := fun c p hp e => by
  obtain ⟨l1, l2, -, e2, -⟩ := h.told c p hp e
  rcases flat_form l2 with ⟨e3, -⟩ | ⟨x, l', -, e3⟩
  · exact h0 (e2.trans e3)
  · exact h1 _ (e2.trans e3)
theorem ReadSt.done {s : List UInt8} {n : Nat} {r : Mat} (hn : n ≤ 8) (h : ReadSt s n [] r) : ∀ c p, FullC n ((n + 1) * (n + 1)) p c → s = printZ n c → zoneR n r = some c := fun c p hp e => by
  obtain ⟨l1, l2, e1, e2, e3⟩ := h.told c p hp e
  rcases flat_form l2 with ⟨-, e4⟩ | ⟨x, l', -, e4⟩
  · rw [e4, List.append_nil] at e1
    rw [e3, ← e1]
    exact told_zone hn rfl hp
  · rw [e4] at e2; cases e2
theorem ReadSt.term {s T : List UInt8} {n : Nat} {r : Mat} {i j b : Int} {ok : Bool} (hn : n ≤ 8) (h : ReadSt s n (32 :: T) r) (ht : TermIs (spT T).1 i j b ok) : ∀ c p, FullC n ((n + 1) * (n + 1)) p c → s = printZ n c → ok = true ∧ (0 ≤ i ∧ i ≤ n ∧ 0 ≤ j ∧ j ≤ n) := fun c p hp e => by
  obtain ⟨l1, l2, e1, e2, e3⟩ := h.told c p hp e
  rcases flat_form l2 with ⟨e4, -⟩ | ⟨x, l', e5, e4⟩
  · rw [e4] at e2; cases e2
  · rw [e4] at e2
    have eT : T = termT x ++ l'.flatMap term3 := by simpa using e2
    have g : Good3 n x := told_good rfl hp _ (Nat.le_refl _) x (by rw [e1, e5]; simp)
    rw [eT, spT_exact hn g l'] at ht
    obtain ⟨q1, q2, q3, q4⟩ := ht.2 n x hn g rfl
    have := g.1
    have := g.2.1
    exact ⟨q4, by omega⟩
theorem ReadSt.next {s T : List UInt8} {n : Nat} {r : Mat} {i j b : Int} (hn : n ≤ 8) (h : ReadSt s n (32 :: T) r) (ht : TermIs (spT T).1 i j b true) : ReadSt s n (spT T).2 (tg r i.toNat j.toNat b) := by
  refine ⟨h.fit.tg (ht.1 rfl), fun c p hp e => ?_⟩
  obtain ⟨l1, l2, e1, e2, e3⟩ := h.told c p hp e
  rcases flat_form l2 with ⟨e4, -⟩ | ⟨x, l', e5, e4⟩
  · rw [e4] at e2; cases e2
  · rw [e4] at e2
    have eT : T = termT x ++ l'.flatMap term3 := by simpa using e2
    have g : Good3 n x := told_good rfl hp _ (Nat.le_refl _) x (by rw [e1, e5]; simp)
    rw [eT, spT_exact hn g l'] at ht ⊢
    obtain ⟨q1, q2, q3, -⟩ := ht.2 n x hn g rfl
    refine ⟨l1 ++ [x], l', by rw [e1, e5]; simp, rfl, ?_⟩
    rw [tgs_snoc, ← e3, q1, q2, q3]
    rfl
/-- The number of clocks ahead of a text. -/
theorem head_cut (n : Nat) (c : Row) (hn : n ≤ 8) : ∃ R, printZ n c = Lib.itoa (n : Int) ++ 58 :: R ∧ cutB 58 (printZ n c) = (Lib.itoa (n : Int), R, true) ∧ (c 0 < 1 → R = [32, 101, 109, 112, 116, 121]) ∧ (¬ c 0 < 1 → R = (toldL n c ((n + 1) * (n + 1))).flatMap term3) := by
  have d : ∀ x ∈ Lib.itoa (n : Int), x ≠ 58 := by
    rw [itoa_dig n hn]
    intro x hx
    rw [List.mem_singleton.1 hx]
    exact (dig_ne n hn).2.2.2
  by_cases h : c 0 < 1
  · refine ⟨[32, 101, 109, 112, 116, 121], ?_, ?_, fun _ => rfl, fun q => absurd h q⟩
    · simp [printZ, h, headS]
    · have : printZ n c = Lib.itoa (n : Int) ++ [58] ++ [32, 101, 109, 112, 116, 121] := by simp [printZ, h, headS]
      rw [this]
      exact cutB_one d
  · have e : printZ n c = Lib.itoa (n : Int) ++ [58] ++ (toldL n c ((n + 1) * (n + 1))).flatMap term3 := by rw [printZ, if_neg h, acc_told]; rfl
    refine ⟨_, by rw [e]; simp, by rw [e]; exact cutB_one d, fun q => absurd q h, fun _ => rfl⟩
theorem empty_told {l : List Cell3} : l.flatMap term3 ≠ [32, 101, 109, 112, 116, 121] := by
  intro e
  rcases flat_form l with ⟨e2, -⟩ | ⟨x, l', -, e2⟩
  · rw [e2] at e; cases e
  · rw [e2] at e
    unfold termT at e
    simp at e
/-- What may be told of a text that was read. -/
def ReadIs (s : List UInt8) (Z : Nat → Row → Prop) (ok : Bool) : Prop := (ok = true → ∃ n c, n ≤ 8 ∧ ZC n ((n + 1) * (n + 1)) c ∧ Z n c) ∧ ∀ n c, n ≤ 8 → ZC n ((n + 1) * (n + 1)) c → s = printZ n c → ok = true ∧ Z n c
/-- The beginning of a text that is one of a zone. -/
theorem head_is {s : List UInt8} {n : Nat} {c : Row} (hn : n ≤ 8) (e : s = printZ n c) : readN (cutB 58 s).1 = n ∧ readS (cutB 58 s).1 = true := by
  obtain ⟨R, -, e2, -⟩ := head_cut n c hn
  rw [e, e2]
  exact readN_itoa n hn
theorem read_none {s : List UInt8} {Z : Nat → Row → Prop} (h : ¬ (readS (cutB 58 s).1 = true ∧ 0 ≤ readN (cutB 58 s).1 ∧ readN (cutB 58 s).1 ≤ 8)) : ReadIs s Z false :=
  ⟨fun q => (by cases q), fun n c hn hz e => by
    obtain ⟨h1, h2⟩ := head_is hn e
    exact absurd ⟨h2, by omega, by omega⟩ h⟩
theorem zc_full {n m : Nat} {c : Row} (hm : m = (n + 1) * (n + 1)) (h : ZC n m c) : (c = fun _ => 0) ∨ ((∃ p, FullC n m p c) ∧ ¬ c 0 < 1) := by
  rcases h with h | ⟨p, hp⟩
  · exact .inl h
  · exact .inr ⟨⟨p, hp⟩, by rw [hp.zero hm]; omega⟩
theorem read_empty {s : List UInt8} {N : Nat} {Z : Nat → Row → Prop} (hN : readN (cutB 58 s).1 = N) (h8 : N ≤ 8) (h : (cutB 58 s).2.1 = [32, 101, 109, 112, 116, 121]) (hZ : Z N (fun _ => 0)) : ReadIs s Z true :=
  ⟨fun _ => ⟨N, _, h8, .inl rfl, hZ⟩, fun n c hn hz e => by
    obtain ⟨h1, h2⟩ := head_is hn e
    have en : n = N := by omega
    subst en
    obtain ⟨R, -, e2, e3, e4⟩ := head_cut n c hn
    rcases zc_full rfl hz with rfl | ⟨-, h0⟩
    · exact ⟨rfl, hZ⟩
    · rw [e, e2, e4 h0] at h
      exact absurd h empty_told⟩
theorem read_start {s : List UInt8} {N : Nat} (hN : readN (cutB 58 s).1 = N) (h8 : N ≤ 8) (h : (cutB 58 s).2.1 ≠ [32, 101, 109, 112, 116, 121]) : ReadSt s N (cutB 58 s).2.1 (startR N (N + 1) 0) :=
  ⟨start_fit N, fun c p hp e => by
    obtain ⟨R, -, e2, e3, e4⟩ := head_cut N c h8
    refine ⟨[], _, rfl, ?_, rfl⟩
    rw [e, e2]
    exact e4 (by rw [hp.zero rfl]; omega)⟩
/-- All of a text that is one of a zone leads on. -/
theorem read_bad {s : List UInt8} {N : Nat} {Z : Nat → Row → Prop} (hN : readN (cutB 58 s).1 = N) (h : (cutB 58 s).2.1 ≠ [32, 101, 109, 112, 116, 121]) (hb : ∀ c p, FullC N ((N + 1) * (N + 1)) p c → s ≠ printZ N c) : ReadIs s Z false :=
  ⟨fun q => (by cases q), fun n c hn hz e => by
    obtain ⟨h1, h2⟩ := head_is hn e
    have en : n = N := by omega
    subst en
    rcases zc_full rfl hz with rfl | ⟨⟨p, hp⟩, -⟩
    · obtain ⟨R, -, e2, e3, -⟩ := head_cut n (fun _ => 0) hn
      rw [e, e2, e3 (by omega)] at h
      exact absurd rfl h
    · exact absurd e (hb c p hp)⟩
theorem read_good {s : List UInt8} {N : Nat} {d : Row} {Z : Nat → Row → Prop} (hN : readN (cutB 58 s).1 = N) (h8 : N ≤ 8) (h : (cutB 58 s).2.1 ≠ [32, 101, 109, 112, 116, 121]) (zd : ZC N ((N + 1) * (N + 1)) d) (hZ : Z N d) (hb : ∀ c p, FullC N ((N + 1) * (N + 1)) p c → s = printZ N c → d = c) : ReadIs s Z true :=
  ⟨fun _ => ⟨N, d, h8, zd, hZ⟩, fun n c hn hz e => by
    obtain ⟨h1, h2⟩ := head_is hn e
    have en : n = N := by omega
    subst en
    rcases zc_full rfl hz with rfl | ⟨⟨p, hp⟩, -⟩
    · obtain ⟨R, -, e2, e3, -⟩ := head_cut n (fun _ => 0) hn
      rw [e, e2, e3 (by omega)] at h
      exact absurd rfl h
    · rw [← hb c p hp e]; exact ⟨rfl, hZ⟩⟩
end Go.Proofs.YtdkolgndebkloaaGreatDoor
