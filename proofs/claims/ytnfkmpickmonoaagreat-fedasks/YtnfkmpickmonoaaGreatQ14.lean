/-
  What two zones have in common, in numbers: And and Constrain by all cells are one.
-/
import Derived.Test.YtnfkmpickmonoaaGreatQ11
import Derived.Test.YtnfkmpickmonoaaGreatQ12
import Derived.Test.YtnfkmpickmonoaaGreatQ13
import Derived.Maps.AppendAt
namespace Go.Proofs.YtnfkmpickmonoaaGreat
open Go.RowKit
set_option linter.unusedVariables false
set_option maxRecDepth 100000
theorem le_limM {r : Mat} {a b i j : Nat} {v x : Int} : x ≤ limM r a b v i j ↔ (x ≤ r i j ∧ (a = i → b = j → x ≤ v)) := by
  unfold limM upd
  by_cases e : i = a ∧ j = b
  · obtain ⟨rfl, rfl⟩ := e
    rw [if_pos ⟨rfl, rfl⟩]
    constructor
    · intro h; exact ⟨by omega, fun _ _ => by omega⟩
    · rintro ⟨h1, h2⟩; have := h2 rfl rfl; omega
  · rw [if_neg e]
    constructor
    · intro h; exact ⟨h, fun e1 e2 => absurd ⟨e1.symm, e2.symm⟩ e⟩
    · exact fun h => h.1
theorem le_limK {L : Lims} {r : Mat} {i j : Nat} {x : Int} : ∀ K, x ≤ limK L K r i j ↔ (x ≤ r i j ∧ ∀ k, k < K → (L.i k).toNat = i → (L.j k).toNat = j → x ≤ L.b k)
  | 0 => ⟨fun h => ⟨h, fun k hk => by omega⟩, fun h => h.1⟩
  | K + 1 => by
    rw [show limK L (K + 1) r = limM (limK L K r) (L.i K).toNat (L.j K).toNat (L.b K) from rfl, le_limM, le_limK K]
    constructor
    · rintro ⟨⟨h1, h2⟩, h3⟩
      refine ⟨h1, fun k hk e1 e2 => ?_⟩
      by_cases q : k = K
      · subst q; exact h3 e1 e2
      · exact h2 k (by omega) e1 e2
    · rintro ⟨h1, h2⟩
      exact ⟨⟨h1, fun k hk => h2 k (by omega)⟩, h2 K (by omega)⟩
theorem eq_of_le {a b : Int} (h : ∀ x, x ≤ a ↔ x ≤ b) : a = b := Int.le_antisymm ((h a).1 (Int.le_refl _)) ((h b).2 (Int.le_refl _))
theorem rows_of {n m : Nat} {M : Mat} {l : Row} (hm : m = (n + 1) * (n + 1)) (h : ∀ i j, i ≤ n → j ≤ n → M i j = l (i * (n + 1) + j)) : rowsL n M (n + 1) = listOf l m := by
  rw [rowsL, ← hm]
  refine listOf_congr _ _ _ fun k hk => ?_
  rw [hm] at hk
  unfold flat
  rw [h _ _ (by have := Nat.div_lt_of_lt_mul hk; omega) (by have := Nat.mod_lt k (show 0 < n + 1 by omega); omega), Nat.mul_comm, Nat.div_add_mod]
theorem oR_at {n m : Nat} {c : Row} (hm : m = (n + 1) * (n + 1)) {i j : Nat} (hi : i ≤ n) (hj : j ≤ n) : oR n c m i j = c (i * (n + 1) + j) := by
  unfold oR
  rw [if_pos ⟨hj, by rw [hm]; exact pos_lt hi hj⟩]
/-- All cells may be. -/
theorem zc_right {n m : Nat} {c : Row} (hm : m = (n + 1) * (n + 1)) (h : ZC n m c) (k : Nat) : rightB (c k) = true := by
  rcases h with rfl | ⟨p, hp⟩
  · rfl
  · rw [hp.cells]
    unfold cellsUpto
    split
    · exact narB_right _
    · rfl
theorem right_min {c d : Row} {k : Nat} (h1 : rightB (c k) = true) (h2 : rightB (d k) = true) : rightB (minR c d k) = true := by
  have e : minR c d k = c k ∨ minR c d k = d k := by unfold minR; omega
  rcases e with e | e
  · rw [e]; exact h1
  · rw [e]; exact h2
/-- A zone's cells are below what it was made of. -/
theorem zone_below {n m : Nat} {l : Row} {c3 : Row} (hn : n ≤ 8) (hm : m = (n + 1) * (n + 1)) (hl : ∀ k, rightB (l k) = true) (hz : zoneR n (drf n m (listOf l m)) = some c3) : c3 = (fun _ => 0) ∨ (c3 0 = 1 ∧ ∀ k, k < m → c3 k ≤ l k) := by
  have hr : RightL m (listOf l m) := fun k hk => by
    rw [listOf_get _ _ _ hk]
    have := hl k
    simpa only [rightB, decide_eq_true_eq] using this
  have hO := drf_ok n m _ hm hr
  have hz' := hz
  unfold zoneR at hz
  rw [← hm] at hz
  cases e : closeR n (drf n m (listOf l m)) with
  | none =>
    rw [e] at hz
    cases hz
    exact .inl rfl
  | some p =>
    rw [e] at hz
    have hz : (if narAll n p m = true then some (cellsUpto n p m) else none) = some c3 := hz
    split at hz
    · rename_i na
      cases hz
      have R := close_rounds hn hO.fin hO.diag e
      have F : FullC n m p (cellsUpto n p m) := ⟨R.cl hn, fun j hj => Int.le_trans (R.le 0 j (by omega) hj) (drf_low n m _ hm j hj), na, rfl⟩
      refine .inr ⟨F.zero hm, fun k hk => ?_⟩
      have hk' := hk
      rw [hm] at hk'
      have d1 : k / (n + 1) ≤ n := by have := Nat.div_lt_of_lt_mul hk'; omega
      have d2 : k % (n + 1) ≤ n := by have := Nat.mod_lt k (show 0 < n + 1 by omega); omega
      have ek : k / (n + 1) * (n + 1) + k % (n + 1) = k := by rw [Nat.mul_comm]; exact Nat.div_add_mod k (n + 1)
      have a := F.at hm d1 d2
      rw [ek] at a
      rw [a]
      have le := R.le _ _ d1 d2
      rw [drf_at n m _ hm _ _ d1 d2, ek, listOf_get _ _ _ hk] at le
      have hlk := hl k
      simp only [rightB, decide_eq_true_eq] at hlk
      have ho := opn_val
      rcases narOk_cases (F.ok hm d1 d2) with ⟨h1, h2⟩ | ⟨h1, h2, h3, h4⟩
      · rw [h2]
        unfold tgV at le
        split at le
        · omega
        · omega
      · rw [h2]
        unfold tgV at le
        split at le
        · omega
        · omega
    · cases hz
end Go.Proofs.YtnfkmpickmonoaaGreat

/-
  The walk of the statement OpsCells.
-/
namespace Go.Proofs.YtnfkmpickmonoaaGreat
open Go.RowKit
set_option linter.unusedVariables false
set_option maxRecDepth 100000
theorem ops_of {w' : World} {B n m : Nat} {e : Ending} {M : Mat} {l : Row} (hm : m = (n + 1) * (n + 1)) (h : OpsOut w' B n e M) (hr : rowsL n M (n + 1) = listOf l m) (hl : ∀ k, rightB (l k) = true) : ZoneOut w' B n e (zoneR n (drf n m (listOf l m))) := by
  have ha : allRight (listOf l m) m = true := allRight_of _ _ fun j hj => by rw [listOf_get _ _ _ hj]; exact hl j
  unfold OpsOut at h
  rw [hr, ← hm, ha] at h
  rcases h with ⟨h, -⟩ | ⟨-, h⟩
  · cases h
  · exact h
end Go.Proofs.YtnfkmpickmonoaaGreat

/-
  fed: a zone with one limit more.
-/
namespace Go.Proofs.YtnfkmpickmonoaaGreat
open Go.RowKit
set_option linter.unusedVariables false
set_option maxRecDepth 100000
/-- The cells with one of them stricter. -/
def lowR (c : Row) (k : Nat) (v : Int) : Row := fun j => if j = k then min (c j) v else c j
def one1 (i j v : Int) : Lims := ⟨1, fun _ => i, fun _ => j, fun _ => v⟩
/-- The zone of a zone with one limit more. -/
def conZ (n m : Nat) (c : Row) (k : Nat) (v : Int) : Option Row := zoneR n (drf n m (listOf (lowR c k v) m))
theorem low_right {c : Row} {k : Nat} {v : Int} (h : ∀ j, rightB (c j) = true) (hv : rightB v = true) : ∀ j, rightB (lowR c k v j) = true := fun j => by
  unfold lowR
  split
  · exact right_min (c := fun _ => c j) (d := fun _ => v) (k := 0) (h j) hv
  · exact h j
theorem low_rows {n m i j : Nat} {c : Row} {v : Int} (hm : m = (n + 1) * (n + 1)) (hi : i ≤ n) (hj : j ≤ n) : rowsL n (limK (one1 i j v) 1 (oR n c m)) (n + 1) = listOf (lowR c (i * (n + 1) + j) v) m := by
  refine rows_of hm fun a b ha hb => eq_of_le fun x => ?_
  rw [le_limK, oR_at hm ha hb]
  unfold lowR one1
  simp only [Int.toNat_natCast]
  constructor
  · rintro ⟨h1, h2⟩
    split
    · rename_i e
      obtain ⟨rfl, rfl⟩ := pos_inj hb hj e
      exact Int.le_min.2 ⟨h1, h2 0 (by omega) rfl rfl⟩
    · exact h1
  · intro h
    split at h
    · rename_i e
      obtain ⟨rfl, rfl⟩ := pos_inj hb hj e
      exact ⟨(Int.le_min.1 h).1, fun _ _ _ _ => (Int.le_min.1 h).2⟩
    · rename_i e
      refine ⟨h, fun _ _ h1 h2 => absurd ?_ e⟩
      rw [← h1, ← h2]
theorem con_one (b n m i j g : Nat) (c : Row) (v : Int) (w : World) (hn : n ≤ 8) (hm : m = (n + 1) * (n + 1)) (hz : ZoneAt w b n c) (hc : C32 c) (zc : ZC n m c) (hi : i ≤ n) (hj : j ≤ n) (hv : rightB v = true) (v0 : -2147483648 ≤ v) (v1 : v ≤ 2147483647)
    (c0 : w.cell? ⟨g, 0, none⟩ = some (.int .i64 i)) (c1 : w.cell? ⟨g, 1, none⟩ = some (.int .i64 j)) (c2 : w.cell? ⟨g, 2, none⟩ = some (.int .i32 v)) :
    Calls Tryz.prog 82 #[.pointer (some ⟨b, 0, none⟩), .slice (some ⟨g, 0, none⟩) 1 1] w fun e w' => ZoneOut w' w.heap.size n e (conZ n m c (i * (n + 1) + j) v) ∧ Below w.heap.size w w' := by
  have hR : LimRow w g 0 (one1 i j v) := fun k hk => by
    obtain rfl : k = 0 := by have : k < 1 := hk; omega
    exact ⟨c0, c1, c2⟩
  refine (con_main b n g 0 1 c (one1 i j v) w hn hz hc hR (World.block_lt_of_cell? _ _ c0) (fun k _ => ⟨v0, v1⟩) (by show (1 : Nat) ≤ _; omega)).mono fun e w' ⟨h, hb⟩ => ⟨?_, hb⟩
  have hb1 : bndA n (one1 i j v) 1 = true := by
    show (true && decide (0 ≤ (i : Int) ∧ (i : Int) ≤ (n : Int) ∧ 0 ≤ (j : Int) ∧ (j : Int) ≤ (n : Int))) = true
    rw [decide_eq_true (by omega)]
    rfl
  have hr1 : rgtA (one1 i j v) 1 = true := by simp only [rgtA, one1, Bool.true_and, hv]
  rcases h with ⟨h, -⟩ | ⟨-, h, -⟩ | ⟨-, -, h⟩
  · rw [show (one1 (↑i) (↑j) v).q = 1 from rfl, hb1] at h
    cases h
  · rw [show (one1 (↑i) (↑j) v).q = 1 from rfl, hr1] at h
    cases h
  · refine ops_of hm h ?_ (low_right (zc_right hm zc) hv)
    rw [← hm]
    exact low_rows hm hi hj
end Go.Proofs.YtnfkmpickmonoaaGreat

/-
  fed: Dim and Empty of zones, nil or not.
-/
namespace Go.Proofs.YtnfkmpickmonoaaGreat
open Go.RowKit
set_option linter.unusedVariables false
set_option maxRecDepth 100000
/-! ### Dim, Empty, and nil -/
theorem zdim_any (b n : Nat) (c : Row) (w : World) (hz : ZoneAt w b n c) : Calls Tryz.prog 30 #[.pointer (some ⟨b, 0, none⟩)] w fun e w' => e = .returned (.int .i64 n) ∧ w' = w := by
  have h0 := hz.clocks
  clear hz
  go_enter Tryz.func30, Tryz.ntmps30
  go_wp2_with fail
  go_ret
  exact ⟨rfl, rfl⟩
theorem rdim_any {w : World} {B b n : Nat} {l : List Int} (h : RZone w B b n l) : Calls Tryz.prog 32 #[.pointer (some ⟨b, 0, none⟩)] w fun e w' => e = .returned (.int .i64 n) ∧ w' = w := by
  obtain ⟨g, cap, h0, -⟩ := h
  go_enter Tryz.func32, Tryz.ntmps32
  go_wp2_with fail
  go_ret
  exact ⟨rfl, rfl⟩
theorem zempty_any (b n : Nat) (c : Row) (w : World) (hn : n ≤ 8) (hz : ZoneAt w b n c) :
    Calls Tryz.prog 60 #[.pointer (some ⟨b, 0, none⟩)] w fun e w' => e = .returned (.bool (decide (c 0 < 1))) ∧ Below w.heap.size w w' := by
  have H := hideD (hollow_any b n c w hn hz)
  generalize decide (c 0 < 1) = q at *
  clear hz
  go_enter Tryz.func60, Tryz.ntmps60
  go_wp2_with fail
  refine H.out.mono ?_
  rintro e w' ⟨rfl, hb⟩
  go_wp2_with fail
  go_ret
  exact ⟨rfl, hb⟩
end Go.Proofs.YtnfkmpickmonoaaGreat

/-
  fed: a row of zones, and a zone laid behind it.
-/
namespace Go.Proofs.YtnfkmpickmonoaaGreat
open Go.RowKit
set_option linter.unusedVariables false
set_option maxRecDepth 100000
theorem info_zp : (Tryz.prog.info? 41).map (fun i => (i.zero, i.size, i.bytes)) = some (some (.pointer none), 1, 8) := by kernel_rfl
/-- A zone's place and its cells. -/
abbrev ZR := Nat × Row
def pvF (e : ZR) : Value := .pointer (some ⟨e.1, 0, none⟩)
/-- A row of zones, in block r, with what it owns behind it. -/
structure RowF (w : World) (base r n : Nat) (zs : List ZR) (v : Value) : Prop where
  c0 : w.cell? ⟨r, 0, none⟩ = some (.int .i64 n)
  c1 : w.cell? ⟨r, 1, none⟩ = some v
  fr : w.frozen? ⟨r, 1, none⟩ = false
  own : w.ownsRow base 41 1 v zs.length (zs.map pvF)
  ne : v.ownBlock ≠ some r
/-- What stays when a row grows. -/
structure Grew (r : Nat) (v v' : Value) (w w' : World) : Prop where
  os : w'.os = w.os
  tape : w'.tape = w.tape
  output : w'.output = w.output
  size : w.heap.size ≤ w'.heap.size
  block : ∀ k, k < w.heap.size → k ≠ r → v.ownBlock ≠ some k → w'.heap[k]? = w.heap[k]?
  own : v'.ownBlock = v.ownBlock ∨ ∀ k, v'.ownBlock = some k → w.heap.size ≤ k
theorem Grew.below {r base : Nat} {v v' : Value} {w w' : World} (h : Grew r v v' w w') (hr : base ≤ r) (hv : ∀ k, v.ownBlock = some k → base ≤ k) (hw : base ≤ w.heap.size) : Below base w w' :=
  ⟨h.os, h.tape, h.output, h.size, fun k hk => h.block k (by omega) (by omega) (fun e => by have := hv k e; omega)⟩
theorem RowF.past {w w' : World} {base r n : Nat} {zs : List ZR} {v : Value} (h : RowF w base r n zs v) (hb : Below w.heap.size w w') : RowF w' base r n zs v :=
  ⟨kc _ _ hb h.c0, kc _ _ hb h.c1, kf _ _ hb h.c1 h.fr, World.ownsRow.kept (row := none) h.own ⟨hb.os, hb.tape, hb.output, hb.size, fun k hk _ => hb.block k hk⟩ (by cases v.ownBlock <;> simp), h.ne⟩
theorem long_any (r q cap : Nat) (ad : Option Addr) (w : World) (c1 : w.cell? ⟨r, 1, none⟩ = some (.slice ad q cap)) :
    Calls Tryz.prog 57 #[.pointer (some ⟨r, 0, none⟩)] w fun e w' => e = .returned (.int .i64 (q : Int)) ∧ w' = w := by
  go_enter Tryz.func57, Tryz.ntmps57
  go_wp2_with fail
  go_ret
  exact ⟨rfl, rfl⟩
/-- What comes of a zone that is to be laid behind a row. -/
def AddOut (base r n : Nat) (zs : List ZR) (b : Nat) (c : Row) (v : Value) (w w' : World) (e : Ending) : Prop :=
  (c 0 < 1 ∧ e = .returned (.bool true) ∧ Below w.heap.size w w') ∨
  (¬ c 0 < 1 ∧ zs.length = 4096 ∧ e = .returned (.bool false) ∧ Below w.heap.size w w') ∨
  (¬ c 0 < 1 ∧ zs.length ≠ 4096 ∧ e = .returned (.bool true) ∧ ∃ v', RowF w' base r n (zs ++ [(b, c)]) v' ∧ Grew r v v' w w')
theorem own_sl {w : World} {base n : Nat} {v : Value} {xs : List Value} (h : w.ownsRow base 41 1 v n xs) : ∃ ad cap, v = .slice ad n cap := by
  rcases h.2 with ⟨rfl, rfl⟩ | ⟨g, cap, cur, rfl, -⟩
  · exact ⟨_, _, rfl⟩
  · exact ⟨_, _, rfl⟩
theorem grown_cell {W W' : World} {row : Option Nat} {a : Addr} {v : Value} (h : W.grownBy W' row) (hc : W.cell? a = some v) (hne : row ≠ some a.block) : W'.cell? a = some v :=
  (World.cell?_of_block (h.block _ (World.block_lt_of_cell? _ _ hc) (fun e => hne e.symm))).trans hc
theorem grown_frozen {W W' : World} {row : Option Nat} {a : Addr} {v : Value} (h : W.grownBy W' row) (hc : W.cell? a = some v) (hf : W.frozen? a = false) (hne : row ≠ some a.block) : W'.frozen? a = false :=
  (World.frozen?_of_block (h.block _ (World.block_lt_of_cell? _ _ hc) (fun e => hne e.symm))).trans hf
theorem grown_set (W : World) (a : Addr) (u : Value) : W.grownBy (W.setCell a u) (some a.block) := ⟨rfl, rfl, rfl, by simp [World.setCell], fun k hk hne => Below.heap_setCell _ _ _ _ (fun e => hne (by rw [e]))⟩
theorem add_done {base r n b : Nat} {c : Row} {zs : List ZR} {v v' : Value} {w w1 w3 : World} {o : Obj} (R1 : RowF w1 base r n zs v) (B1 : Below w.heap.size w w1) (hown : w3.ownsRow base 41 1 v' (zs.length + 1) (zs.map pvF ++ [pvF (b, c)])) (hg : (w1.alloc o).grownBy w3 v.ownBlock) (hat : v'.ownBlock = v.ownBlock ∨ v'.ownBlock = some (w1.alloc o).heap.size) :
    RowF (w3.setCell ⟨r, 1, none⟩ v') base r n (zs ++ [(b, c)]) v' ∧ Grew r v v' w (w3.setCell ⟨r, 1, none⟩ v') := by
  have ba := below_one w1 o
  have c0 := grown_cell hg (kc _ _ ba R1.c0) R1.ne
  have c1 := grown_cell hg (kc _ _ ba R1.c1) R1.ne
  have fr := grown_frozen hg (kc _ _ ba R1.c1) (kf _ _ ba R1.c1 R1.fr) R1.ne
  have lt1 := World.block_lt_of_cell? _ _ R1.c1
  have sz : w1.heap.size ≤ (w1.alloc o).heap.size := by simp
  have ne : v'.ownBlock ≠ some r := by
    rcases hat with h | h
    · rw [h]; exact R1.ne
    · rw [h]
      intro e
      injection e with e
      simp at e
      have : r < w1.heap.size := lt1
      omega
  refine ⟨⟨?_, ?_, ?_, ?_, ne⟩, ?_⟩
  · rw [World.cell?_setCell_other _ _ _ _ (by intro e; injection e; omega)]
    exact c0
  · exact World.cell?_setCell_same _ _ _ c1
  · rw [World.frozen?_setCell]
    exact fr
  · rw [List.length_append, List.map_append]
    exact World.ownsRow.kept hown (grown_set _ _ _) (.inr ne)
  · refine ⟨hg.os.trans (B1.os), hg.tape.trans B1.tape, hg.output.trans B1.output, ?_, fun k hk h1 h2 => ?_, ?_⟩
    · have := hg.size
      have := B1.size
      simp [World.setCell]
      omega
    · have s1 := B1.size
      refine (Below.heap_setCell _ _ _ _ (show k ≠ r from h1)).trans ((hg.block k (by omega) (fun e => h2 e.symm)).trans ((ba.block k (by omega)).trans (B1.block k hk)))
    · rcases hat with h | h
      · exact .inl h
      · refine .inr fun k hk => ?_
        rw [h] at hk
        injection hk with hk
        have := B1.size
        simp at hk
        omega
set_option maxHeartbeats 4000000 in
theorem fadd_any (base r n b : Nat) (c : Row) (zs : List ZR) (v : Value) (w : World) (hn : n ≤ 8) (hz : ZoneAt w b n c) (hR : RowF w base r n zs v) (hl : zs.length ≤ 4096) (hb : base ≤ w.heap.size) :
    Calls Tryz.prog 31 #[.pointer (some ⟨r, 0, none⟩), .pointer (some ⟨b, 0, none⟩)] w fun e w' => AddOut base r n zs b c v w w' e := by
  obtain ⟨i0, hi, hz0, hz1, hz2⟩ := info_parts info_zp
  have HE := hideD (zempty_any b n c w hn hz)
  by_cases ce : c 0 < 1
  · rw [decide_eq_true ce] at HE
    have HO : Hid (∀ w', Below w.heap.size w w' → AddOut base r n zs b c v w w' (.returned (.bool true))) := fun w' h => .inl ⟨ce, rfl, h⟩
    clear hz hR hl hb ce
    go_enter Tryz.func31, Tryz.ntmps31
    go_wp2_with fail
    refine HE.out.mono ?_
    rintro e w1 ⟨rfl, h1⟩
    go_wp2_with fail
    go_ret
    exact HO.out _ h1
  · rw [decide_eq_false ce] at HE
    obtain ⟨q, hq⟩ : ∃ q, zs.length = q := ⟨_, rfl⟩
    obtain ⟨ad, cap, hv⟩ := own_sl hR.own
    rw [hq] at hv
    subst hv
    have lt := World.block_lt_of_cell? _ _ hR.c1
    have HR := hideD hR
    have HL := hideD hl
    have HB := hideD hb
    have HC := hideD ce
    clear hz hR hl hb ce
    have HQ := hideD hq
    have HG := hideD (fun w (h : w.cell? ⟨r, 1, none⟩ = some (.slice ad q cap)) => long_any r q cap ad w h)
    clear hq
    go_enter Tryz.func31, Tryz.ntmps31
    go_wp2_with fail
    refine HE.out.mono ?_
    rintro e w1 ⟨rfl, h1⟩
    have R1 := hideD (HR.out.past h1)
    have B1 := hideD h1
    have d1 := R1.out.c1
    have HG1 := hideD (HG.out w1 d1)
    clear h1 HE HR HG
    go_wp2_with fail
    refine HG1.out.mono ?_
    rintro e w2 ⟨rfl, e2⟩
    obtain rfl := e2.symm
    clear HG1
    by_cases c4 : q = 4096
    · have c5 : ((q : Int) == 4096) = true := by rw [c4]; rfl
      have HO : Hid (AddOut base r n zs b c (.slice ad q cap) w w1 (.returned (.bool false))) := .inr (.inl ⟨by have := HC.out; omega, by rw [HQ.out, c4], rfl, B1.out⟩)
      clear c4 R1 B1 HC HQ HL
      go_wp2_with fail
      go_ret
      exact HO.out
    · have c5 : ((q : Int) == 4096) = false := by simp; omega
      have C4 := hideD c4
      clear c4
      have O0 := R1.out.own
      rw [HQ.out] at O0
      have O1 := hideD (O0.alloc (.cells #[.pointer (some ⟨b, 0, none⟩)] 41))
      have hd : ∀ w3 v', w3.ownsRow base 41 1 v' (q + 1) (zs.map pvF ++ [.pointer (some ⟨b, 0, none⟩)]) → (w1.alloc (.cells #[.pointer (some ⟨b, 0, none⟩)] 41)).grownBy w3 (Value.slice ad q cap).ownBlock → (v'.ownBlock = (Value.slice ad q cap).ownBlock ∨ v'.ownBlock = some (w1.alloc (.cells #[.pointer (some ⟨b, 0, none⟩)] 41)).heap.size) → AddOut base r n zs b c (.slice ad q cap) w (w3.setCell ⟨r, 1, none⟩ v') (.returned (.bool true)) := fun w3 v' h1 h2 h3 => by
        rw [← HQ.out] at h1
        exact .inr (.inr ⟨by have := HC.out; omega, by rw [HQ.out]; exact C4.out, rfl, v', add_done R1.out B1.out h1 h2 h3⟩)
      clear O0
      have hbw := hideD (Nat.le_trans HB.out B1.out.size)
      go_wp2_with (at_builtin; refine wpList_append_own_at _ rfl _ _ 30 rfl base 41 i0 (.pointer none) 1 8 Tryz.underlying30 hi hz0 hz1 hz2 rfl (by decide) _ q _ rfl O1.out ⟨w1.heap.size, 0, none⟩ 1 1 [.pointer (some ⟨b, 0, none⟩)] rfl rfl (cell_one_new _ _ _) (by simp [Value.oneCell']) (by have := HL.out; have := HQ.out; unfold maxLen; omega) (by have := HL.out; have := HQ.out; omega) (by have := hbw.out; simp; omega) ?_; intro v' w3 hown hgrow _ hat; have HD := hideD (hd w3 v' hown hgrow hat); have d3 := grown_cell hgrow (kc _ _ (below_one w1 _) d1) R1.out.ne; have f3 := grown_frozen hgrow (kc _ _ (below_one w1 _) d1) (kf _ _ (below_one w1 _) d1 R1.out.fr) R1.out.ne; obtain ⟨ad', cap', rfl⟩ := own_sl hown; clear hown hgrow hat)
      go_ret
      exact HD.out
end Go.Proofs.YtnfkmpickmonoaaGreat
