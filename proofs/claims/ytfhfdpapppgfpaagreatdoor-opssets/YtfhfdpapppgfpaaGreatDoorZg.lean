/-
  gnomonmem.HandLimits: a copy with marked room behind its end; SameLimits, KeptLimits.
-/
import Derived.Test.YtfhfdpapppgfpaaGreatDoorZd
import Derived.Deep.OwnRows
import Derived.Test.YtfhfdpapppgfpaaGreatDoorZf
import Derived.Test.YtfhfdpapppgfpaaGreatDoorWtz
namespace Go.Proofs.YtfhfdpapppgfpaaGreatDoor
open Go.RowKit
set_option linter.unusedVariables false
/-- Limits behind a slice's address. -/
def LimV (w : World) (ad : Option Addr) (L : Lims) : Prop := ∀ k, k < L.q → ∃ b off, ad = some ⟨b, off, none⟩ ∧ w.cell? ⟨b, off + k * 3, none⟩ = some (.int .i64 (L.i k)) ∧ w.cell? ⟨b, off + k * 3 + 1, none⟩ = some (.int .i64 (L.j k)) ∧ w.cell? ⟨b, off + k * 3 + 2, none⟩ = some (.int .i32 (L.b k))
theorem LimV.past {w w' : World} {ad : Option Addr} {L : Lims} (h : LimV w ad L) (hb : Below w.heap.size w w') : LimV w' ad L := fun k hk => by
  obtain ⟨b, off, e, c1, c2, c3⟩ := h k hk
  exact ⟨b, off, e, kc _ _ hb c1, kc _ _ hb c2, kc _ _ hb c3⟩
theorem LimV.row {w : World} {g : Nat} {L : Lims} (h : LimV w (some ⟨g, 0, none⟩) L) : LimRow w g 0 L := fun k hk => by
  obtain ⟨b, off, e, c1, c2, c3⟩ := h k hk
  injection e with e
  injection e with e1 e2
  subst e1
  subst e2
  exact ⟨c1, c2, c3⟩
def roomyL (L : Lims) : Lims := ⟨L.q + 9, fun k => if k < L.q then L.i k else -700 - ((k - L.q : Nat) : Int), fun k => if k < L.q then L.j k else 0, fun k => if k < L.q then L.b k else 0⟩
theorem roomyL_front {w : World} {ad : Option Addr} {L : Lims} (h : LimV w ad (roomyL L)) : LimV w ad L := fun k hk => by
  obtain ⟨b, off, e, c1, c2, c3⟩ := h k (by show k < L.q + 9; omega)
  simp only [roomyL, hk, if_true] at c1 c2 c3
  exact ⟨b, off, e, c1, c2, c3⟩
def cv3 (L : Lims) (j : Nat) : Value := if j % 3 = 0 then .int .i64 (L.i (j / 3)) else if j % 3 = 1 then .int .i64 (L.j (j / 3)) else .int .i32 (L.b (j / 3))
def zr3 (j : Nat) : Value := if j % 3 = 0 then .int .i64 0 else if j % 3 = 1 then .int .i64 0 else .int .i32 0
def fill3 (L : Lims) (K j : Nat) : Value := if j < K * 3 then cv3 L j else zr3 j
theorem fill3_next (L : Lims) (K j : Nat) : fill3 L (K + 1) j = if j = K * 3 + 2 then .int .i32 (L.b K) else if j = K * 3 + 1 then .int .i64 (L.j K) else if j = K * 3 then .int .i64 (L.i K) else fill3 L K j := by
  unfold fill3 cv3
  by_cases c : j = K * 3 + 2
  · subst c
    rw [if_pos rfl, if_pos (by omega), if_neg (by omega), if_neg (by omega), show (K * 3 + 2) / 3 = K by omega]
  · rw [if_neg c]
    by_cases d : j = K * 3 + 1
    · subst d
      rw [if_pos rfl, if_pos (by omega), if_neg (by omega), if_pos (by omega), show (K * 3 + 1) / 3 = K by omega]
    · rw [if_neg d]
      by_cases e : j = K * 3
      · subst e
        rw [if_pos rfl, if_pos (by omega), if_pos (by omega), show K * 3 / 3 = K by omega]
      · rw [if_neg e]
        by_cases l : j < K * 3
        · rw [if_pos l, if_pos (by omega)]
        · rw [if_neg l, if_neg (by omega)]
theorem fill3_row {L : Lims} {w : World} {g : Nat} (h : ∀ j, j < L.q * 3 → w.cell? ⟨g, j, none⟩ = some (fill3 L L.q j)) : LimV w (some ⟨g, 0, none⟩) L := fun k hk => by
  have h0 := h (k * 3) (by omega)
  have h1 := h (k * 3 + 1) (by omega)
  have h2 := h (k * 3 + 2) (by omega)
  unfold fill3 cv3 at h0 h1 h2
  rw [if_pos (by omega), if_pos (by omega), show k * 3 / 3 = k by omega] at h0
  rw [if_pos (by omega), if_neg (by omega), if_pos (by omega), show (k * 3 + 1) / 3 = k by omega] at h1
  rw [if_pos (by omega), if_neg (by omega), if_neg (by omega), show (k * 3 + 2) / 3 = k by omega] at h2
  exact ⟨g, 0, rfl, by rw [Nat.zero_add]; exact h0, by rw [Nat.zero_add]; exact h1, by rw [Nat.zero_add]; exact h2⟩
theorem make_lims (N : Nat) (hb : 24 * N ≤ 281474976710656) (w : World) :
    (Instr.makeSlice 55 (.int .i64 (N : Int)) (.int .i64 (N : Int))).run Tryz.prog w = .ok (.slice (some ⟨w.heap.size, 0, none⟩) N N) (w.alloc (.cells (madeCells #[.int .i64 0, .int .i64 0, .int .i32 0] (N * 3)) 47)) := by
  obtain ⟨i, hi, hzz⟩ := Option.map_eq_some_iff.1 info_lim
  simp only [Prod.mk.injEq] at hzz
  obtain ⟨hz, hs, hb'⟩ := hzz
  have hB : (i.bytes : Int) * (N : Int) ≤ 281474976710656 := by rw [hb']; omega
  have hr := run_make (P := Tryz.prog) w 55 47 i _ Tryz.underlying55 hi hz .i64 .i64 N N (by omega) (Int.le_refl _) hB (by omega)
  simp only [Int.toNat_natCast, hs] at hr
  exact hr
theorem made_fill3 (L : Lims) (N : Nat) (w : World) (T : TypeId) : ∀ j, j < N * 3 → (w.alloc (.cells (madeCells #[.int .i64 0, .int .i64 0, .int .i32 0] (N * 3)) T)).cell? ⟨w.heap.size, j, none⟩ = some (fill3 L 0 j) := fun j hj => by
  rw [World.cell?_alloc_at _ _ _ _ rfl]
  have : j % 3 = 0 ∨ j % 3 = 1 ∨ j % 3 = 2 := by omega
  rcases this with h | h | h <;> simp [madeCells, hj, fill3, zr3, h]
theorem fill3_set {w : World} {g N K : Nat} {L : Lims} (hK : K < N) (h : ∀ j, j < N * 3 → w.cell? ⟨g, j, none⟩ = some (fill3 L K j)) :
    ∀ j, j < N * 3 → (((w.setCell ⟨g, K * 3, none⟩ (.int .i64 (L.i K))).setCell ⟨g, K * 3 + 1, none⟩ (.int .i64 (L.j K))).setCell ⟨g, K * 3 + 2, none⟩ (.int .i32 (L.b K))).cell? ⟨g, j, none⟩ = some (fill3 L (K + 1) j) := fun j hj => by
  rw [fill3_next]
  have h1 : (w.setCell ⟨g, K * 3, none⟩ (.int .i64 (L.i K))).cell? ⟨g, K * 3 + 1, none⟩ = some (fill3 L K (K * 3 + 1)) := by
    rw [World.cell?_setCell_other _ _ _ _ (by intro e; injection e; omega)]
    exact h _ (by omega)
  have h2 : ((w.setCell ⟨g, K * 3, none⟩ (.int .i64 (L.i K))).setCell ⟨g, K * 3 + 1, none⟩ (.int .i64 (L.j K))).cell? ⟨g, K * 3 + 2, none⟩ = some (fill3 L K (K * 3 + 2)) := by
    rw [World.cell?_setCell_other _ _ _ _ (by intro e; injection e; omega), World.cell?_setCell_other _ _ _ _ (by intro e; injection e; omega)]
    exact h _ (by omega)
  by_cases c : j = K * 3 + 2
  · subst c
    rw [World.cell?_setCell_same _ _ _ h2, if_pos rfl]
  · rw [World.cell?_setCell_other _ _ _ _ (by intro e; injection e; omega), if_neg c]
    by_cases d : j = K * 3 + 1
    · subst d
      rw [World.cell?_setCell_same _ _ _ h1, if_pos rfl]
    · rw [World.cell?_setCell_other _ _ _ _ (by intro e; injection e; omega), if_neg d]
      by_cases e : j = K * 3
      · subst e
        rw [World.cell?_setCell_same _ _ _ (h _ hj), if_pos rfl]
      · rw [World.cell?_setCell_other _ _ _ _ (by intro e; injection e; omega), if_neg e]
        exact h j hj
/-- Three stores into the call's own block. -/
def set3 (w : World) (g o : Nat) (x y : Int) (z : Int) : World := ((w.setCell ⟨g, o, none⟩ (.int .i64 x)).setCell ⟨g, o + 1, none⟩ (.int .i64 y)).setCell ⟨g, o + 2, none⟩ (.int .i32 z)
theorem set3_frozen (w : World) (g o : Nat) (x y z : Int) (p : Addr) : (set3 w g o x y z).frozen? p = w.frozen? p := by
  unfold set3
  rw [World.frozen?_setCell, World.frozen?_setCell, World.frozen?_setCell]
theorem set3_below {w0 w : World} {g o : Nat} {x y z : Int} {B : Nat} (h : Below B w0 w) (hg : B ≤ g) : Below B w0 (set3 w g o x y z) := ((h.setCell (p := ⟨g, o, none⟩) hg _).setCell (p := ⟨g, o + 1, none⟩) hg _).setCell (p := ⟨g, o + 2, none⟩) hg _
theorem set3_size (w : World) (g o : Nat) (x y z : Int) : (set3 w g o x y z).heap.size = w.heap.size := by simp [set3, World.setCell]
end Go.Proofs.YtfhfdpapppgfpaaGreatDoor

/-
  The document's Constrain; both ways of Constrain are one.
-/
namespace Go.Proofs.YtfhfdpapppgfpaaGreatDoor
open Go.RowKit
set_option linter.unusedVariables false
set_option maxRecDepth 100000
/-- The document's cells with the first K limits. -/
def rcon (L : Lims) : Nat → Mat → Mat
  | 0, r => r
  | K + 1, r => if L.b K = 2147483647 then rcon L K r else lessM (rcon L K r) (L.i K).toNat (L.j K).toNat (L.b K)
/-- What the document tells of limits. -/
def RconOut (w' : World) (n m : Nat) (e : Ending) (L : Lims) (o : Option Row) : Prop :=
  (bndA n L L.q = false ∧ e = errOf 12) ∨ (bndA n L L.q = true ∧ rgtA L L.q = false ∧ e = errOf 2) ∨ (bndA n L L.q = true ∧ rgtA L L.q = true ∧ RefOut w' n m e o)
end Go.Proofs.YtfhfdpapppgfpaaGreatDoor

/-
  Limits: both ways of Constrain are one, in numbers; both tell the same.
-/
namespace Go.Proofs.YtfhfdpapppgfpaaGreatDoor
open Go.RowKit
set_option linter.unusedVariables false
set_option maxRecDepth 100000
theorem limK_right {n : Nat} {L : Lims} {M : Mat} (h : RightM n M) : ∀ K, bndA n L K = true → rgtA L K = true → RightM n (limK L K M)
  | 0, _, _ => h
  | K + 1, hb, hr => fun i j hi hj => by
    have hb' : bndA n L K = true := by simp only [bndA, Bool.and_eq_true] at hb; exact hb.1
    have hr' : rgtA L K = true ∧ rightB (L.b K) = true := by simpa only [rgtA, Bool.and_eq_true] using hr
    have ih := limK_right h K hb' hr'.1 i j hi hj
    have rb := hr'.2
    simp only [rightB, decide_eq_true_eq] at rb
    have e : limK L (K + 1) M i j = limM (limK L K M) (L.i K).toNat (L.j K).toNat (L.b K) i j := rfl
    rw [e]
    unfold limM upd
    clear e
    split
    · rename_i e
      obtain ⟨rfl, rfl⟩ := e
      omega
    · exact ih
theorem tg_min {s x z : Int} (hz : ¬ z = 2147483647) (hx : x = 2147483647 ∨ x ≤ 536870913) (z1 : z ≤ 536870913) : tgV s (min x z) = if z < tgV s x then z else tgV s x := by
  unfold tgV
  rw [if_neg (by omega)]
  by_cases e : x = 2147483647
  · rw [if_pos e]
    split <;> omega
  · rw [if_neg e]
    split <;> omega
/-- The draft with limits, cell by cell. -/
theorem con_cells {n m : Nat} {L : Lims} {p : Mat} {c : Row} (hn : n ≤ 8) (hm : m = (n + 1) * (n + 1)) (h : FullC n m p c) : ∀ K, bndA n L K = true → rgtA L K = true → ∀ i j, i ≤ n → j ≤ n → tgV (startV i j) (limK L K (oR n c m) i j) = rcon L K (rowMat n (listOf c m)) i j
  | 0, _, _, i, j, hi, hj => by
    show tgV (startV i j) (oR n c m i j) = rowMat n (listOf c m) i j
    rw [h.pm hm hi hj, h.rowMat hm hi hj]
  | K + 1, hb, hr, i, j, hi, hj => by
    have hb' : bndA n L K = true ∧ bndB n L K = true := by simpa only [bndA, Bool.and_eq_true] using hb
    have hr' : rgtA L K = true ∧ rightB (L.b K) = true := by simpa only [rgtA, Bool.and_eq_true] using hr
    have ih := con_cells hn hm h K hb'.1 hr'.1
    have rM := limK_right (h.rightM hm) K hb'.1 hr'.1
    have rb := hr'.2
    have bb := hb'.2
    simp only [rightB, decide_eq_true_eq] at rb
    simp only [bndB, decide_eq_true_eq] at bb
    have a1 : (L.i K).toNat ≤ n := by omega
    have a2 : (L.j K).toNat ≤ n := by omega
    show tgV _ (limM (limK L K (oR n c m)) (L.i K).toNat (L.j K).toNat (L.b K) i j) = (if L.b K = 2147483647 then rcon L K (rowMat n (listOf c m)) else lessM (rcon L K (rowMat n (listOf c m))) (L.i K).toNat (L.j K).toNat (L.b K)) i j
    generalize (L.i K).toNat = x at *
    generalize (L.j K).toNat = y at *
    generalize L.b K = z at *
    generalize limK L K (oR n c m) = M at *
    generalize rcon L K (rowMat n (listOf c m)) = R at *
    have mxy := rM x y a1 a2
    unfold limM upd
    by_cases cz : z = 2147483647
    · rw [if_pos cz]
      split
      · rename_i e
        obtain ⟨rfl, rfl⟩ := e
        rw [show min (M i j) z = M i j by omega]
        exact ih i j hi hj
      · exact ih i j hi hj
    · rw [if_neg cz]
      split
      · rename_i e
        obtain ⟨rfl, rfl⟩ := e
        rw [tg_min cz (by omega) (by omega), ih i j hi hj]
        unfold lessM
        split
        · unfold upd; rw [if_pos ⟨rfl, rfl⟩]
        · rfl
      · rename_i e
        rw [ih i j hi hj]
        unfold lessM
        split
        · unfold upd; rw [if_neg e]
        · rfl
theorem con_same {n m : Nat} {L : Lims} {p : Mat} {c : Row} (hn : n ≤ 8) (hm : m = (n + 1) * (n + 1)) (h : FullC n m p c) (hb : bndA n L L.q = true) (hr : rgtA L L.q = true) :
    Ok n (rcon L L.q (rowMat n (listOf c m))) ∧ (∀ j, j ≤ n → rcon L L.q (rowMat n (listOf c m)) 0 j ≤ 1) ∧ zoneR n (rcon L L.q (rowMat n (listOf c m))) = zoneR n (drf n m (rowsL n (limK L L.q (oR n c m)) (n + 1))) := by
  have R := limK_right (h.rightM hm) L.q hb hr
  have e : ∀ i j, i ≤ n → j ≤ n → drf n m (rowsL n (limK L L.q (oR n c m)) (n + 1)) i j = rcon L L.q (rowMat n (listOf c m)) i j := fun i j hi hj => by
    rw [pm_at n m _ hm hi hj, con_cells hn hm h L.q hb hr i j hi hj]
  have O := drf_ok n m _ hm (right_rows hm R)
  have O2 : Ok n (rcon L L.q (rowMat n (listOf c m))) := ⟨fun i j hi hj => by rw [← e i j hi hj]; exact O.fin i j hi hj, fun i hi => by rw [← e i i hi hi]; exact O.diag i hi⟩
  refine ⟨O2, fun j hj => by rw [← e 0 j (by omega) hj]; exact drf_low n m _ hm j hj, ?_⟩
  refine zone_same hn O2 O fun q hq => ⟨fun hl i j hi hj => ?_, fun hl i j hi hj => ?_⟩
  · rw [e i j hi hj]; exact hl i j hi hj
  · rw [← e i j hi hj]; exact hl i j hi hj
theorem limK_zero {L : Lims} {M : Mat} (h : M 0 0 ≤ 0) : ∀ K, limK L K M 0 0 ≤ 0
  | 0 => h
  | K + 1 => by
    have ih := limK_zero (L := L) h K
    show limM (limK L K M) _ _ _ 0 0 ≤ 0
    unfold limM upd
    split
    · rename_i e
      rw [← e.1, ← e.2]
      omega
    · exact ih
theorem pm_hollow' {n m : Nat} {M : Mat} (hm : m = (n + 1) * (n + 1)) (h : M 0 0 ≤ 0) : zoneR n (drf n m (rowsL n M (n + 1))) = some (fun _ => 0) := by
  refine zone_hollow ?_
  rw [pm_at n m M hm (by omega) (by omega)]
  unfold tgV
  rw [if_neg (by omega)]
  omega
end Go.Proofs.YtfhfdpapppgfpaaGreatDoor
