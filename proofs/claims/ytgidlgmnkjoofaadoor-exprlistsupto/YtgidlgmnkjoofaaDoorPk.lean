/-
  expr.text.bracketed, within, wordsOf.
-/
import Derived.Test.YtgidlgmnkjoofaaDoorPj
import Derived.Test.YtgidlgmnkjoofaaDoorPf
import Derived.Test.YtgidlgmnkjoofaaDoorShelf
import Derived.Lib.AppendIntMem
import Derived.Lib.ItoaLen
namespace Go.Proofs.YtgidlgmnkjoofaaDoor
open Go.RowKit
set_option linter.unusedVariables false
abbrev Pow (w : World) : Prop := Lib.TabIs Tryd.prog w "internal/strconv.uint64pow10" .u64 Lib.pow10Tab
theorem pow_later {w w' : World} (h : Pow w) (hb : Below w.heap.size w w') : Pow w' := Lib.tabBelow_of_tabIs h w' hb
abbrev str (l : List UInt8) : ByteArray := ⟨l.toArray⟩
/-- In brackets. -/
def brT (s : ByteArray) : ByteArray := str [40] ++ s ++ str [41]
set_option maxRecDepth 100000 in
theorem bracketed_any (s : ByteArray) (n : Nat) (h : s.size ≤ 1152921504606846976) (w : World) : Calls Tryd.prog 75 #[.agg #[.string s, .int .i64 (n : Int)]] w fun e w' => e = .returned (.string (brT s)) ∧ Below w.heap.size w w' := by
  go_enter Tryd.func75, Tryd.ntmps75
  go_wp2_with fail
  exact bodyPost_ret (v := .string (brT s)) (by simp [results, Tryd.results75, go_sem, brT]) rfl ⟨rfl, single _ _⟩
/-- Where it must bind so much. -/
def inT (b : Nat) (t : Txt) : ByteArray := if t.2 < b then brT t.1 else t.1
set_option maxRecDepth 100000 in
theorem within_any (s : ByteArray) (n b : Nat) (h : s.size ≤ 1152921504606846976) (w : World) : Calls Tryd.prog 74 #[.agg #[.string s, .int .i64 (n : Int)], .int .i64 (b : Int)] w fun e w' => e = .returned (.string (inT b (s, n))) ∧ Below w.heap.size w w' := by
  unfold inT
  by_cases c : n < b
  · rw [if_pos c]
    have c1 : (n : Int) < (b : Int) := by omega
    have F := hideR (fun W => bracketed_any s n h W)
    have S := hideR (single w (.cells #[.string s, .int .i64 (n : Int)] 70))
    clear h c
    simp only
    generalize brT s = r at *
    go_enter Tryd.func74, Tryd.ntmps74
    go_wp2_with fail
    refine (F.out _).mono ?_
    rintro e w1 ⟨rfl, hb⟩
    have HB := hideR (beyond S.out hb)
    clear hb F
    go_wp2_with fail
    exact bodyPost_ret (v := .string r) (by simp [results, Tryd.results74, go_sem]) rfl ⟨rfl, HB.out⟩
  · rw [if_neg c]
    have c1 : ¬ (n : Int) < (b : Int) := by omega
    go_enter Tryd.func74, Tryd.ntmps74
    go_wp2_with fail
    exact bodyPost_ret (v := .string s) (by simp [results, Tryd.results74, go_sem]) rfl ⟨rfl, single _ _⟩
abbrev StrC (s : ByteArray) : List Value := [.string s]
/-- The words of a node over its parts' texts. -/
def wordsJ (ns : List ByteArray) (n : Node) (ps : List Txt) : ByteArray :=
  if n.1 = 1 then str (Lib.itoa n.2) else if n.1 = 2 then ns.getD n.2.toNat (str []) else if n.1 = 7 then str (opR n.1).2.2.2.1 else
  if n.1 = 3 then str (opR n.1).2.2.2.1 ++ inT 6 (ps.getD 0 (str [], 0)) else if n.1 = 12 then str (opR n.1).2.2.2.1 ++ brT (ps.getD 0 (str [], 0)).1 else
  inT (opR n.1).2.2.2.2 (ps.getD 0 (str [], 0)) ++ str (opR n.1).2.2.2.1 ++ inT ((opR n.1).2.2.2.2 + 1) (ps.getD 1 (str [], 0))
theorem below_two (w : World) (a b : Obj) : Below w.heap.size w ((w.alloc a).alloc b) := two w a b
theorem inT_size (b : Nat) (t : Txt) : (inT b t).size ≤ t.1.size + 2 := by
  unfold inT brT
  split
  · rw [ByteArray.size_append, ByteArray.size_append]
    show 1 + t.1.size + 1 ≤ _
    omega
  · omega
theorem brT_size (s : ByteArray) : (brT s).size ≤ s.size + 2 := by
  unfold brT
  rw [ByteArray.size_append, ByteArray.size_append]
  show 1 + s.size + 1 ≤ _
  omega
theorem itoa_any (N : Int) (l0 : -9223372036854775808 ≤ N) (l1 : N ≤ 9223372036854775807) (w : World) (ht : Pow w) : Calls Tryd.prog 73 #[.int .i64 N] w fun e w' => e = .returned (.string (str (Lib.itoa N))) ∧ Below w.heap.size w w' := by
  refine (Go.Proofs.Tryd.strconv_Itoa N l0 l1 w ht).mono ?_
  rintro e w1 ⟨rfl, k, os, rfl⟩
  exact ⟨rfl, Lib.below_grow _ _ (Nat.le_refl _) _ _⟩
set_option maxRecDepth 100000 in
theorem words1 (N : Int) (a b c : Int) (sg : ByteArray) (d : Int) (vv pp : Value) (l0 : -9223372036854775808 ≤ N) (l1 : N ≤ 9223372036854775807) (w : World) (ht : Pow w) : Calls Tryd.prog 60 #[.agg #[.int .u8 1, .int .i64 N], .agg #[.int .i64 a, .int .u8 b, .int .u8 c, .string sg, .int .i64 d], vv, pp] w fun e w' => e = .returned (.string (str (Lib.itoa N))) ∧ Below w.heap.size w w' := by
  have S := hideR (two w (.cells #[.int .u8 1, .int .i64 N] 54) (.cells #[.int .i64 a, .int .u8 b, .int .u8 c, .string sg, .int .i64 d] 126))
  have F := hideR (itoa_any N l0 l1 _ (pow_later ht S.out))
  clear ht
  go_enter Tryd.func60, Tryd.ntmps60
  go_wp2_with fail
  refine F.out.mono ?_
  rintro e w1 ⟨rfl, hb⟩
  clear F
  have HB := hideR (beyond S.out hb)
  clear hb
  go_wp2_with fail
  exact bodyPost_ret (v := .string (str (Lib.itoa N))) (by simp [results, Tryd.results60, go_sem]) rfl ⟨rfl, HB.out⟩
set_option maxRecDepth 100000 in
theorem words2 (N : Nat) (n cap vb off : Nat) (x : ByteArray) (h : N < n) (a b c : Int) (sg : ByteArray) (d : Int) (pp : Value) (w : World) (hc : w.cell? ⟨vb, off + N, none⟩ = some (.string x)) : Calls Tryd.prog 60 #[.agg #[.int .u8 2, .int .i64 (N : Int)], .agg #[.int .i64 a, .int .u8 b, .int .u8 c, .string sg, .int .i64 d], .slice (some ⟨vb, off, none⟩) n cap, pp] w fun e w' => e = .returned (.string x) ∧ Below w.heap.size w w' := by
  have h1 : (N : Int) < (n : Int) := by omega
  have hl : vb < w.heap.size := World.block_lt_of_cell? _ _ hc
  have hl0 : ¬ vb = w.heap.size := by omega
  have hl1 : ¬ vb = w.heap.size + 1 := by omega
  have hl2 : vb < w.heap.size + 1 := by omega
  go_enter Tryd.func60, Tryd.ntmps60
  go_wp2_with fail
  exact bodyPost_ret (v := .string x) (by simp [results, Tryd.results60, go_sem]) rfl ⟨rfl, two _ _ _⟩
set_option maxRecDepth 100000 in
theorem words7 (N : Int) (a b c : Int) (sg : ByteArray) (d : Int) (vv pp : Value) (w : World) : Calls Tryd.prog 60 #[.agg #[.int .u8 7, .int .i64 N], .agg #[.int .i64 a, .int .u8 b, .int .u8 c, .string sg, .int .i64 d], vv, pp] w fun e w' => e = .returned (.string sg) ∧ Below w.heap.size w w' := by
  go_enter Tryd.func60, Tryd.ntmps60
  go_wp2_with fail
  exact bodyPost_ret (v := .string sg) (by simp [results, Tryd.results60, go_sem]) rfl ⟨rfl, two _ _ _⟩
set_option maxRecDepth 100000 in
theorem words3 (N : Int) (a b c : Int) (sg : ByteArray) (d : Int) (vv : Value) (m cap pb off : Nat) (s : ByteArray) (q : Nat) (hm : 0 < m) (hs : s.size ≤ 1152921504606846976) (hg : sg.size ≤ 4) (w : World) (hc0 : w.cell? ⟨pb, off, none⟩ = some (.string s)) (hc1 : w.cell? ⟨pb, off + 1, none⟩ = some (.int .i64 (q : Int))) :
    Calls Tryd.prog 60 #[.agg #[.int .u8 3, .int .i64 N], .agg #[.int .i64 a, .int .u8 b, .int .u8 c, .string sg, .int .i64 d], vv, .slice (some ⟨pb, off, none⟩) m cap] w fun e w' => e = .returned (.string (sg ++ inT 6 (s, q))) ∧ Below w.heap.size w w' := by
  have S := hideR (two w (.cells #[.int .u8 3, .int .i64 N] 54) (.cells #[.int .i64 a, .int .u8 b, .int .u8 c, .string sg, .int .i64 d] 126))
  have F := hideR (fun W => within_any s q 6 hs W)
  have hz : (inT 6 (s, q)).size ≤ s.size + 2 := inT_size 6 (s, q)
  generalize inT 6 (s, q) = r at *
  have hsum : ¬ (9223372036854775807 < sg.size + r.size) := by omega
  have m0 : (0 : Int) < (m : Int) := by omega
  have hl : pb < w.heap.size := World.block_lt_of_cell? _ _ hc0
  have hl0 : ¬ pb = w.heap.size := by omega
  have hl1 : ¬ pb = w.heap.size + 1 := by omega
  have hl2 : pb < w.heap.size + 1 := by omega
  go_enter Tryd.func60, Tryd.ntmps60
  go_wp2_with fail
  go_region_held3 (fun w' => w'.cell? ⟨w.heap.size + 1, 3, none⟩ = some (.string sg) ∧ w'.cell? ⟨pb, off, none⟩ = some (.string s) ∧ w'.cell? ⟨pb, off + 1, none⟩ = some (.int .i64 (q : Int)))
    (first | exact ⟨by assumption, by assumption, by assumption⟩ | (refine ⟨?_, ?_, ?_⟩ <;> simp [go_sem, *] <;> done))
    (first | (go_at_call 74; refine (F.out _).mono ?_; rintro e w' ⟨rfl, hb⟩; have s0 := kc ⟨w.heap.size + 1, 3, none⟩ (.string sg) hb (by first | assumption | (simp [go_sem]; done)); have s1 := kc ⟨pb, off, none⟩ (.string s) hb (by first | assumption | (simp [go_sem, *]; done)); have s2 := kc ⟨pb, off + 1, none⟩ (.int .i64 (q : Int)) hb (by first | assumption | (simp [go_sem, *]; done)); have s7 := hideR (beyond (w := w) (by first | exact S.out | exact Below.drew S.out) hb)))
  all_goals go_wp2_with fail
  all_goals exact bodyPost_ret (v := .string (sg ++ r)) (by simp [results, Tryd.results60, go_sem]) rfl ⟨rfl, s7.out⟩
set_option maxRecDepth 100000 in
theorem words12 (N : Int) (a b c : Int) (sg : ByteArray) (d : Int) (vv : Value) (m cap pb off : Nat) (s : ByteArray) (q : Nat) (hm : 0 < m) (hs : s.size ≤ 1152921504606846976) (hg : sg.size ≤ 4) (w : World) (hc0 : w.cell? ⟨pb, off, none⟩ = some (.string s)) (hc1 : w.cell? ⟨pb, off + 1, none⟩ = some (.int .i64 (q : Int))) :
    Calls Tryd.prog 60 #[.agg #[.int .u8 12, .int .i64 N], .agg #[.int .i64 a, .int .u8 b, .int .u8 c, .string sg, .int .i64 d], vv, .slice (some ⟨pb, off, none⟩) m cap] w fun e w' => e = .returned (.string (sg ++ brT s)) ∧ Below w.heap.size w w' := by
  have S := hideR (two w (.cells #[.int .u8 12, .int .i64 N] 54) (.cells #[.int .i64 a, .int .u8 b, .int .u8 c, .string sg, .int .i64 d] 126))
  have F := hideR (fun W => bracketed_any s q hs W)
  have hz : (brT s).size ≤ s.size + 2 := brT_size s
  generalize brT s = r at *
  have hsum : ¬ (9223372036854775807 < sg.size + r.size) := by omega
  have m0 : (0 : Int) < (m : Int) := by omega
  have hl : pb < w.heap.size := World.block_lt_of_cell? _ _ hc0
  have hl0 : ¬ pb = w.heap.size := by omega
  have hl1 : ¬ pb = w.heap.size + 1 := by omega
  have hl2 : pb < w.heap.size + 1 := by omega
  go_enter Tryd.func60, Tryd.ntmps60
  go_wp2_with fail
  go_region_held3 (fun w' => w'.cell? ⟨w.heap.size + 1, 3, none⟩ = some (.string sg) ∧ w'.cell? ⟨pb, off, none⟩ = some (.string s) ∧ w'.cell? ⟨pb, off + 1, none⟩ = some (.int .i64 (q : Int)))
    (first | exact ⟨by assumption, by assumption, by assumption⟩ | (refine ⟨?_, ?_, ?_⟩ <;> simp [go_sem, *] <;> done))
    (first | (go_at_call 75; refine (F.out _).mono ?_; rintro e w' ⟨rfl, hb⟩; have s0 := kc ⟨w.heap.size + 1, 3, none⟩ (.string sg) hb (by first | assumption | (simp [go_sem]; done)); have s1 := kc ⟨pb, off, none⟩ (.string s) hb (by first | assumption | (simp [go_sem, *]; done)); have s2 := kc ⟨pb, off + 1, none⟩ (.int .i64 (q : Int)) hb (by first | assumption | (simp [go_sem, *]; done)); have s7 := hideR (beyond (w := w) (by first | exact S.out | exact Below.drew S.out) hb)))
  all_goals go_wp2_with fail
  all_goals exact bodyPost_ret (v := .string (sg ++ r)) (by simp [results, Tryd.results60, go_sem]) rfl ⟨rfl, s7.out⟩
set_option maxRecDepth 100000 in
set_option maxHeartbeats 2000000 in
theorem wordsB (o : Nat) (N : Int) (a b c : Int) (sg : ByteArray) (bd : Nat) (vv : Value) (m cap pb off : Nat) (s s2 : ByteArray) (q q2 : Nat) (i1 : ((o : Int) == 1) = false) (i2 : ((o : Int) == 2) = false) (i7 : ((o : Int) == 7) = false) (i3 : ((o : Int) == 3) = false) (i12 : ((o : Int) == 12) = false)
    (hm : 1 < m) (hs : s.size ≤ 1152921504606846976) (hs2 : s2.size ≤ 1152921504606846976) (hg : sg.size ≤ 4) (hd : bd ≤ 7) (w : World) (hc0 : w.cell? ⟨pb, off, none⟩ = some (.string s)) (hc1 : w.cell? ⟨pb, off + 1, none⟩ = some (.int .i64 (q : Int))) (hc2 : w.cell? ⟨pb, off + 2, none⟩ = some (.string s2)) (hc3 : w.cell? ⟨pb, off + 3, none⟩ = some (.int .i64 (q2 : Int))) :
    Calls Tryd.prog 60 #[.agg #[.int .u8 (o : Int), .int .i64 N], .agg #[.int .i64 a, .int .u8 b, .int .u8 c, .string sg, .int .i64 (bd : Int)], vv, .slice (some ⟨pb, off, none⟩) m cap] w fun e w' => e = .returned (.string (inT bd (s, q) ++ sg ++ inT (bd + 1) (s2, q2))) ∧ Below w.heap.size w w' := by
  have S := hideR (two w (.cells #[.int .u8 (o : Int), .int .i64 N] 54) (.cells #[.int .i64 a, .int .u8 b, .int .u8 c, .string sg, .int .i64 (bd : Int)] 126))
  have F := hideR (fun W => within_any s q bd hs W)
  have F2 : Hid (∀ W, Calls Tryd.prog 74 #[.agg #[.string s2, .int .i64 (q2 : Int)], .int .i64 ((bd : Int) + 1)] W fun e w' => e = .returned (.string (inT (bd + 1) (s2, q2))) ∧ Below W.heap.size W w') := fun W => within_any s2 q2 (bd + 1) hs2 W
  have hz : (inT bd (s, q)).size ≤ s.size + 2 := inT_size bd (s, q)
  have hz2 : (inT (bd + 1) (s2, q2)).size ≤ s2.size + 2 := inT_size (bd + 1) (s2, q2)
  generalize inT bd (s, q) = r at *
  generalize inT (bd + 1) (s2, q2) = r2 at *
  have hsum : ¬ (9223372036854775807 < r.size + sg.size) := by omega
  have hsum2 : ¬ (9223372036854775807 < r.size + sg.size + r2.size) := by omega
  have e1 : IntKind.i64.wrap ((bd : Int) + 1) = (bd : Int) + 1 := by rw [IntKind.wrap_i64]; omega
  have m0 : (0 : Int) < (m : Int) := by omega
  have m1 : (1 : Int) < (m : Int) := by omega
  have hl : pb < w.heap.size := World.block_lt_of_cell? _ _ hc0
  have hl0 : ¬ pb = w.heap.size := by omega
  have hl1 : ¬ pb = w.heap.size + 1 := by omega
  have hl2 : pb < w.heap.size + 1 := by omega
  have hm0 : 0 < m := by omega
  clear hs hs2 hg hd hz hz2
  go_enter Tryd.func60, Tryd.ntmps60
  go_wp2_with fail
  have k0 : ((w.alloc (.cells #[.int .u8 (o : Int), .int .i64 N] 54)).alloc (.cells #[.int .i64 a, .int .u8 b, .int .u8 c, .string sg, .int .i64 (bd : Int)] 126)).cell? ⟨w.heap.size + 1, 3, none⟩ = some (.string sg) := by simp [go_sem]
  have k1 : ((w.alloc (.cells #[.int .u8 (o : Int), .int .i64 N] 54)).alloc (.cells #[.int .i64 a, .int .u8 b, .int .u8 c, .string sg, .int .i64 (bd : Int)] 126)).cell? ⟨w.heap.size + 1, 4, none⟩ = some (.int .i64 (bd : Int)) := by simp [go_sem]
  have k2 := kc _ _ S.out hc0
  have k3 := kc _ _ S.out hc1
  have k4 := kc _ _ S.out hc2
  have k5 : ((w.alloc (.cells #[.int .u8 (o : Int), .int .i64 N] 54)).alloc (.cells #[.int .i64 a, .int .u8 b, .int .u8 c, .string sg, .int .i64 (bd : Int)] 126)).cell? ⟨pb, off + 2 + 1, none⟩ = some (.int .i64 (q2 : Int)) := kc _ _ S.out hc3
  clear hc0 hc1 hc2 hc3
  generalize ((w.alloc (.cells #[.int .u8 (o : Int), .int .i64 N] 54)).alloc (.cells #[.int .i64 a, .int .u8 b, .int .u8 c, .string sg, .int .i64 (bd : Int)] 126)) = W at *
  have d0 : W.drew.cell? ⟨w.heap.size + 1, 3, none⟩ = some (.string sg) := k0
  have d1 : W.drew.cell? ⟨w.heap.size + 1, 4, none⟩ = some (.int .i64 (bd : Int)) := k1
  have d2 : W.drew.cell? ⟨pb, off, none⟩ = some (.string s) := k2
  have d3 : W.drew.cell? ⟨pb, off + 1, none⟩ = some (.int .i64 (q : Int)) := k3
  have d4 : W.drew.cell? ⟨pb, off + 2, none⟩ = some (.string s2) := k4
  have d5 : W.drew.cell? ⟨pb, off + 2 + 1, none⟩ = some (.int .i64 (q2 : Int)) := k5
  have d6 : Hid (Below w.heap.size w W.drew) := Below.drew S.out
  go_region_held3 (fun w' => w'.cell? ⟨w.heap.size + 1, 3, none⟩ = some (.string sg) ∧ w'.cell? ⟨w.heap.size + 1, 4, none⟩ = some (.int .i64 (bd : Int)) ∧ w'.cell? ⟨pb, off, none⟩ = some (.string s) ∧ w'.cell? ⟨pb, off + 1, none⟩ = some (.int .i64 (q : Int)) ∧ w'.cell? ⟨pb, off + 2, none⟩ = some (.string s2) ∧ w'.cell? ⟨pb, off + 2 + 1, none⟩ = some (.int .i64 (q2 : Int)) ∧ Hid (Below w.heap.size w w'))
    (first | exact ⟨by with_reducible assumption, by with_reducible assumption, by with_reducible assumption, by with_reducible assumption, by with_reducible assumption, by with_reducible assumption, by with_reducible assumption⟩ | exact ⟨k0, k1, k2, k3, k4, k5, Below.drew S.out⟩)
    (first | (go_at_call 74; (first | with_reducible refine (F.out _).mono ?_ | with_reducible refine (F2.out _).mono ?_); rintro e w' ⟨rfl, hb⟩; have t0 := kc ⟨w.heap.size + 1, 3, none⟩ (.string sg) hb (by with_reducible assumption); have t1 := kc ⟨w.heap.size + 1, 4, none⟩ (.int .i64 (bd : Int)) hb (by with_reducible assumption); have t2 := kc ⟨pb, off, none⟩ (.string s) hb (by with_reducible assumption); have t3 := kc ⟨pb, off + 1, none⟩ (.int .i64 (q : Int)) hb (by with_reducible assumption); have t4 := kc ⟨pb, off + 2, none⟩ (.string s2) hb (by with_reducible assumption); have t5 := kc ⟨pb, off + 2 + 1, none⟩ (.int .i64 (q2 : Int)) hb (by with_reducible assumption); have s7 := hideR (beyond (w := w) (by with_reducible first | exact Hid.out (by assumption) | exact S.out | exact Below.drew S.out) hb)))
  all_goals go_wp2_with fail
  all_goals exact bodyPost_ret (v := .string (r ++ sg ++ r2)) (by simp [results, Tryd.results60, go_sem]) rfl ⟨rfl, s7.out⟩
end Go.Proofs.YtgidlgmnkjoofaaDoor
