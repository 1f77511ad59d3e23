/-
  expr.textOf, the closure of expr.Print, expr.Print.
-/
import Derived.Test.YtgidlgmnkjoofaaDoorPk
namespace Go.Proofs.YtgidlgmnkjoofaaDoor
open Go.RowKit
set_option linter.unusedVariables false
/-- What a node's number and parts are, for which its text is asked. -/
def NodeOT (m : Nat) (n : Node) (ps : List Txt) : Prop := 1 ≤ n.1 ∧ n.1 ≤ 14 ∧ (n.1 = 1 → 0 ≤ n.2 ∧ n.2 ≤ 1048576) ∧ (n.1 = 2 → 0 ≤ n.2 ∧ n.2 < (m : Int)) ∧ ps.length = pt n ∧ (∀ p ∈ ps, p.1.size ≤ 1152921504606846976)
theorem op_sign (o : Nat) : (opR o).2.2.2.1.length ≤ 4 ∧ (opR o).2.2.2.2 ≤ 7 := by
  by_cases c : o < 15
  · have : ∀ o : Nat, o < 15 → (opR o).2.2.2.1.length ≤ 4 ∧ (opR o).2.2.2.2 ≤ 7 := by decide
    exact this o c
  · rw [opR_out o (by omega)]
    decide
theorem wordsOf_any (ns : List ByteArray) (n : Node) (ps : List Txt) (hok : NodeOT ns.length n ps) (va : Option Addr) (vc : Nat) (ad : Option Addr) (cap : Nat) (w : World) (hP : Pow w) (hv : RowV w va (ns.flatMap StrC)) (hp : RowV w ad (ps.flatMap TxtC)) :
    Calls Tryd.prog 60 #[nodeV n, opV (opR n.1), .slice va ns.length vc, .slice ad ps.length cap] w fun e w' => e = .returned (.string (wordsJ ns n ps)) ∧ Below w.heap.size w w' := by
  obtain ⟨h1, h14, hnum, hvar, hlen, hin⟩ := hok
  have P1 := pt_one n ⟨h1, h14⟩
  have P2 := pt_two n ⟨h1, h14⟩
  rw [← hlen] at P1 P2
  clear hlen
  obtain ⟨o, N⟩ := n
  unfold wordsJ
  obtain ⟨hsg, hbd⟩ := op_sign o
  simp only at *
  have hg : (str (opR o).2.2.2.1).size ≤ 4 := by
    show ((opR o).2.2.2.1.toArray).size ≤ 4
    rw [List.size_toArray]
    exact hsg
  clear hsg
  have nt : ∀ k : Nat, ¬ o = k → ((o : Int) == (k : Int)) = false := fun k h => by simp; omega
  by_cases c1 : o = 1
  · rw [if_pos c1]
    obtain ⟨n0, n1⟩ := hnum c1
    subst c1
    exact words1 N _ _ _ _ _ _ _ (by omega) (by omega) w hP
  rw [if_neg c1]
  by_cases c2 : o = 2
  · rw [if_pos c2]
    obtain ⟨v0, v1⟩ := hvar c2
    subst c2
    obtain ⟨N', rfl⟩ := Int.eq_ofNat_of_zero_le v0
    have hN : N' < ns.length := by omega
    obtain ⟨b, off, rfl, cc⟩ := rowV_at (s := 1) (fun _ => rfl) hv (by decide) hN
    have x0 := cc 0 (by decide)
    simp only [StrC, List.getElem?_cons_zero, Nat.mul_one, Nat.add_zero] at x0
    have e : ns.getD (N' : Int).toNat (str []) = ns[N'] := by simp [hN]
    rw [e]
    exact words2 N' _ vc b off _ hN _ _ _ _ _ _ w x0
  rw [if_neg c2]
  by_cases c7 : o = 7
  · rw [if_pos c7]; subst c7; exact words7 N _ _ _ _ _ _ _ w
  rw [if_neg c7]
  replace P1 := P1 c1 c2 c7
  replace P2 := P2 c1 c2 c7
  match ps, P1 with
  | (x, y) :: rest, _ =>
    have hL : ((x, y) :: rest).length = rest.length + 1 := rfl
    obtain ⟨b, off, rfl, q0⟩ := hp 0 (.string x) rfl
    obtain ⟨b', off', e', q1⟩ := hp 1 (.int .i64 (y : Int)) rfl
    injection e' with e'
    injection e' with e1 e2
    subst e1 e2
    rw [Nat.add_zero] at q0
    have hx : x.size ≤ 1152921504606846976 := hin (x, y) List.mem_cons_self
    simp only [List.getD_cons_zero]
    by_cases c3 : o = 3
    · rw [if_pos c3]
      subst c3
      exact words3 N _ _ _ _ _ _ _ cap b off x y (by rw [hL]; omega) hx hg w q0 q1
    rw [if_neg c3]
    by_cases c12 : o = 12
    · rw [if_pos c12]
      subst c12
      exact words12 N _ _ _ _ _ _ _ cap b off x y (by rw [hL]; omega) hx hg w q0 q1
    rw [if_neg c12]
    replace P2 := P2 c3 c12
    match rest, P2 with
    | (x2, y2) :: rest, _ =>
      have hL : ((x, y) :: (x2, y2) :: rest).length = rest.length + 2 := rfl
      obtain ⟨b3, off3, e3, q2⟩ := hp 2 (.string x2) rfl
      obtain ⟨b4, off4, e4, q3⟩ := hp 3 (.int .i64 (y2 : Int)) rfl
      injection e3 with e3
      injection e3 with e1 e2
      subst e1 e2
      injection e4 with e4
      injection e4 with e1 e2
      subst e1 e2
      have hx2 : x2.size ≤ 1152921504606846976 := hin (x2, y2) (by simp)
      simp only [List.getD_cons_succ, List.getD_cons_zero]
      exact wordsB o N _ _ _ _ _ _ _ cap b off x x2 y y2 (nt 1 c1) (nt 2 c2) (nt 7 c7) (nt 3 c3) (nt 12 c12) (by rw [hL]; omega) hx hx2 hg hbd w q0 q1 q2 q3
/-- The text of a node over its parts' texts. -/
def textJ (ns : List ByteArray) (n : Node) (ps : List Txt) : Txt := (wordsJ ns n ps, (opR n.1).2.2.2.2)
set_option maxRecDepth 100000 in
set_option maxHeartbeats 1000000 in
theorem textOf_any (ns : List ByteArray) (n : Node) (ps : List Txt) (hok : NodeOT ns.length n ps) (va : Option Addr) (vc : Nat) (ad : Option Addr) (cap : Nat) (w : World) (hT : OpsT w) (hP : Pow w) (hv : RowV w va (ns.flatMap StrC)) (hp : RowV w ad (ps.flatMap TxtC)) :
    Calls Tryd.prog 41 #[nodeV n, .slice va ns.length vc, .slice ad ps.length cap] w fun e w' => e = .returned (.agg #[.string (textJ ns n ps).1, .int .i64 ((textJ ns n ps).2 : Int)]) ∧ Below w.heap.size w w' := by
  have F := hideR (fun W (hb : Below w.heap.size w W) => wordsOf_any ns n ps hok va vc ad cap W (pow_later hP hb) (hv.later hb) (hp.later hb))
  have OP := hideR (fun W (hb : Below w.heap.size w W) => operatorOf_any n.1 (by obtain ⟨_, h, _⟩ := hok; omega) W (ops_later hT hb))
  unfold textJ
  clear hT hv hp hok hP
  simp only
  generalize wordsJ ns n ps = r at *
  generalize ns.length = m at *
  generalize ps.length = pl at *
  obtain ⟨o, N⟩ := n
  simp only at *
  dsimp only [opV] at OP F
  generalize opR o = q at *
  obtain ⟨p, tk, kd, sg, bd⟩ := q
  go_enter Tryd.func41, Tryd.ntmps41
  go_wp2_with fail
  have S := hideR (two w (.cells #[.int .u8 (o : Int), .int .i64 N] 54) (.cells #[.string ⟨#[]⟩, .int .i64 0] 70))
  refine (OP.out _ S.out).mono ?_
  rintro e w1 ⟨rfl, hb⟩
  clear OP
  have a0 := kc ⟨w.heap.size, 0, none⟩ (.int .u8 (o : Int)) hb (by simp [go_sem])
  have a1 := kc ⟨w.heap.size, 1, none⟩ (.int .i64 N) hb (by simp [go_sem])
  have a2 := kc ⟨w.heap.size + 1, 0, none⟩ (.string ⟨#[]⟩) hb (by simp [go_sem])
  have a3 := kc ⟨w.heap.size + 1, 1, none⟩ (.int .i64 0) hb (by simp [go_sem])
  have a4 := kf ⟨w.heap.size + 1, 0, none⟩ (.string ⟨#[]⟩) hb (by simp [go_sem]) (by simp [go_sem])
  have a5 := kf ⟨w.heap.size + 1, 1, none⟩ (.int .i64 0) hb (by simp [go_sem]) (by simp [go_sem])
  have HB := hideR (beyond S.out hb)
  have lt : w.heap.size + 1 < w1.heap.size := World.block_lt_of_cell? _ _ a2
  clear hb S
  go_upto_region 2 with (fail)
  have hb2 := single w1 (.cells #[.int .i64 (p : Int), .int .u8 (tk : Int), .int .u8 (kd : Int), .string ⟨sg.toArray⟩, .int .i64 (bd : Int)] 126)
  have b2 : (w1.alloc (.cells #[.int .i64 (p : Int), .int .u8 (tk : Int), .int .u8 (kd : Int), .string ⟨sg.toArray⟩, .int .i64 (bd : Int)] 126)).cell? ⟨w1.heap.size, 0, none⟩ = some (.int .i64 (p : Int)) := by simp [go_sem]
  have b3 : (w1.alloc (.cells #[.int .i64 (p : Int), .int .u8 (tk : Int), .int .u8 (kd : Int), .string ⟨sg.toArray⟩, .int .i64 (bd : Int)] 126)).cell? ⟨w1.heap.size, 1, none⟩ = some (.int .u8 (tk : Int)) := by simp [go_sem]
  have b4 : (w1.alloc (.cells #[.int .i64 (p : Int), .int .u8 (tk : Int), .int .u8 (kd : Int), .string ⟨sg.toArray⟩, .int .i64 (bd : Int)] 126)).cell? ⟨w1.heap.size, 2, none⟩ = some (.int .u8 (kd : Int)) := by simp [go_sem]
  have b5 : (w1.alloc (.cells #[.int .i64 (p : Int), .int .u8 (tk : Int), .int .u8 (kd : Int), .string ⟨sg.toArray⟩, .int .i64 (bd : Int)] 126)).cell? ⟨w1.heap.size, 3, none⟩ = some (.string ⟨sg.toArray⟩) := by simp [go_sem]
  have b6 : (w1.alloc (.cells #[.int .i64 (p : Int), .int .u8 (tk : Int), .int .u8 (kd : Int), .string ⟨sg.toArray⟩, .int .i64 (bd : Int)] 126)).cell? ⟨w1.heap.size, 4, none⟩ = some (.int .i64 (bd : Int)) := by simp [go_sem]
  have b0 := kc _ _ hb2 a0
  have b1 := kc _ _ hb2 a1
  have r0 := kc _ _ hb2 a2
  have r1 := kc _ _ hb2 a3
  have r2 := kf _ _ hb2 a2 a4
  have r3 := kf _ _ hb2 a3 a5
  have HB2 := hideR (beyond HB.out hb2)
  have ne : ¬ w1.heap.size = w.heap.size + 1 := by omega
  clear hb2 a0 a1 a2 a3 a4 a5 HB lt
  generalize w1.alloc (.cells #[.int .i64 (p : Int), .int .u8 (tk : Int), .int .u8 (kd : Int), .string ⟨sg.toArray⟩, .int .i64 (bd : Int)] 126) = W at *
  generalize w1.heap.size = B at *
  have d0 : W.drew.cell? ⟨w.heap.size, 0, none⟩ = some (.int .u8 (o : Int)) := b0
  have d1 : W.drew.cell? ⟨w.heap.size, 1, none⟩ = some (.int .i64 N) := b1
  have d2 : W.drew.cell? ⟨B, 0, none⟩ = some (.int .i64 (p : Int)) := b2
  have d3 : W.drew.cell? ⟨B, 1, none⟩ = some (.int .u8 (tk : Int)) := b3
  have d4 : W.drew.cell? ⟨B, 2, none⟩ = some (.int .u8 (kd : Int)) := b4
  have d5 : W.drew.cell? ⟨B, 3, none⟩ = some (.string ⟨sg.toArray⟩) := b5
  have d6 : W.drew.cell? ⟨B, 4, none⟩ = some (.int .i64 (bd : Int)) := b6
  have e0 : W.drew.cell? ⟨w.heap.size + 1, 0, none⟩ = some (.string ⟨#[]⟩) := r0
  have e1 : W.drew.cell? ⟨w.heap.size + 1, 1, none⟩ = some (.int .i64 0) := r1
  have e2 : W.drew.frozen? ⟨w.heap.size + 1, 0, none⟩ = false := r2
  have e3 : W.drew.frozen? ⟨w.heap.size + 1, 1, none⟩ = false := r3
  have HBd : Hid (Below w.heap.size w W.drew) := Below.drew HB2.out
  go_region_held3 (fun w' => w'.cell? ⟨w.heap.size, 0, none⟩ = some (.int .u8 (o : Int)) ∧ w'.cell? ⟨w.heap.size, 1, none⟩ = some (.int .i64 N) ∧ w'.cell? ⟨B, 0, none⟩ = some (.int .i64 (p : Int)) ∧ w'.cell? ⟨B, 1, none⟩ = some (.int .u8 (tk : Int)) ∧ w'.cell? ⟨B, 2, none⟩ = some (.int .u8 (kd : Int)) ∧ w'.cell? ⟨B, 3, none⟩ = some (.string ⟨sg.toArray⟩) ∧ w'.cell? ⟨B, 4, none⟩ = some (.int .i64 (bd : Int)))
    (first | exact ⟨by with_reducible assumption, by with_reducible assumption, by with_reducible assumption, by with_reducible assumption, by with_reducible assumption, by with_reducible assumption, by with_reducible assumption⟩ | exact ⟨d0, d1, d2, d3, d4, d5, d6⟩ | (refine ⟨?_, ?_, ?_, ?_, ?_, ?_, ?_⟩ <;> simp [go_sem, *] <;> done))
    (first | (go_at_call 60; with_reducible refine (F.out _ (Hid.out (by assumption))).mono ?_; rintro e w' ⟨rfl, hb⟩; have t0 := kc ⟨w.heap.size, 0, none⟩ (.int .u8 (o : Int)) hb (by with_reducible assumption); have t1 := kc ⟨w.heap.size, 1, none⟩ (.int .i64 N) hb (by with_reducible assumption); have t2 := kc ⟨B, 0, none⟩ (.int .i64 (p : Int)) hb (by with_reducible assumption); have t3 := kc ⟨B, 1, none⟩ (.int .u8 (tk : Int)) hb (by with_reducible assumption); have t4 := kc ⟨B, 2, none⟩ (.int .u8 (kd : Int)) hb (by with_reducible assumption); have t5 := kc ⟨B, 3, none⟩ (.string ⟨sg.toArray⟩) hb (by with_reducible assumption); have t6 := kc ⟨B, 4, none⟩ (.int .i64 (bd : Int)) hb (by with_reducible assumption); have u0 := kc ⟨w.heap.size + 1, 0, none⟩ (.string ⟨#[]⟩) hb (by with_reducible assumption); have u1 := kc ⟨w.heap.size + 1, 1, none⟩ (.int .i64 0) hb (by with_reducible assumption); have u2 := kf ⟨w.heap.size + 1, 0, none⟩ (.string ⟨#[]⟩) hb (by with_reducible assumption) (by with_reducible assumption); have u3 := kf ⟨w.heap.size + 1, 1, none⟩ (.int .i64 0) hb (by with_reducible assumption) (by with_reducible assumption); have s7 := hideR (beyond (w := w) (Hid.out (by with_reducible assumption)) hb)))
  all_goals go_wp2_with fail
  all_goals exact bodyPost_ret (v := .agg #[.string r, .int .i64 (bd : Int)]) (by simp [results, Tryd.results41, go_sem, *]) rfl ⟨rfl, set2 s7.out (Nat.le_succ _) _ _⟩
abbrev txtF (ns : List ByteArray) : Node → List Txt → Option Txt := fun n ps => some (textJ ns n ps)
def sizeS (s : List Txt) : Nat := (s.map (fun t => t.1.size)).sum
theorem sizeS_split (s : List Txt) (k : Nat) : sizeS (s.take k) + sizeS (s.drop k) = sizeS s := by
  unfold sizeS
  rw [← List.sum_append, ← List.map_append, List.take_append_drop]
theorem sizeS_mem {s : List Txt} {t : Txt} (h : t ∈ s) : t.1.size ≤ sizeS s := by
  induction s with
  | nil => cases h
  | cons a l ih =>
    have e : sizeS (a :: l) = a.1.size + sizeS l := by simp [sizeS]
    rw [e]
    rcases List.mem_cons.1 h with rfl | h
    · omega
    · have := ih h
      omega
theorem sizeS_two (ps : List Txt) : (ps.getD 0 (str [], 0)).1.size + (ps.getD 1 (str [], 0)).1.size ≤ sizeS ps := by
  match ps with
  | [] => decide
  | [a] =>
    have e : sizeS [a] = a.1.size := by simp [sizeS]
    rw [e]
    show a.1.size + 0 ≤ _
    omega
  | a :: b :: r =>
    have e : sizeS (a :: b :: r) = a.1.size + (b.1.size + sizeS r) := by simp [sizeS]
    rw [e]
    show a.1.size + b.1.size ≤ _
    omega
theorem str_size (l : List UInt8) : (str l).size = l.length := by
  show (l.toArray).size = _
  simp
theorem words_size {k : Int} (ns : List ByteArray) (hns : ∀ s ∈ ns, s.size ≤ 140737488355328) (n : Node) (ps : List Txt) (hn : nodeOk k n) : (wordsJ ns n ps).size ≤ sizeS ps + 140737488355336 := by
  have h2 := sizeS_two ps
  obtain ⟨hsg, hbd⟩ := op_sign n.1
  unfold wordsJ
  have i0 := inT_size 6 (ps.getD 0 (str [], 0))
  have i1 := inT_size (opR n.1).2.2.2.2 (ps.getD 0 (str [], 0))
  have i2 := inT_size ((opR n.1).2.2.2.2 + 1) (ps.getD 1 (str [], 0))
  have i3 := brT_size (ps.getD 0 (str [], 0)).1
  repeat' split
  · have := ok_num hn (by assumption)
    have := Lib.itoa_length_le n.2 (by omega) (by omega)
    rw [str_size]
    omega
  · rw [List.getD_eq_getElem?_getD]
    cases e : ns[n.2.toNat]? with
    | none => show 0 ≤ _; omega
    | some p => have := hns p (List.mem_of_getElem? e); show p.size ≤ _; omega
  · rw [str_size]; omega
  · rw [ByteArray.size_append, str_size]; omega
  · rw [ByteArray.size_append, str_size]; omega
  · rw [ByteArray.size_append, ByteArray.size_append, str_size (opR n.1).2.2.2.1]; omega
theorem stk_size {k : Int} (ns : List ByteArray) (hns : ∀ s ∈ ns, s.size ≤ 140737488355328) : ∀ (l : List Node) (hn : ∀ n ∈ l, nodeOk k n) (s : List Txt), stk (txtF ns) l = some s → sizeS s ≤ l.length * 140737488355336
  | [], _, s, h => by simp [stk] at h; subst h; simp [sizeS]
  | x :: l, hn, s, h => by
    obtain ⟨s', t, e, hl, ht, rfl⟩ := stk_some h
    have ih := stk_size ns hns l (fun n m => hn n (List.mem_cons_of_mem _ m)) s' e
    injection ht with ht
    have w := words_size ns hns x (s'.take (pt x)) (hn x List.mem_cons_self)
    have sp := sizeS_split s' (pt x)
    have : sizeS (t :: s'.drop (pt x)) = t.1.size + sizeS (s'.drop (pt x)) := by simp [sizeS]
    rw [this, ← ht, List.length_cons]
    show (wordsJ ns x (s'.take (pt x))).size + _ ≤ _
    omega
/-- The text of a right list. -/
def txtL (ns : List ByteArray) (l : List Node) : Txt := (foldL (txtF ns) l).getD (str [], 0)
theorem txtL_some {k : Int} {ns : List ByteArray} {l : List Node} {t : Nat} (h : kindL k l = some t) : foldL (txtF ns) l = some (txtL ns l) := by
  obtain ⟨_, hs⟩ := kindL_stk h
  obtain ⟨s', e, hl⟩ := stk_total (textJ ns) l [t] hs
  match s', hl with
  | [u], _ =>
    have : foldL (txtF ns) l = some u := fold_one _ l u e
    unfold txtL
    rw [this]
    rfl
set_option maxRecDepth 100000 in
set_option maxHeartbeats 1000000 in
theorem printClo (ns : List ByteArray) (n : Node) (ps : List Txt) (hok : NodeOT ns.length n ps) (va : Option Addr) (vc vb : Nat) (ad : Option Addr) (cap : Nat) (w : World) (hT : OpsT w) (hP : Pow w) (hc : w.cell? ⟨vb, 0, none⟩ = some (.slice va ns.length vc)) (hv : RowV w va (ns.flatMap StrC)) (hp : RowV w ad (ps.flatMap TxtC)) :
    Calls Tryd.prog 40 #[nodeV n, .slice ad ps.length cap, .pointer (some ⟨vb, 0, none⟩)] w fun e w' => AnsT e (txtF ns n ps) ∧ Below w.heap.size w w' := by
  have F := hideR (fun W (hb : Below w.heap.size w W) => textOf_any ns n ps hok va vc ad cap W (ops_later hT hb) (pow_later hP hb) (hv.later hb) (hp.later hb))
  clear hv hp hok hT hP
  unfold AnsT
  simp only [txtF]
  generalize textJ ns n ps = v at *
  obtain ⟨o, N⟩ := n
  obtain ⟨x, y⟩ := v
  have hl : vb < w.heap.size := World.block_lt_of_cell? _ _ hc
  have hl0 : ¬ vb = w.heap.size := by omega
  have hl1 : ¬ vb = w.heap.size + 1 := by omega
  have hl3 : vb < w.heap.size + 1 := by omega
  have HB0 := hideR (two w (.cells #[.int .u8 (o : Int), .int .i64 N] 54) (.cells #[.string ⟨#[]⟩, .int .i64 0] 70))
  go_enter Tryd.func40, Tryd.ntmps40
  go_wp2_with fail
  refine (F.out _ HB0.out).mono ?_
  rintro e w1 ⟨rfl, hb⟩
  clear F
  have R0 := kc ⟨w.heap.size + 1, 0, none⟩ (.string ⟨#[]⟩) hb (by simp [go_sem])
  have R1 := kc ⟨w.heap.size + 1, 1, none⟩ (.int .i64 0) hb (by simp [go_sem])
  have G0 := kf ⟨w.heap.size + 1, 0, none⟩ (.string ⟨#[]⟩) hb (by simp [go_sem]) (by simp [go_sem])
  have G1 := kf ⟨w.heap.size + 1, 1, none⟩ (.int .i64 0) hb (by simp [go_sem]) (by simp [go_sem])
  have HB := hideR (beyond HB0.out hb)
  clear hb HB0
  go_wp2_with fail
  exact bodyPost_ret (v := .tuple #[.agg #[.string x, .int .i64 (y : Int)], .bool true]) (by simp [results, Tryd.results40, go_sem, *]) rfl ⟨⟨(x, y), true, rfl, rfl⟩, set2 HB.out (Nat.le_succ _) _ _⟩
/-- The text of a list, and the error. -/
def printT (ns : List ByteArray) (l : List Node) : ByteArray × Int := if (kindL (ns.length : Int) l).isSome then ((txtL ns l).1, 0) else (str [], 121)
set_option maxRecDepth 100000 in
set_option maxHeartbeats 2000000 in
theorem print_any (ad : Option Addr) (cap : Nat) (l : List Node) (va : Option Addr) (vc : Nat) (ns : List ByteArray) (w : World) (hT : OpsT w) (hP : Pow w) (hV : RowV w ad (l.flatMap NodeC)) (hI : ∀ n ∈ l, n.1 < 256) (hv : RowV w va (ns.flatMap StrC)) (hns : ∀ s ∈ ns, s.size ≤ 140737488355328) :
    Calls Tryd.prog 19 #[.slice ad l.length cap, .slice va ns.length vc] w fun e w' => e = .returned (.tuple #[.string (printT ns l).1, .int .i64 (printT ns l).2]) ∧ Below w.heap.size w w' := by
  have S := hideR (single w (.cells #[.slice va ns.length vc] 61))
  have KO := hideR (right_any ad cap l (ns.length : Int) _ (ops_later hT S.out) (hV.later S.out) hI)
  have vb0 : (w.alloc (.cells #[.slice va ns.length vc] 61)).cell? ⟨w.heap.size, 0, none⟩ = some (.slice va ns.length vc) := by simp [go_sem]
  have FO : Hid (∀ t, kindL (ns.length : Int) l = some t → ∀ W, Below (w.alloc (.cells #[.slice va ns.length vc] 61)).heap.size (w.alloc (.cells #[.slice va ns.length vc] 61)) W → Calls Tryd.prog 39 #[.slice ad l.length cap, .func (.func 40) #[] #[.pointer (some ⟨w.heap.size, 0, none⟩)]] W fun e w' => AnsT e (some (txtL ns l)) ∧ Below W.heap.size W w') := by
    intro t ht W hb
    obtain ⟨hlen, hst⟩ := kindL_stk ht
    have hn := kind_nodes l _ hst
    have hB := beyond S.out hb
    have F := foldT ad cap l (txtF ns) (.pointer (some ⟨w.heap.size, 0, none⟩)) W (ops_later hT hB) (hV.later hB) hlen hI (by
      intro i x l' hd s hs hp ad' cap' W' hb' hr
      have hB' := beyond hB hb'
      have hx := hn x (node_mem hd)
      have hl2 : (s.take (pt x)).length = pt x := by rw [List.length_take]; omega
      have hsub : ∀ n ∈ l', nodeOk (ns.length : Int) n := fun n m => hn n (by
        have : n ∈ l.drop i := by rw [hd]; exact List.mem_cons_of_mem _ m
        exact List.mem_of_mem_drop this)
      have hsz := stk_size ns hns l' hsub s hs
      have hl' : l'.length ≤ 64 := by
        have := congrArg List.length hd
        simp at this
        omega
      have := printClo ns x (s.take (pt x)) ⟨(ok_in hx).1, (ok_in hx).2, ok_num hx, ok_var hx, hl2, fun p hp => by
        have := sizeS_mem (List.mem_of_mem_take hp)
        omega⟩ va vc w.heap.size ad' cap' W' (ops_later hT hB') (pow_later hP hB') (kc _ _ (beyond hb hb') vb0) (hv.later hB') hr
      rw [hl2] at this
      exact this)
    rw [txtL_some ht] at F
    exact F
  have WT : Hid (printT ns l = if (kindL (ns.length : Int) l).isSome then ((txtL ns l).1, 0) else (str [], 121)) := rfl
  clear hT hV hI hv hns vb0 hP
  unfold rightE at KO
  generalize printT ns l = R at *
  generalize txtL ns l = V at *
  generalize kindL (ns.length : Int) l = K at *
  generalize ns.length = m at *
  generalize l.length = n at *
  obtain ⟨x, y⟩ := V
  go_enter Tryd.func19, Tryd.ntmps19
  go_wp2_with fail
  refine KO.out.mono ?_
  rintro e w1 ⟨rfl, hb⟩
  clear KO
  have HB := hideR (beyond S.out hb)
  have HC := hideR hb
  clear hb
  cases K with
  | none =>
    simp only [Option.isSome_none, Bool.false_eq_true, if_false] at WT
    clear FO
    go_wp2_with fail
    exact bodyPost_ret (v := .tuple #[.string ⟨#[]⟩, .int .i64 121]) (by simp [results, Tryd.results19, go_sem]) rfl ⟨by rw [WT.out], HB.out⟩
  | some t =>
    simp only [Option.isSome_some, if_true] at WT
    have F := hideR (FO.out t rfl w1 HC.out)
    clear FO
    go_wp2_with fail
    refine F.out.mono ?_
    rintro e w2 ⟨⟨u, r, rfl, hr⟩, hb⟩
    clear F
    cases r with
    | false => simp at hr
    | true =>
      simp only [if_true, Option.some.injEq] at hr
      subst hr
      have HB2 := hideR (beyond HB.out hb)
      clear hb HB HC
      go_wp2_with fail
      exact bodyPost_ret (v := .tuple #[.string x, .int .i64 0]) (by simp [results, Tryd.results19, go_sem]) rfl ⟨by rw [WT.out], HB2.out.alloc (HB2.out.size) _⟩
end Go.Proofs.YtgidlgmnkjoofaaDoor
