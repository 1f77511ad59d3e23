/-
  The document's binds, sign, text, part, Print.
-/
import Derived.Test.YtmnhbokiibaopaaDoorQm
namespace Go.Proofs.YtmnhbokiibaopaaDoor
open Go.RowKit
set_option linter.unusedVariables false
set_option maxRecDepth 100000 in
theorem binds_any (o : Nat) (h : 1 ≤ o ∧ o ≤ 14) (w : World) : Calls Tryd.prog 82 #[.int .u8 (o : Int)] w fun e w' => e = .returned (.int .i64 ((opR o).2.2.2.2 : Int)) ∧ Below w.heap.size w w' := by
  have B := hideR (Below.refl w.heap.size w)
  have : o = 1 ∨ o = 2 ∨ o = 3 ∨ o = 4 ∨ o = 5 ∨ o = 6 ∨ o = 7 ∨ o = 8 ∨ o = 9 ∨ o = 10 ∨ o = 11 ∨ o = 12 ∨ o = 13 ∨ o = 14 := by omega
  rcases this with rfl | rfl | rfl | rfl | rfl | rfl | rfl | rfl | rfl | rfl | rfl | rfl | rfl | rfl
  all_goals
    go_enter Tryd.func82, Tryd.ntmps82
    go_wp2_with fail
    go_ret
    exact ⟨rfl, B.out⟩
/-- The sign of an operator of two, without the blanks. -/
def sgn (o : Nat) : List UInt8 := ((opR o).2.2.2.1.drop 1).dropLast
set_option maxRecDepth 100000 in
theorem sign_any (o : Nat) (h : pt (o, 0) = 2) (w : World) : Calls Tryd.prog 83 #[.int .u8 (o : Int)] w fun e w' => e = .returned (.string (str (sgn o))) ∧ Below w.heap.size w w' := by
  have B := hideR (Below.refl w.heap.size w)
  have h15 : o < 15 := by
    rcases Nat.lt_or_ge o 15 with q | q
    · exact q
    · rw [pt_out o 0 q] at h
      cases h
  have : ∀ o : Nat, o < 15 → (opR o).1 = 2 → o = 4 ∨ o = 5 ∨ o = 6 ∨ o = 8 ∨ o = 9 ∨ o = 10 ∨ o = 11 ∨ o = 13 ∨ o = 14 := by decide
  rcases this o h15 h with rfl | rfl | rfl | rfl | rfl | rfl | rfl | rfl | rfl
  all_goals
    clear h h15
    go_enter Tryd.func83, Tryd.ntmps83
    go_wp2_with fail
    go_ret
    exact ⟨rfl, B.out⟩
theorem sgn_blanks (o : Nat) (h : pt (o, 0) = 2) : [32] ++ sgn o ++ [32] = (opR o).2.2.2.1 := by
  have h15 : o < 15 := by
    rcases Nat.lt_or_ge o 15 with q | q
    · exact q
    · rw [pt_out o 0 q] at h
      cases h
  have : ∀ o : Nat, o < 15 → (opR o).1 = 2 → [32] ++ sgn o ++ [32] = (opR o).2.2.2.1 := by decide
  exact this o h15 h
abbrev txtAt (ns : List ByteArray) (l : List Node) (i : Nat) : Txt := headAt (textJ ns) (str [], 0) l i
theorem txtAt_binds {k : Int} {ns : List ByteArray} {l : List Node} {t : Nat} (h : kindL k l = some t) {i : Nat} {x : Node} (hx : l[i]? = some x) : (txtAt ns l i).2 = (opR x.1).2.2.2.2 := by
  obtain ⟨ps, h1, _⟩ := at_node (textJ ns) (str [], 0) h hx
  show (headAt (textJ ns) (str [], 0) l i).2 = _
  rw [h1]
  rfl
theorem txtAt_size {ns : List ByteArray} (hns : ∀ s ∈ ns, s.size ≤ 140737488355328) {l : List Node} {t : Nat} (h : kindL (ns.length : Int) l = some t) (i : Nat) : (txtAt ns l i).1.size ≤ 9007199254741504 := by
  obtain ⟨h64, hs⟩ := kindL_stk h
  obtain ⟨S, hS, _⟩ := stk_total (textJ ns) l [t] hs
  obtain ⟨s1, h1⟩ := stk_suffix l S i hS
  have hn := kind_nodes l _ hs
  have sz := stk_size ns hns (l.drop i) (fun n hn' => hn n (List.mem_of_mem_drop hn')) s1 h1
  have hd : (l.drop i).length ≤ 64 := by rw [List.length_drop]; omega
  show (headAt (textJ ns) (str [], 0) l i).1.size ≤ _
  unfold headAt
  rw [h1]
  match s1, sz with
  | [], _ => decide
  | u :: s2, sz =>
    have : u.1.size ≤ sizeS (u :: s2) := sizeS_mem List.mem_cons_self
    show u.1.size ≤ _
    omega
theorem cmp_left {k : Int} {ns : List ByteArray} {l : List Node} {t : Nat} (h : kindL k l = some t) {i : Nat} {x y : Node} (hx : l[i]? = some x) (h2 : pt x = 2) (hb : (opR x.1).2.2.2.2 = 3) (hy : l[i + 1]? = some y) : 4 ≤ (txtAt ns l (i + 1)).2 := by
  rw [txtAt_binds h hy]
  have hk := first_kind h hx (by omega) hy
  obtain ⟨hyl, rfl⟩ := List.getElem?_eq_some_iff.1 hy
  obtain ⟨hxl, rfl⟩ := List.getElem?_eq_some_iff.1 hx
  have vy := ok_in (right_nodes h (i + 1) hyl).1
  have vx := ok_in (right_nodes h i hxl).1
  generalize (l[i + 1]'hyl) = y at *
  generalize (l[i]'hxl) = x at *
  obtain ⟨o, N⟩ := x
  obtain ⟨q, M⟩ := y
  simp only at *
  have : ∀ o : Nat, o < 15 → ∀ q : Nat, q < 15 → ((opR o).1 = 2 ∧ (opR o).2.2.2.2 = 3 ∧ (opR q).2.2.1 = (opR o).2.1 ∧ 1 ≤ q) → 4 ≤ (opR q).2.2.2.2 := by decide +kernel
  exact this o (by omega) q (by omega) ⟨h2, hb, hk, vy.1⟩
set_option maxRecDepth 100000 in
set_option maxHeartbeats 1000000 in
/-- The text of a part, where the text of its tree is known. -/
theorem part_any (ad : Option Addr) (cap : Nat) (l : List Node) (va : Option Addr) (vc nn : Nat) (i n least : Nat) (o : Nat) (u : Txt) (w : World) (HV : Hid (RowV w ad (l.flatMap NodeC))) (HN : Hid (l.length = n)) (HX : Hid (∃ N, l[i]? = some (o, N))) (hi : i < n) (ho : 1 ≤ o ∧ o ≤ 14) (hu : u.2 = (opR o).2.2.2.2) (hz : u.1.size ≤ 9007199254741504)
    (TX : Hid (∀ W, Below w.heap.size w W → Calls Tryd.prog 65 #[.slice ad n cap, .int .i64 (i : Int), .slice va nn vc] W fun e w' => e = .returned (.string u.1) ∧ Below W.heap.size W w')) :
    Calls Tryd.prog 81 #[.slice ad n cap, .int .i64 (i : Int), .int .i64 (least : Int), .slice va nn vc] w fun e w' => e = .returned (.string (inT least u)) ∧ Below w.heap.size w w' := by
  obtain ⟨N, hN⟩ := HX.out
  obtain ⟨il, hxl⟩ := List.getElem?_eq_some_iff.1 hN
  have BN := hideR (fun W => binds_any o ho W)
  have h1 : (opR o).2.2.2.2 ≤ 7 := (op_sign o).2
  obtain ⟨s, b⟩ := u
  simp only at hu hz TX
  rw [← hu] at BN
  unfold inT
  simp only
  have k0 : (0 : Int) ≤ (i : Int) := by omega
  have k1 : (i : Int) < (n : Int) := by omega
  have z1 : ¬ (9223372036854775807 < 1 + s.size) := by omega
  have z2 : ¬ (9223372036854775807 < 1 + s.size + 1) := by omega
  have C0 : Hid (∀ W, Below w.heap.size w W → ∃ bk off, ad = some ⟨bk, off, none⟩ ∧ W.cell? ⟨bk, off + i * 2, none⟩ = some (.int .u8 (o : Int))) := by
    intro W hb
    obtain ⟨bk, off, e, x0, _⟩ := nodes_at (HV.out.later hb) il
    rw [hxl] at x0
    exact ⟨bk, off, e, x0⟩
  clear hxl hN HX hu h1 hz
  have cc : (b < least ∧ (if b < least then brT s else s) = brT s) ∨ (¬ b < least ∧ (if b < least then brT s else s) = s) := by
    by_cases q : b < least
    · exact .inl ⟨q, if_pos q⟩
    · exact .inr ⟨q, if_neg q⟩
  rcases cc with ⟨c, e⟩ | ⟨c, e⟩
  · rw [e]
    have c1 : (b : Int) < (least : Int) := by omega
    clear e c
    go_enter Tryd.func81, Tryd.ntmps81
    go_wp2_with fail
    refine (TX.out _ (Below.refl _ _)).mono ?_
    rintro e w1 ⟨rfl, hb⟩
    obtain ⟨bk, off, rfl, x0⟩ := C0.out w1 hb
    have B1 := hideR hb
    clear hb TX C0
    go_wp2_with fail
    refine (BN.out _).mono ?_
    rintro e w2 ⟨rfl, hb⟩
    have B2 := hideR (beyond B1.out hb)
    clear hb BN B1
    go_wp2_with fail
    exact bodyPost_ret (v := .string (brT s)) (by simp [results, Tryd.results81, go_sem, brT]) rfl ⟨rfl, B2.out⟩
  · rw [e]
    have c1 : ¬ (b : Int) < (least : Int) := by omega
    clear e c
    go_enter Tryd.func81, Tryd.ntmps81
    go_wp2_with fail
    refine (TX.out _ (Below.refl _ _)).mono ?_
    rintro e w1 ⟨rfl, hb⟩
    obtain ⟨bk, off, rfl, x0⟩ := C0.out w1 hb
    have B1 := hideR hb
    clear hb TX C0
    go_wp2_with fail
    refine (BN.out _).mono ?_
    rintro e w2 ⟨rfl, hb⟩
    have B2 := hideR (beyond B1.out hb)
    clear hb BN B1
    go_wp2_with fail
    exact bodyPost_ret (v := .string s) (by simp [results, Tryd.results81, go_sem]) rfl ⟨rfl, B2.out⟩
end Go.Proofs.YtmnhbokiibaopaaDoor
