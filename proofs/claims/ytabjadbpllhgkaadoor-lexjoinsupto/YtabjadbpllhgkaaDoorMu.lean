/-
  The document's Join.
-/
import Derived.Test.YtabjadbpllhgkaaDoorMt
namespace Go.Proofs.YtabjadbpllhgkaaDoor
open Go.RowKit
set_option linter.unusedVariables false
theorem join_snoc (ts : List (List UInt8)) (x : List UInt8) : Lib.join (ts ++ [x]) [32] = if ts = [] then x else Lib.join ts [32] ++ [32] ++ x := by
  cases ts with
  | nil => simp [Lib.join, List.intercalate]
  | cons t ts =>
    rw [if_neg (by simp), List.cons_append, Lib.join_cons, Lib.join_cons]
    simp [Lib.joinTail]
def joinL (l : List Item) : List UInt8 := Lib.join ((textsL l).map (·.data.toList)) [32]
theorem joinL_take (l : List Item) (k : Nat) (h : k < l.length) : joinL (l.take (k + 1)) = if keeps (l[k]'h) = true then (if textsL (l.take k) = [] then (l[k]'h).2.1.data.toList else joinL (l.take k) ++ [32] ++ (l[k]'h).2.1.data.toList) else joinL (l.take k) := by
  unfold joinL
  rw [texts_take l k h]
  split
  · rw [List.map_append, List.map_singleton, join_snoc]
    simp only [List.map_eq_nil_iff]
  · rfl
theorem sum_take (l : List Item) (k : Nat) : sumL (l.take k) ≤ sumL l := by
  conv => rhs; rw [← List.take_append_drop k l]
  unfold sumL
  rw [List.map_append, List.sum_append]
  omega
theorem join_nil_of (l : List Item) (h : textsL l = []) : joinL l = [] := by unfold joinL; rw [h]; rfl
theorem bytes_app (a b : ByteArray) : a ++ b = ⟨(a.data.toList ++ b.data.toList).toArray⟩ := by
  apply ByteArray.ext
  simp
/-- The document's tokens, from a place of a block on. -/
def RowO (W : World) (g o : Nat) (l : List Item) : Prop := g < W.heap.size ∧ ∀ k (h : k < l.length), W.cell? ⟨g, o + k * 4, none⟩ = some (.int .i64 (l[k]'h).1) ∧ W.cell? ⟨g, o + k * 4 + 1, none⟩ = some (.string (l[k]'h).2.1) ∧ W.cell? ⟨g, o + k * 4 + 2, none⟩ = some (.int .i64 (l[k]'h).2.2.1) ∧ W.cell? ⟨g, o + k * 4 + 3, none⟩ = some (.int .i64 (l[k]'h).2.2.2.1)
theorem RowO.later {W w : World} {g o : Nat} {l : List Item} (h : RowO W g o l) (hb : Below W.heap.size W w) : RowO w g o l := ⟨Nat.lt_of_lt_of_le h.1 hb.size, fun k hk => ⟨(hb.cell (p := ⟨g, _, none⟩) h.1).trans (h.2 k hk).1, (hb.cell (p := ⟨g, _, none⟩) h.1).trans (h.2 k hk).2.1, (hb.cell (p := ⟨g, _, none⟩) h.1).trans (h.2 k hk).2.2.1, (hb.cell (p := ⟨g, _, none⟩) h.1).trans (h.2 k hk).2.2.2⟩⟩
set_option maxRecDepth 100000 in
set_option maxHeartbeats 2000000 in
theorem xjoin_some (g o cap : Nat) (L : List Item) (w : World) (hr : RowO w g o L) (hL : L.length ≤ 1000000000000) (hsum : sumL L ≤ 140737488355328) : Calls Tryd.prog 20 #[.slice (some ⟨g, o, none⟩) L.length cap] w fun e w' => e = .returned (.string (joinB L)) ∧ w' = w := by
  have HR := hideR hr
  have JT := hideR (joinL_take L)
  have TT := hideR (texts_take L)
  have JN := hideR (fun k => join_nil_of (L.take k))
  clear hr
  have LB : (L.length : Int) ≤ 1000000000000 := by omega
  go_enter Tryd.func20, Tryd.ntmps20
  go_wp2_with fail
  go_loopw [3, 4, 5] (fun t f i wr => ∃ k : Nat, k ≤ L.length ∧ t = .string ⟨(joinL (L.take k)).toArray⟩ ∧ f = .bool (textsL (L.take k)).isEmpty ∧ i = .int .i64 k ∧ wr = w) (fun _ _ i _ => L.length - (intOf i).toNat)
  case atStart => exact ⟨0, Nat.zero_le _, rfl, rfl, rfl, rfl⟩
  case round =>
    obtain ⟨k, hk, rfl, rfl, rfl, rfl⟩ := hrel
    by_cases ck : k < L.length
    · have k0 : (0 : Int) ≤ (k : Int) := by omega
      have k1 : (k : Int) < (L.length : Int) := by omega
      obtain ⟨c0, c1, c2, c3⟩ := HR.out.2 k ck
      have jt := hideR (JT.out k ck)
      have tt := hideR (TT.out k ck)
      have jn := hideR (JN.out k)
      have ky := hideR (fun h g => keeps_yes (L[k]'ck) h g)
      have kn1 := hideR (fun h => keeps_no1 (L[k]'ck) h)
      have kn2 := hideR (fun h => keeps_no2 (L[k]'ck) h)
      clear JT TT
      generalize keeps (L[k]'ck) = kp at *
      generalize L[k]'ck = x at *
      obtain ⟨x0, x1, x2, x3, x4⟩ := x
      simp only at c0 c1 c2 c3 jt tt ky kn1 kn2
      by_cases p : (x0 == 0) = true
      · have j2 : Hid (joinL (L.take (k + 1)) = joinL (L.take k)) := by show _ = _; rw [jt.out, kn1.out (by simpa using p)]; rfl
        have t2 : Hid (textsL (L.take (k + 1)) = textsL (L.take k)) := by show _ = _; rw [tt.out, kn1.out (by simpa using p)]; rfl
        obtain rfl : x0 = 0 := by simpa using p
        clear jt tt ky kn1 kn2 p jn
        go_wp2_with fail
        go_roundw
        case rel => exact ⟨k + 1, by omega, by rw [j2.out], by rw [t2.out], by go_num, by first | rfl | trivial⟩
        case measure => simp [intOf]; omega
      · have p' : (x0 == 0) = false := by simpa using p
        by_cases q : x1.toList.isEmpty = true
        · have j2 : Hid (joinL (L.take (k + 1)) = joinL (L.take k)) := by show _ = _; rw [jt.out, kn2.out q]; rfl
          have t2 : Hid (textsL (L.take (k + 1)) = textsL (L.take k)) := by show _ = _; rw [tt.out, kn2.out q]; rfl
          clear jt tt ky kn1 kn2 p jn
          go_wp2_with fail
          go_roundw
          case rel => exact ⟨k + 1, by omega, by rw [j2.out], by rw [t2.out], by go_num, by first | rfl | trivial⟩
          case measure => simp [intOf]; omega
        · have q' : x1.toList.isEmpty = false := by simpa using q
          have t2 : Hid ((textsL (L.take (k + 1))).isEmpty = false) := by show _ = _; rw [tt.out, ky.out p' q', if_pos rfl]; simp
          cases f : (textsL (L.take k)).isEmpty
          · have j2 : Hid (joinL (L.take (k + 1)) = joinL (L.take k) ++ [32] ++ x1.data.toList) := by
              show _ = _
              rw [jt.out, ky.out p' q', if_pos rfl, if_neg (by intro h; rw [h] at f; cases f)]
            clear jt tt ky kn1 kn2 p jn q
            have lim : (joinL (L.take (k + 1))).length ≤ 140737488355328 := Nat.le_trans (Nat.le_trans (join_bound _) (sum_take L (k + 1))) hsum
            rw [j2.out] at lim
            simp only [List.length_append, List.length_cons, List.length_nil, len_of] at lim
            generalize joinL (L.take k) = jl at *
            have b1 : ¬ 9223372036854775807 < jl.length + 1 := by omega
            have b2 : ¬ 9223372036854775807 < jl.length + 1 + x1.size := by omega
            clear lim
            go_wp2_with fail
            go_roundw
            case rel => exact ⟨k + 1, by omega, by rw [j2.out, bytes_app, bytes_app], by rw [t2.out], by go_num, by first | rfl | trivial⟩
            case measure => simp [intOf]; omega
          · have e0 : textsL (L.take k) = [] := by simpa using f
            have j2 : Hid (joinL (L.take (k + 1)) = x1.data.toList) := by
              show _ = _
              rw [jt.out, ky.out p' q', if_pos rfl, if_pos e0]
            have j0 := jn.out e0
            rw [j0]
            have lim : (joinL (L.take (k + 1))).length ≤ 140737488355328 := Nat.le_trans (Nat.le_trans (join_bound _) (sum_take L (k + 1))) hsum
            rw [j2.out, len_of] at lim
            have b1 : ¬ 9223372036854775807 < x1.size := by omega
            clear jt tt ky kn1 kn2 p jn q e0 j0 lim
            go_wp2_with fail
            go_roundw
            case rel => exact ⟨k + 1, by omega, by rw [j2.out]; first | rfl | (congr 1; apply ByteArray.ext; simp), by rw [t2.out], by go_num, by first | rfl | trivial⟩
            case measure => simp [intOf]; omega
    · obtain rfl : k = L.length := by omega
      have k1 : ¬ (L.length : Int) < (L.length : Int) := by omega
      have E : Hid (joinL (L.take L.length) = joinL L) := by show _ = _; rw [List.take_length]
      clear JT TT JN HR
      go_wp2_with fail
      go_ret
      exact ⟨rfl, rfl⟩
set_option maxRecDepth 100000 in
theorem xjoin_none (ad : Option Addr) (cap : Nat) (w : World) : Calls Tryd.prog 20 #[.slice ad 0 cap] w fun e w' => e = .returned (.string ⟨#[]⟩) ∧ w' = w := by
  go_enter Tryd.func20, Tryd.ntmps20
  go_wp2_with fail
  go_loopw [3, 4, 5] (fun t f i wr => t = .string ⟨#[]⟩ ∧ i = .int .i64 0 ∧ wr = w) (fun _ _ _ _ => 0)
  case atStart => exact ⟨rfl, rfl, rfl⟩
  case round =>
    obtain ⟨rfl, rfl, rfl⟩ := hrel
    go_wp2_with fail
    go_ret
    exact ⟨rfl, rfl⟩
end Go.Proofs.YtabjadbpllhgkaaDoor
