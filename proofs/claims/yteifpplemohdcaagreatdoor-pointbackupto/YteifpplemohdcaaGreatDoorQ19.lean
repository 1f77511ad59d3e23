/-
  rat.Print of every fraction.
-/
import Derived.Test.YteifpplemohdcaaGreatDoorQ9
import Derived.Test.YteifpplemohdcaaGreatDoorSb
import Derived.Lib.AtoiErrMem
namespace Go.Proofs.YteifpplemohdcaaGreatDoor
open Go.RowKit Go.Shelf
set_option linter.unusedVariables false
theorem rprint_wrong (n d : Int) (w : World) (HR : Hid (AskR n d false)) :
    Calls Tryz.prog 21 #[rv n d] w fun e w' => e = .returned (.string ⟨#[]⟩) ∧ Below w.heap.size w w' := by
  go_enter Tryz.func21, Tryz.ntmps21
  go_wp2_with fail
  refine (HR.out _).mono ?_
  rintro e w1 ⟨rfl, hb⟩
  have hB1 := beyond (single w _) hb
  clear hb
  go_wp2_with fail
  go_ret
  exact ⟨rfl, hB1⟩
theorem rprint_one (n : Int) (a : List UInt8) (w : World) (ht : Pow w) (HR : Hid (AskR n 1 true))
    (HA : Hid (∀ w, Pow w → Calls Tryz.prog 56 #[.int .i64 n, .int .i64 10] w fun e w' => e = .returned (.string ⟨a.toArray⟩) ∧ Below w.heap.size w w')) :
    Calls Tryz.prog 21 #[rv n 1] w fun e w' => e = .returned (.string ⟨a.toArray⟩) ∧ Below w.heap.size w w' := by
  go_enter Tryz.func21, Tryz.ntmps21
  go_wp2_with fail
  refine (HR.out _).mono ?_
  rintro e w1 ⟨rfl, hb⟩
  have s0 := kc ⟨w.heap.size, 0, none⟩ (.int .i64 n) hb (by first | assumption | simp [go_sem, *])
  have s1 := kc ⟨w.heap.size, 1, none⟩ (.int .i64 1) hb (by first | assumption | simp [go_sem, *])
  have hB1 := beyond (single w _) hb
  clear hb
  go_wp2_with fail
  refine (HA.out _ (pow_later ht hB1)).mono ?_
  rintro e w2 ⟨rfl, hb⟩
  have u0 := kc _ _ hb s0
  have u1 := kc _ _ hb s1
  have hB2 := beyond hB1 hb
  clear hb s0 s1
  go_wp2_with fail
  go_ret
  exact ⟨rfl, hB2⟩
theorem rprint_raw21 (n d : Int) (a b : List UInt8) (w : World) (hd : ¬ d = 1) (la : a.length ≤ 21) (lb : b.length ≤ 21) (ht : Pow w) (HR : Hid (AskR n d true))
    (HA : Hid (∀ w, Pow w → Calls Tryz.prog 56 #[.int .i64 n, .int .i64 10] w fun e w' => e = .returned (.string ⟨a.toArray⟩) ∧ Below w.heap.size w w'))
    (HB : Hid (∀ w, Pow w → Calls Tryz.prog 56 #[.int .i64 d, .int .i64 10] w fun e w' => e = .returned (.string ⟨b.toArray⟩) ∧ Below w.heap.size w w')) :
    Calls Tryz.prog 21 #[rv n d] w fun e w' => e = .returned (.string ⟨(a ++ [47] ++ b).toArray⟩) ∧ Below w.heap.size w w' := by
  go_enter Tryz.func21, Tryz.ntmps21
  go_wp2_with fail
  refine (HR.out _).mono ?_
  rintro e w1 ⟨rfl, hb⟩
  have s0 := kc ⟨w.heap.size, 0, none⟩ (.int .i64 n) hb (by first | assumption | simp [go_sem, *])
  have s1 := kc ⟨w.heap.size, 1, none⟩ (.int .i64 d) hb (by first | assumption | simp [go_sem, *])
  have hB1 := beyond (single w _) hb
  clear hb
  go_wp2_with fail
  refine (HA.out _ (pow_later ht hB1)).mono ?_
  rintro e w2 ⟨rfl, hb⟩
  have u0 := kc _ _ hb s0
  have u1 := kc _ _ hb s1
  have hB2 := beyond hB1 hb
  clear hb s0 s1
  go_wp2_with fail
  refine (HB.out _ (pow_later ht hB2)).mono ?_
  rintro e w3 ⟨rfl, hb⟩
  have hB3 := beyond hB2 hb
  clear hb
  go_wp2
  go_ret
  refine ⟨ret_str ?_, hB3⟩
  apply ByteArray.ext
  simp [ByteArray.data_append]
theorem rprintT (n d : Int) (w : World) (hn : I64 n) (hd : I64 d) (ht : Pow w) :
    Calls Tryz.prog 21 #[rv n d] w fun e w' => e = .returned (.string ⟨(printR n d).toArray⟩) ∧ Below w.heap.size w w' := by
  have k := askR n d hn hd
  cases r : rightR n d
  · rw [r] at k
    have e : printR n d = [] := by simp [printR, r]
    rw [e]
    exact rprint_wrong n d w k
  · rw [r] at k
    by_cases c : d = 1
    · subst c
      have e : printR n 1 = Lib.itoa n := by simp [printR, r]
      rw [e]
      exact rprint_one n _ w ht k (fun w h => format_any n w hn h)
    · have e : printR n d = Lib.itoa n ++ [47] ++ Lib.itoa d := by simp [printR, r, c]
      rw [e]
      exact rprint_raw21 n d _ _ w c (Lib.itoa_length_le n hn.1 hn.2) (Lib.itoa_length_le d hd.1 hd.2) ht k (fun w h => format_any n w hn h) (fun w h => format_any d w hd h)
end Go.Proofs.YteifpplemohdcaaGreatDoor

/-
  decimal.Read of every text.
-/
namespace Go.Proofs.YteifpplemohdcaaGreatDoor
open Go.RowKit Go.Shelf
set_option linter.unusedVariables false
/-! ### What the library's variables hold -/
abbrev Errs (w : World) : Prop := (∃ tp p, w.var? Tryz.prog "strconv.ErrSyntax" = some #[.iface tp p]) ∧ (∃ tp p, w.var? Tryz.prog "strconv.ErrRange" = some #[.iface tp p])
theorem var_later {w w' : World} (hb : Below w.heap.size w w') {n : String} {g : Nat} {cs : Array Value} (hg : Tryz.prog.globalNamed n = some g) (hv : w.var? Tryz.prog n = some cs) : w'.var? Tryz.prog n = some cs := by
  refine var?_below hb hg ?_ hv
  unfold World.var? at hv
  simp only [hg, Option.bind_some] at hv
  cases h : w.heap[g]? with
  | none => rw [h] at hv; cases hv
  | some o => exact (Array.getElem?_eq_some_iff.1 h).1
theorem gSyn : Tryz.prog.globalNamed "strconv.ErrSyntax" = some 4 := by kernel_rfl
theorem gRan : Tryz.prog.globalNamed "strconv.ErrRange" = some 5 := by kernel_rfl
theorem errs_later {w w' : World} (h : Errs w) (hb : Below w.heap.size w w') : Errs w' := by
  obtain ⟨⟨t1, p1, h1⟩, t2, p2, h2⟩ := h
  exact ⟨⟨t1, p1, var_later hb gSyn h1⟩, t2, p2, var_later hb gRan h2⟩

theorem hide1 {p : Prop} (h : p) : Hid p := h
/-! ### decimal.Read -/
set_option maxHeartbeats 1000000 in
theorem read_any (s : ByteArray) (w : World) (hlim : s.size ≤ 140737488355328) (ht : Pow w) (he : Errs w) :
    Calls Tryz.prog 29 #[.string s] w fun e w' => e = .returned (.tuple #[.int .i64 (readN s.data.toList), .bool (readS s.data.toList)]) ∧ Below w.heap.size w w' := by
  cases h : Lib.parseIntB 64 s.data.toList
  · next v =>
    have hb := Lib.parseIntB_bounds h
    have v0 : -9223372036854775808 ≤ v := by have := hb.1; simp at this; omega
    have v1 : v ≤ 9223372036854775807 := by have := hb.2; simp at this; omega
    have H : Hid (Lib.parseIntB 64 s.data.toList = .ok v) := h
    clear h hb
    by_cases e : Lib.itoa v = s.data.toList
    · have r : readV s.data.toList = some v := by rw [← e]; exact readV_itoa v v0 v1
      have e1 : readN s.data.toList = v := by unfold readN; rw [r]; rfl
      have e2 : readS s.data.toList = true := by unfold readS; rw [r]; rfl
      rw [e1, e2]
      have E : Hid ((⟨(Lib.itoa v).toArray⟩ : ByteArray) = s) := by show (⟨(Lib.itoa v).toArray⟩ : ByteArray) = s; rw [e]
      clear e e1 e2 r
      go_enter Tryz.func29, Tryz.ntmps29
      go_wp2_with fail
      refine (Any.strconv_ParseInt_10_at64_ok Go.Proofs.Tryz.laysC174 s (by omega) v H.out w).mono ?_
      rintro e w1 ⟨rfl, hw⟩
      have h1 : Below w.heap.size w w1 := by
        rcases hw with rfl | ⟨t, rfl⟩
        · exact Below.refl _ _
        · exact Lib.bytesWorld_below _ _ _
      clear hw
      go_wp2_with fail
      refine (Go.Proofs.Tryz.strconv_FormatInt_10 v v0 v1 _ (pow_later ht h1)).mono ?_
      rintro e w2 ⟨rfl, k, os, rfl⟩
      rw [E.out]
      have h2 := beyond h1 (Lib.below_grow _ _ (Nat.le_refl _) k os)
      go_wp2
      go_ret2
      exact ⟨rfl, h2⟩
    · have r : readV s.data.toList = none := by
        unfold readV
        rw [H.out]
        simp only [if_neg e]
      have e1 : readN s.data.toList = 0 := by unfold readN; rw [r]; rfl
      have e2 : readS s.data.toList = false := by unfold readS; rw [r]; rfl
      rw [e1, e2]
      have E : Hid (Lib.itoa v ≠ s.data.toList) := e
      clear e e1 e2 r
      go_enter Tryz.func29, Tryz.ntmps29
      go_wp2_with fail
      refine (Any.strconv_ParseInt_10_at64_ok Go.Proofs.Tryz.laysC174 s (by omega) v H.out w).mono ?_
      rintro e w1 ⟨rfl, hw⟩
      have h1 : Below w.heap.size w w1 := by
        rcases hw with rfl | ⟨t, rfl⟩
        · exact Below.refl _ _
        · exact Lib.bytesWorld_below _ _ _
      clear hw
      go_wp2_with fail
      refine (Go.Proofs.Tryz.strconv_FormatInt_10 v v0 v1 _ (pow_later ht h1)).mono ?_
      rintro e w2 ⟨rfl, k, os, rfl⟩
      have h2 := beyond h1 (Lib.below_grow _ _ (Nat.le_refl _) k os)
      generalize hz : (⟨(Lib.itoa v).toArray⟩ : ByteArray) = z
      have hne : (z.toList == s.toList) = false := by
        have : z.toList ≠ s.toList := by
          rw [ByteArray.toList_eq, ByteArray.toList_eq, ← hz]
          exact E.out
        simpa using this
      clear hz
      go_wp2
      go_ret2
      exact ⟨rfl, h2⟩
  · have r : readV s.data.toList = none := by
      unfold readV
      rw [h]
    have e1 : readN s.data.toList = 0 := by unfold readN; rw [r]; rfl
    have e2 : readS s.data.toList = false := by unfold readS; rw [r]; rfl
    rw [e1, e2]
    have c := fun tp p hv => Any.strconv_ParseInt_10_at64_syntax_var Go.Proofs.Tryz.laysC174 s (by omega) h tp p w hv
    have C := hide1 c
    clear e1 e2 r h c
    obtain ⟨⟨tp, p, hv⟩, _⟩ := he
    go_enter Tryz.func29, Tryz.ntmps29
    go_wp2_with fail
    refine (C.out tp p hv).mono ?_
    rintro e w1 ⟨N, rfl, hN, hc, h1⟩
    clear hv C hc hN
    go_wp2
    go_ret2
    exact ⟨rfl, h1⟩
  · have r : readV s.data.toList = none := by
      unfold readV
      rw [h]
    have e1 : readN s.data.toList = 0 := by unfold readN; rw [r]; rfl
    have e2 : readS s.data.toList = false := by unfold readS; rw [r]; rfl
    rw [e1, e2]
    have c := fun tp p hv => Any.strconv_ParseInt_10_at64_range_var Go.Proofs.Tryz.laysC174 s (by omega) h tp p w hv
    have C := hide1 c
    clear e1 e2 r h c
    obtain ⟨_, ⟨tp, p, hv⟩⟩ := he
    go_enter Tryz.func29, Tryz.ntmps29
    go_wp2_with fail
    refine (C.out tp p hv).mono ?_
    rintro e w1 ⟨N, rfl, hN, hc, h1⟩
    clear hv C hc hN
    go_wp2
    go_ret2
    exact ⟨rfl, h1⟩

/-! ### bound.Parse -/
end Go.Proofs.YteifpplemohdcaaGreatDoor
