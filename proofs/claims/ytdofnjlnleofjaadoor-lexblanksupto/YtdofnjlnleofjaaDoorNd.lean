/-
  The statement on blanks and remarks: its walk.
-/
import Derived.Test.YtdofnjlnleofjaaDoorNc
namespace Go.Proofs.YtdofnjlnleofjaaDoor
open Go.RowKit
set_option linter.unusedVariables false
/-- A text without its line feeds. -/
def noFeed (l : List UInt8) : List UInt8 := l.filter fun c => !((c.toNat : Int) == 10)
theorem noFeed_take (s : ByteArray) (k : Nat) (h : k < s.size) : noFeed (s.data.toList.take (k + 1)) = if ((s[k].toNat : Int) == 10) = true then noFeed (s.data.toList.take k) else noFeed (s.data.toList.take k) ++ [s[k]] := by
  have e : s.data.toList.take (k + 1) = s.data.toList.take k ++ [s[k]] := by
    rw [List.take_succ_eq_append_getElem (by simpa using h)]
    rfl
  rw [e]
  unfold noFeed
  rw [List.filter_append]
  split
  · rename_i q
    have : List.filter (fun c : UInt8 => !((c.toNat : Int) == 10)) [s[k]] = [] := by
      rw [List.filter_cons, q]
      rfl
    rw [this, List.append_nil]
  · rename_i q
    have q' : ((s[k].toNat : Int) == 10) = false := by simpa using q
    have : List.filter (fun c : UInt8 => !((c.toNat : Int) == 10)) [s[k]] = [s[k]] := by
      rw [List.filter_cons, q']
      rfl
    rw [this]
theorem noFeed_ok (l : List UInt8) : ∀ c ∈ noFeed l, ¬ c = 10 := fun c hc e => by
  have := (List.mem_filter.1 hc).2
  subst e
  simp at this
theorem noFeed_len (l : List UInt8) : (noFeed l).length ≤ l.length := List.length_filter_le _ _
theorem app_list (a b : ByteArray) : (a ++ b).data.toList = a.data.toList ++ b.data.toList := by simp
/-- The new text, as it is put together. -/
def moreB (s : ByteArray) (m : Nat) (r : List UInt8) : ByteArray := s.extract 0 m ++ ⟨#[32, 35]⟩ ++ ⟨r.toArray⟩ ++ ⟨#[10, 9]⟩ ++ s.extract m s.size
theorem moreB_list (s : ByteArray) (m : Nat) (r : List UInt8) : (moreB s m r).data.toList = moreT s.data.toList m r := by
  unfold moreB moreT moreL
  rw [app_list, app_list, app_list, app_list, take_list, drop_list]
  simp
theorem moreB_size (s : ByteArray) (m : Nat) (r : List UInt8) (hm : m ≤ s.size) : (moreB s m r).size = s.size + (moreL r).length := by
  rw [← len_of, moreB_list]
  unfold moreT
  rw [List.length_append, List.length_append, List.length_take, List.length_drop, len_of]
  omega
/-- What becomes of the tokens. -/
theorem more_all (s : ByteArray) (L M : List Item) (hL : L = itemsL s) (r : List UInt8) (hr : ∀ c ∈ r, ¬ c = 10) (q : ∀ x ∈ L, x.2.2.2.2 = 0) (i m : Nat) (h : i < L.length) (e : (L[i]'h).2.2.2.1 = (m : Int)) (hm : m ≤ s.size) (hM : M = itemsL (moreB s m r)) :
    (∀ x ∈ M, x.2.2.2.2 = 0) ∧ M.length = L.length ∧ ∀ k (h : k < L.length) (h' : k < M.length), (M[k]'h').1 = (L[k]'h).1 ∧ (M[k]'h').2.1 = (L[k]'h).2.1 ∧ (k < i → (M[k]'h').2.2.2.1 = (L[k]'h).2.2.2.1) := by
  have f : M = L.take i ++ (L.drop i).map (shiftI (moreL r).length) := by
    rw [hM]
    have z := moreB_size s m r hm
    have := items_more s (moreB s m r) m r hm hr (moreB_list s m r) z i (s.size + 1) ((moreB s m r).size + 1) 0 (Nat.zero_le _) (by omega) (by omega) (fun x hx => q x (by rw [hL]; exact hx)) (by rw [hL] at h; exact h) (by subst hL; exact e)
    rw [hL]
    exact this
  clear hM hL
  subst f
  refine ⟨fun x hx => ?_, ?_, fun k hk hk' => ?_⟩
  · rcases List.mem_append.1 hx with hx | hx
    · exact q x (List.mem_of_mem_take hx)
    · obtain ⟨y, hy, rfl⟩ := List.mem_map.1 hx
      exact q y (List.mem_of_mem_drop hy)
  · rw [List.length_append, List.length_map, List.length_take, List.length_drop]
    omega
  · obtain ⟨y, h1, h2, h3, h4⟩ := shift_at (moreL r).length L i k hk
    rw [List.getElem?_eq_getElem hk'] at h1
    injection h1 with h1
    rw [h1]
    exact ⟨h2, h3, h4⟩
theorem item_place (s : ByteArray) : ∀ (f a : Nat) (x : Item), a ≤ s.size → x ∈ itemsG s f a → ∃ m : Nat, x.2.2.2.1 = (m : Int) ∧ m ≤ s.size
  | 0, a, x, _, h => by rw [itemsG] at h; cases h
  | f + 1, a, x, ha, h => by
    obtain ⟨b0, b1⟩ := beg_le s.data.toList a (by rw [len_of]; exact ha)
    have tl := tok_len s.data.toList a (by rw [len_of]; exact ha)
    rw [len_of] at b1 tl
    rw [itemsG] at h
    split at h
    · rcases List.mem_cons.1 h with rfl | h
      · exact ⟨_, rfl, b1⟩
      · split at h
        · cases h
        · exact item_place s f _ x tl h
    · rw [List.mem_singleton.1 h]
      exact ⟨_, rfl, b1⟩
theorem add_one (nk : List UInt8) (rm : ByteArray) (k : Nat) (c : UInt8) (h : (rm.extract k (k + 1)).data.toList = [c]) : (⟨nk.toArray⟩ : ByteArray) ++ rm.extract k (k + 1) = ⟨(nk ++ [c]).toArray⟩ := by
  apply ByteArray.ext
  apply Array.toList_inj.1
  rw [app_list, h]
namespace lexBlanks
set_option maxRecDepth 100000 in
set_option maxHeartbeats 2000000 in
theorem walk (s : ByteArray) (_ : s.size ≤ maxLen) (n : Int) (wf : (Lit.int .i64 n).wf = true) (rm : ByteArray) (_ : rm.size ≤ maxLen) (w : World) (hk : Kept w) (hs0 : s.size ≤ 140737488355328) (hs : s.size ≤ 1048576) (hm0 : rm.size ≤ 140737488355328) (hm : rm.size ≤ 1048576) :
    Calls Tryd.prog 3 #[.string s, .int .i64 n, .string rm] w fun e w' => e = .returned (.bool true) ∧ Below w.heap.size w w' := by
  have HK := hideR hk
  clear hk
  by_cases q : ¬ ∀ x ∈ itemsL s, x.2.2.2.2 = 0
  · obtain ⟨e, a, he, hA⟩ := all_bad s (by omega) q
    have N1 := hideR hA
    have he' : (e == 0) = false := by simpa using he
    clear hA q
    go_enter Tryd.func3, Tryd.ntmps3
    go_wp2_with fail
    refine (N1.out _).mono ?_
    rintro e1 w1 ⟨rfl, hb1⟩
    have HK2 := hideR (kept_later HK.out hb1)
    go_wp2_with fail
    refine (live_any _ HK2.out).mono ?_
    rintro e3 w3 ⟨rfl, hb3⟩
    have hb := beyond hb1 hb3
    clear hb1 hb3 HK HK2
    go_wp2_with fail
    go_ret
    exact ⟨rfl, hb⟩
  · have q := Classical.not_not.1 q
    have N1 := hideR (all_good s (by omega) q w)
    have LN := items_count s (s.size + 1) 0
    change (itemsL s).length ≤ s.size + 1 at LN
    have LP : 0 < (itemsL s).length := by obtain ⟨k, hk⟩ := items_some s; omega
    have MA := hideR (fun (L M : List Item) hL r hr q i m h e hm hM => more_all s L M hL r hr q i m h e hm hM)
    have QQ := hideR q
    have ELx := hideR (Eq.refl (itemsL s))
    have IP := hideR (fun x h => item_place s (s.size + 1) 0 x (Nat.zero_le _) h)
    change Hid (∀ x, x ∈ itemsL s → _) at IP
    have NF := hideR (fun k h => noFeed_take rm k h)
    clear q
    obtain ⟨L, hL⟩ : ∃ L, L = itemsL s := ⟨_, rfl⟩
    rw [← hL] at N1 LN LP QQ IP
    have EL := hideR hL
    clear hL ELx
    have LB : (L.length : Int) ≤ 1048577 := by omega
    have LP2 : (0 : Int) < (L.length : Int) := by omega
    have LP3 : ((L.length : Int) == 0) = false := by rw [beq_eq_false_iff_ne]; omega
    go_enter Tryd.func3, Tryd.ntmps3
    go_wp2_with fail
    refine N1.out.mono ?_
    rintro e1 w1 ⟨g, cap, rfl, R1, hb1⟩
    have RL := hideR R1
    have HB := hideR hb1
    clear R1 hb1 N1
    go_wp2_with fail
    obtain ⟨i, hi, ei⟩ : ∃ i : Nat, i < L.length ∧ wrap64 ((IntKind.u64.wrap n).tmod (L.length : Int)) = (i : Int) := by
      have u0 : 0 ≤ IntKind.u64.wrap n := by simp only [IntKind.wrap_u64]; omega
      have t0 := Int.tmod_nonneg (L.length : Int) u0
      have t1 := Int.tmod_lt_of_pos (IntKind.u64.wrap n) LP2
      refine ⟨((IntKind.u64.wrap n).tmod (L.length : Int)).toNat, by omega, ?_⟩
      simp only [wrap64]
      omega
    rw [ei]
    clear ei
    generalize (IntKind.u64.wrap n).tmod (L.length : Int) = tm
    generalize IntKind.u64.wrap n = un
    go_loopw [11, 12] (fun r j wr => ∃ k : Nat, k ≤ rm.size ∧ r = .string ⟨(noFeed (rm.data.toList.take k)).toArray⟩ ∧ j = .int .i64 k ∧ wr = w1) (fun _ j _ => rm.size - (intOf j).toNat)
    case atStart => exact ⟨0, Nat.zero_le _, rfl, rfl, rfl⟩
    case round =>
      obtain ⟨k, hk, rfl, rfl, rfl⟩ := hrel
      by_cases ck : k < rm.size
      · have k0 : (0 : Int) ≤ (k : Int) := by omega
        have k1 : (k : Int) < (rm.size : Int) := by omega
        have k2 : (k : Int) ≤ (k : Int) + 1 := by omega
        have k3 : (k : Int) + 1 ≤ (rm.size : Int) := by omega
        have nf := hideR (NF.out k ck)
        have nl := noFeed_len (rm.data.toList.take k)
        rw [List.length_take, len_of] at nl
        have ex := hideR (ext_one rm k ck)
        clear NF MA QQ IP RL HB HK EL
        generalize noFeed (rm.data.toList.take k) = nk at *
        by_cases z : ((rm[k].toNat : Int) == 10) = true
        · have n2 : Hid (noFeed (rm.data.toList.take (k + 1)) = nk) := by show _ = _; rw [nf.out, if_pos z]
          have z2 : ((rm[k].toNat : Int) != 10) = false := by simpa using z
          clear nf
          go_wp2_with fail
          go_roundw
          case rel => exact ⟨k + 1, by omega, by rw [n2.out], by go_num, by first | rfl | trivial⟩
          case measure => simp [intOf]; omega
        · have n2 : Hid (noFeed (rm.data.toList.take (k + 1)) = nk ++ [rm[k]]) := by show _ = _; rw [nf.out, if_neg z]
          have z2 : ((rm[k].toNat : Int) != 10) = true := by simpa using z
          have sz : (rm.extract k (k + 1)).size = 1 := by simp; omega
          have b1 : ¬ 9223372036854775807 < nk.length + 1 := by omega
          clear nf z
          go_wp2_with fail
          go_roundw
          case rel => exact ⟨k + 1, by omega, by rw [n2.out, add_one nk rm k rm[k] ex.out], by go_num, by first | rfl | trivial⟩
          case measure => simp [intOf]; omega
      · obtain rfl : k = rm.size := by omega
        have k1 : ¬ (rm.size : Int) < (rm.size : Int) := by omega
        have rr : Hid (∀ c ∈ noFeed (rm.data.toList.take rm.size), ¬ c = 10) := noFeed_ok _
        have nl := noFeed_len (rm.data.toList.take rm.size)
        rw [List.length_take, len_of] at nl
        clear NF
        generalize noFeed (rm.data.toList.take rm.size) = nk at *
        obtain ⟨m, hm1, hm2⟩ := IP.out (L[i]'hi) (List.getElem_mem _)
        obtain ⟨-, -, -, c3⟩ := RL.out.2 i hi
        rw [hm1] at c3
        have MM := hideR (fun M hM => MA.out L M EL.out nk rr.out QQ.out i m hi hm1 hm2 hM)
        have bz := moreB_size s m nk hm2
        rw [more_len] at bz
        have j0 : (0 : Int) ≤ (i : Int) := by omega
        have j1 : (i : Int) < (L.length : Int) := by omega
        have q0 : (0 : Int) ≤ (m : Int) := by omega
        have q1 : (m : Int) ≤ (s.size : Int) := by omega
        clear MA IP QQ EL hm1 LP
        go_upto_region 14 with (fail)
        have ez0 : (s.extract 0 m).size = m := by simp; omega
        have ez1 : (s.extract m s.size).size = s.size - m := by simp
        obtain ⟨M, hM⟩ : ∃ M, M = itemsL (moreB s m nk) := ⟨_, rfl⟩
        obtain ⟨w0, w1', w2⟩ := MM.out M hM
        have AG := hideR (fun w => all_good (moreB s m nk) (by omega) (by rw [← hM]; exact w0) w)
        rw [← hM, w1'] at AG
        have EA := hideR w2
        have LE := hideR w1'
        clear MM w0 w1' w2 hM
        unfold moreB at AG
        clear bz c3 rr hm2
        go_region_with (go_at_call 4; refine (AG.out _).mono ?_; rintro e4 w4 ⟨g2, cap2, rfl, RM, hb4⟩)
        all_goals go_wp2_with fail
        have hb5 : Below wr.heap.size wr w4 := ⟨hb4.os, hb4.tape, hb4.output, hb4.size, hb4.block⟩
        have RL4 := hideR (RL.out.later hb5)
        have RM4 := hideR RM
        have HB4 := hideR (beyond HB.out hb5)
        clear hb4 hb5 RM RL HB AG
        go_loopw [17] (fun j wx => ∃ k : Nat, k ≤ L.length ∧ j = .int .i64 k ∧ Hid (RowL wx g L ∧ RowL wx g2 M ∧ Below w.heap.size w wx)) (fun j _ => L.length - (intOf j).toNat)
        case atStart => exact ⟨0, Nat.zero_le _, rfl, RL4.out, RM4.out, HB4.out⟩
        case round =>
          obtain ⟨k, hk, rfl, I⟩ := hrel
          clear RL4 RM4 HB4
          by_cases ck : k < L.length
          · have k0 : (0 : Int) ≤ (k : Int) := by omega
            have k1 : (k : Int) < (L.length : Int) := by omega
            have ck2 : k < M.length := by rw [LE.out]; exact ck
            obtain ⟨c0, c1, -, c3⟩ := I.out.1.2 k ck
            obtain ⟨d0, d1, -, d3⟩ := I.out.2.1.2 k ck2
            obtain ⟨m0, m1, m2⟩ := EA.out k ck ck2
            rw [m0] at d0
            rw [m1] at d1
            by_cases z : k < i
            · rw [m2 z] at d3
              have z' : (k : Int) < (i : Int) := by omega
              clear m0 m1 m2 EA
              generalize L[k]'ck = x at *
              obtain ⟨x0, x1, x2, x3, x4⟩ := x
              simp only at c0 c1 c3 d0 d1 d3
              clear ck2 LE
              go_wp2_with fail
              go_quiet (fail)
              go_wp2_with fail
              go_roundw
              case rel => exact ⟨k + 1, by omega, by go_num, I.out.1.later (below_drewN (Below.refl _ _) _), I.out.2.1.later (below_drewN (Below.refl _ _) _), below_drewN I.out.2.2 _⟩
              case measure => simp [intOf]; omega
            · have z' : decide ((k : Int) < (i : Int)) = false := by simp; omega
              clear m0 m1 m2 EA d3
              generalize L[k]'ck = x at *
              obtain ⟨x0, x1, x2, x3, x4⟩ := x
              simp only at c0 c1 c3 d0 d1
              clear ck2 LE c3
              go_wp2_with fail
              go_quiet (fail)
              go_wp2_with fail
              go_roundw
              case rel => exact ⟨k + 1, by omega, by go_num, I.out.1.later (below_drewN (Below.refl _ _) _), I.out.2.1.later (below_drewN (Below.refl _ _) _), below_drewN I.out.2.2 _⟩
              case measure => simp [intOf]; omega
          · obtain rfl : k = L.length := by omega
            have k1 : ¬ (L.length : Int) < (L.length : Int) := by omega
            have HK2 := hideR (kept_later HK.out I.out.2.2)
            have HB := hideR I.out.2.2
            clear I EA
            go_wp2_with fail
            refine (live_any _ HK2.out).mono ?_
            rintro e3 w3 ⟨rfl, hb3⟩
            have hb := beyond HB.out hb3
            clear hb3
            go_wp2_with fail
            go_ret
            exact ⟨rfl, hb⟩
end lexBlanks
end Go.Proofs.YtdofnjlnleofjaaDoor
