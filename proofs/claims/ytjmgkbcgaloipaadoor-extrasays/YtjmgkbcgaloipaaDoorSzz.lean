/-
  The walk of the statement ExtraSays.
-/
import Derived.Test.YtjmgkbcgaloipaaDoorSyz
import Derived.Test.YtjmgkbcgaloipaaDoorWtz
import Derived.Deep.RegionWith
namespace Go.Proofs.YtjmgkbcgaloipaaDoor
open Go.RowKit
set_option linter.unusedVariables false
set_option maxRecDepth 100000
theorem UsAt.past {w w' : World} {v : Value} {l : List Int} (h : UsAt w v l) (hb : Below w.heap.size w w') : UsAt w' v l := by
  rcases h with ⟨ad, c, h1, h2⟩ | ⟨b, off, cap, h1, h2⟩
  · exact .inl ⟨ad, c, h1, h2⟩
  · exact .inr ⟨b, off, cap, h1, fun j hj => kc _ _ hb (h2 j hj)⟩
theorem UsAt.form {w : World} {v : Value} {l : List Int} (h : UsAt w v l) : ∃ ad cap, v = .slice ad l.length cap := by
  rcases h with ⟨ad, c, rfl, rfl⟩ | ⟨b, off, cap, rfl, _⟩
  · exact ⟨ad, c, rfl⟩
  · exact ⟨_, cap, rfl⟩
theorem UsAt.at {w : World} {ad : Option Addr} {q cap : Nat} {l : List Int} (h : UsAt w (.slice ad q cap) l) (hl : l.length = q) (k : Nat) (hk : k < q) : ∃ cb off, ad = some ⟨cb, off, none⟩ ∧ w.cell? ⟨cb, off + k, none⟩ = some (.int .u32 (l.getD k 0)) := by
  rcases h with ⟨ad', c', e, e'⟩ | ⟨cb, off, cap', e, hcell⟩
  · subst e'; simp at hl; omega
  · injection e with e1 e2 e3
    exact ⟨cb, off, e1, hcell k (by omega)⟩
/-- What lies in memory while a valuation is asked: its answer so far, the other one, and its numbers. -/
structure Ask (w : World) (gi gv n K : Nat) (t u : Bool) (V : Nat → Int) : Prop where
  mine : w.cell? ⟨gi, K, none⟩ = some (.bool t)
  other : w.cell? ⟨gi, 1 - K, none⟩ = some (.bool u)
  free : ∀ a, w.frozen? ⟨gi, a, none⟩ = false
  vals : ∀ j, j ≤ n → w.cell? ⟨gv, j, none⟩ = some (.int .i64 (V j))
  vfree : ∀ a, w.frozen? ⟨gv, a, none⟩ = false
  apart : gi < gv
theorem Ask.set {w : World} {gi gv n K : Nat} {t u : Bool} {V : Nat → Int} (h : Ask w gi gv n K t u V) (hK : K ≤ 1) (b : Bool) : Ask (w.setCell ⟨gi, K, none⟩ (.bool b)) gi gv n K b u V where
  mine := World.cell?_setCell_same _ _ _ h.mine
  other := by rw [World.cell?_setCell_other _ _ _ _ (by intro e; injection e; omega)]; exact h.other
  free := fun a => by rw [World.frozen?_setCell]; exact h.free a
  vals := fun j hj => by rw [World.cell?_setCell_other _ _ _ _ (by have := h.apart; intro e; injection e; omega)]; exact h.vals j hj
  vfree := fun a => by rw [World.frozen?_setCell]; exact h.vfree a
  apart := h.apart
theorem Ask.drew {w : World} {gi gv n K : Nat} {t u : Bool} {V : Nat → Int} (h : Ask w gi gv n K t u V) : Ask w.drew gi gv n K t u V := ⟨h.mine, h.other, h.free, h.vals, h.vfree, h.apart⟩
theorem Ask.val {w : World} {gi gv n K : Nat} {t u : Bool} {V V' : Nat → Int} {x : Int} {j : Nat} (h : Ask w gi gv n K t u V) (hj : V' j = x) (ho : ∀ i, ¬ i = j → V' i = V i) (hjn : j ≤ n) : Ask (w.setCell ⟨gv, j, none⟩ (.int .i64 x)) gi gv n K t u V' where
  mine := by rw [World.cell?_setCell_other _ _ _ _ (by have := h.apart; intro e; injection e; omega)]; exact h.mine
  other := by rw [World.cell?_setCell_other _ _ _ _ (by have := h.apart; intro e; injection e; omega)]; exact h.other
  free := fun a => by rw [World.frozen?_setCell]; exact h.free a
  vals := fun i hi => by
    by_cases e : i = j
    · subst e; rw [World.cell?_setCell_same _ _ _ (h.vals _ hi), hj]
    · rw [World.cell?_setCell_other _ _ _ _ (by intro e; injection e; omega), ho i e]; exact h.vals i hi
  vfree := fun a => by rw [World.frozen?_setCell]; exact h.vfree a
  apart := h.apart
theorem Ask.congr {w : World} {gi gv n K : Nat} {t u : Bool} {V V' : Nat → Int} (h : Ask w gi gv n K t u V) (hv : ∀ j, j ≤ n → V' j = V j) : Ask w gi gv n K t u V' := ⟨h.mine, h.other, h.free, fun j hj => by rw [hv j hj]; exact h.vals j hj, h.vfree, h.apart⟩
set_option maxHeartbeats 16000000 in
theorem extraSays.walk (n : Int) (hn : (Lit.int .i64 n).wf = true) (v : Value) (l : List Int) (v0 : Value) (l0 : List Int) (v1 : Value) (l1 : List Int) (w : World) (ht : Pow w) (hS : SliceAt w v l) (wf : ∀ z ∈ l, (Lit.int .i32 z).wf = true) (hby : l.length * 4 ≤ 140737488355328) (hnil : ∀ {c}, v = .slice none 0 c → c = 0)
    (hi0 : UsAt w v0 l0) (wf0 : ∀ z ∈ l0, (Lit.int .u32 z).wf = true) (by0 : l0.length * 4 ≤ 140737488355328) (nl0 : v0 = .slice none 0 0 ∨ ∃ a c, v0 = .slice (some a) l0.length c) (hi1 : UsAt w v1 l1) (wf1 : ∀ z ∈ l1, (Lit.int .u32 z).wf = true) (by1 : l1.length * 4 ≤ 140737488355328) (nl1 : v1 = .slice none 0 0 ∨ ∃ a c, v1 = .slice (some a) l1.length c) :
    Calls Tryd.prog 17 #[.int .i64 n, v, .agg #[v0, v1]] w fun e w' => e = .returned (.bool true) ∧ Below w.heap.size w w' := by
  obtain ⟨o, z1, N1, s1⟩ := both5_any n v l w hS (wf_cells wf) (by omega)
  obtain ⟨d0, p0, rfl⟩ := hi0.form
  obtain ⟨d1, p1, rfl⟩ := hi1.form
  have HV : Hid (∀ w', Below w.heap.size w w' → Calls Tryd.prog 63 #[] w' fun e w'' => e = .returned (.bool true) ∧ Below w'.heap.size w' w'') := fun w' hb => elive_any w' (pow_later ht hb)
  have I0 : Hid (∀ w', Below w.heap.size w w' → ∀ k, k < l0.length → ∃ cb off, d0 = some ⟨cb, off, none⟩ ∧ w'.cell? ⟨cb, off + k, none⟩ = some (.int .u32 (l0.getD k 0))) := fun w' hb k hk => (hi0.past hb).at rfl k hk
  have I1 : Hid (∀ w', Below w.heap.size w w' → ∀ k, k < l1.length → ∃ cb off, d1 = some ⟨cb, off, none⟩ ∧ w'.cell? ⟨cb, off + k, none⟩ = some (.int .u32 (l1.getD k 0))) := fun w' hb k hk => (hi1.past hb).at rfl k hk
  have BD := hideD (VK_bd wf0 wf1)
  have M0 := hideD (mem_bd wf0)
  have M1 := hideD (mem_bd wf1)
  have B0 := hideD (below_one w (.cells #[.slice d0 l0.length p0, .slice d1 l1.length p1] 117))
  have S1 := hideD s1
  have X0 : Hid ((w.alloc (.cells #[.slice d0 l0.length p0, .slice d1 l1.length p1] 117)).cell? ⟨w.heap.size, 0, none⟩ = some (.slice d0 l0.length p0)) := by show _ = _; simp [go_sem]
  have Y0 : Hid ((w.alloc (.cells #[.slice d0 l0.length p0, .slice d1 l1.length p1] 117)).cell? ⟨w.heap.size, 1, none⟩ = some (.slice d1 l1.length p1)) := by show _ = _; simp [go_sem]
  clear s1 hS wf hnil hby ht hn hi0 hi1 wf0 wf1 nl0 nl1
  generalize hq0 : l0.length = q0 at *
  generalize hq1 : l1.length = q1 at *
  have Q0 := hideD hq0
  have Q1 := hideD hq1
  clear hq0 hq1
  go_enter Tryd.func17, Tryd.ntmps17
  go_wp2_with fail
  generalize w.alloc (.cells #[.slice d0 q0 p0, .slice d1 q1 p1] 117) = w0 at *
  have S2 := hideD (S1.out w0 B0.out)
  clear S1
  refine S2.out.mono ?_
  rintro e w1 ⟨⟨p, q, rfl, hp, hq⟩, hb1⟩
  have B1 := hideD (beyondD B0.out hb1.out)
  have x1 := hideD (kc _ _ hb1.out X0.out)
  have y1 := hideD (kc _ _ hb1.out Y0.out)
  clear S2 hb1 X0 Y0 B0 hq
  cases o with
  | none =>
    obtain rfl := hp.out
    have HV1 := hideD (HV.out w1 B1.out)
    clear hp z1 N1 HV I0 I1 BD
    go_wp2_with fail
    refine HV1.out.mono ?_
    rintro e w3 ⟨rfl, hb3⟩
    go_wp2_with fail
    go_ret
    exact ⟨rfl, beyondD B1.out hb3⟩
  | some u =>
    obtain ⟨N, c⟩ := u
    obtain ⟨hN, c32, b, rfl, hz⟩ := hp.out
    have zc := z1 N c rfl
    obtain rfl := N1 N c rfl
    have Z1 := hideD hz
    clear hp z1 N1 hz
    by_cases n1 : (N : Int) < 1
    · have HV1 := hideD (HV.out w1 B1.out)
      clear HV I0 I1 BD zc
      go_wp2_with fail
      refine HV1.out.mono ?_
      rintro e w3 ⟨rfl, hb3⟩
      go_wp2_with fail
      go_ret
      exact ⟨rfl, beyondD B1.out hb3⟩
    · obtain ⟨m, hm⟩ : ∃ m, m = (N + 1) * (N + 1) := ⟨_, rfl⟩
      rw [← hm] at zc
      have n1' : 1 ≤ N := by omega
      have ha : hasA N [1] ([1] : List Int).length = true := by
        show (true && clockB N 1) = true
        rw [Bool.true_and]
        exact decide_eq_true (by omega)
      obtain ⟨c1, zc1, i1, R1, f1, fp, f0⟩ := free_rowL (l := [1]) hN hm zc ha
      have SAME : Hid (∀ K, inA N c1 (VK l0 l1 K) m = inA N c1 (VK l0 l1 0) m) := fun K => in_same hm n1' zc f0 (fun p hp => (fp p hp).2.1) (VK_zero _ _ _) (VK_zero _ _ _) (BD.out K 1).1 (BD.out 0 1).1 (fun i hi => VK_off _ _ _ _ hi)
      have HG : Hid (∀ (g cap : Nat) w', w'.cell? ⟨g, 0, none⟩ = some (.int .i64 1) → ZoneAt w' b N c → Tells w' N 68 #[.pointer (some ⟨b, 0, none⟩), .slice (some ⟨g, 0, none⟩) 1 cap] (some c1)) := fun g cap w' hg hz => gone_tells _ _ N c1 w' (freeL_tells hN hm hz c32 (.inr ⟨g, 0, cap, rfl, fun j hj => by
        obtain rfl : j = 0 := by simp at hj; omega
        exact hg⟩) (by decide) ha R1 f1)
      have INC : Hid (∀ b' w', ZoneAt w' b' N c1 → ZoneAt w' b N c → _) := fun b' w' h1 h2 => inc_any b' b N m c1 c w' h1 h2 hN hm
      have CE : Hid (∀ b' w', ZoneAt w' b' N c1 → Calls Tryd.prog 65 #[.pointer (some ⟨b', 0, none⟩)] w' fun e w'' => (∃ g cap, e = .returned (.slice (some ⟨g, 0, none⟩) m cap) ∧ Hid (∀ k, k < m → w''.cell? ⟨g, k, none⟩ = some (.int .i32 (c1 k)))) ∧ Hid (Below w'.heap.size w' w'')) := fun b' w' hz => (cells_any b' N c1 w' hz hN).mono fun e w'' ⟨⟨v, h1, g, cap, h2, h3, h4, h5⟩, h6⟩ => by
        refine ⟨⟨g, cap, by rw [h1, h2, listOf_len, hm], fun k hk => ?_⟩, h6⟩
        have := h5 k (by rw [listOf_len, ← hm]; exact hk)
        rw [← hm, listOf_get _ _ _ hk, Nat.zero_add] at this
        exact this
      have HH : Hid (∀ k K i j w', i ≤ N → j ≤ N → Calls Tryd.prog 74 #[.int .i32 (c1 k), .int .i64 (VK l0 l1 K i - VK l0 l1 K j), .int .i64 2] w' fun e w'' => e = .returned (.bool (holdsB (c1 k) (VK l0 l1 K i - VK l0 l1 K j) 2)) ∧ w'' = w') := fun k K i j w' _ _ => rholds_any (c1 k) _ 2 w' (zc_right hm zc1 k) (by have := BD.out K i; have := BD.out K j; omega) (by have := BD.out K i; have := BD.out K j; omega) (by omega) (by omega)
      have HPl : Hid (∀ i j, i ≤ N → j ≤ N → i * (N + 1) + j < m ∧ (i * (N + 1) + j) / (N + 1) = i ∧ (i * (N + 1) + j) % (N + 1) = j) := fun i j hi hj => ⟨by rw [hm]; exact pos_lt hi hj, place_div hj, place_mod hj⟩
      have HEnd : Hid ((N + 1) * (N + 1) = m) := hm.symm
      have HMul : Hid (∀ i : Nat, (i : Int) * ((N : Int) + 1) = ((i * (N + 1) : Nat) : Int)) := fun i => by rw [Int.natCast_mul]; rfl
      have HSq : Hid (wrap64 (((N : Int) + 1) * ((N : Int) + 1)) = (m : Int)) := by
        show _ = _
        have e : ((N : Int) + 1) * ((N : Int) + 1) = (((N + 1) * (N + 1) : Nat) : Int) := by rw [Int.natCast_mul]; rfl
        rw [e, hm]
        exact wrap_small (Nat.le_trans (Nat.mul_le_mul (show N + 1 ≤ 9 by omega) (show N + 1 ≤ 9 by omega)) (by decide))
      have I1' := hideD i1
      have IN : Hid (∀ K k, inA N c1 (VK l0 l1 K) (k + 1) = (inA N c1 (VK l0 l1 K) k && holdsB (c1 k) (VK l0 l1 K (k / (N + 1)) - VK l0 l1 K (k % (N + 1))) 2)) := fun K k => rfl
      unfold Tells at HG
      clear zc zc1 i1 R1 f1 fp f0 ha hm c32
      have HG1 := hideD (fun g cap w' h1 h2 => HG.out g cap w' h1 h2)
      clear HG
      have GA : Hid (Calls Tryd.prog 68 #[.pointer (some ⟨b, 0, none⟩), .slice (some ⟨w1.heap.size, 0, none⟩) 1 1] (w1.alloc (.cells #[.int .i64 1] 3)) fun e w' => (∃ B, ZoneOut w' B N e (some c1)) ∧ Below (w1.alloc (.cells #[.int .i64 1] 3)).heap.size (w1.alloc (.cells #[.int .i64 1] 3)) w') := HG1.out _ _ _ (by simp [go_sem]) (Z1.out.past (below_one _ _))
      have Ba := hideD (below_one w1 (.cells #[.int .i64 1] 3))
      clear HG1
      go_wp2_with fail
      generalize w1.alloc (.cells #[.int .i64 1] 3) = wa at *
      refine GA.out.mono ?_
      rintro e w2 ⟨⟨BB, b', -, rfl, hz'⟩, hb2⟩
      have Bb := hideD (beyondD Ba.out hb2)
      have B2 := hideD (beyondD B1.out Bb.out)
      have Z2 := hideD (Z1.out.past Bb.out)
      have A2 := hideD hz'
      have CE2 := hideD (CE.out b' w2 hz')
      have x2 := hideD (kc _ _ Bb.out x1.out)
      have y2 := hideD (kc _ _ Bb.out y1.out)
      clear GA Ba hb2 Bb B1 Z1 hz' CE x1 y1
      have n8 : ¬ ((8 : Int) < (N : Int)) := by omega
      go_wp2_with fail
      refine CE2.out.mono ?_
      rintro e w3 ⟨⟨gc, cpc, rfl, hcc⟩, hb3⟩
      have B3 := hideD (beyondD B2.out hb3.out)
      have Z3 := hideD (Z2.out.past hb3.out)
      have A3 := hideD (A2.out.past hb3.out)
      have x3 := hideD (kc _ _ hb3.out x2.out)
      have y3 := hideD (kc _ _ hb3.out y2.out)
      clear CE2 hb3 B2 Z2 A2 x2 y2
      have sq := HSq.out
      have e1 : wrap64 ((N : Int) + 1) = (N : Int) + 1 := wrap_small (k := N + 1) (by omega)
      have m81 : m ≤ 1000 := by have := HEnd.out; have h := Nat.mul_le_mul (show N + 1 ≤ 9 by omega) (show N + 1 ≤ 9 by omega); omega
      go_upto_region 10 with (fail)
      clear sq HSq
      go_upto_region 11 with (fail)
      have A0 : Hid ((w3.alloc (.cells #[.bool true, .bool true] 118)).cell? ⟨w3.heap.size, 0, none⟩ = some (.bool true)) := by show _ = _; simp [go_sem]
      have A1 : Hid ((w3.alloc (.cells #[.bool true, .bool true] 118)).cell? ⟨w3.heap.size, 1, none⟩ = some (.bool true)) := by show _ = _; simp [go_sem]
      have AF : Hid (∀ a, (w3.alloc (.cells #[.bool true, .bool true] 118)).frozen? ⟨w3.heap.size, a, none⟩ = false) := fun a => by simp [go_sem]
      have AB := hideD (below_one w3 (.cells #[.bool true, .bool true] 118))
      have AL : Hid (w3.heap.size < (w3.alloc (.cells #[.bool true, .bool true] 118)).heap.size) := by show _ < _; simp
      generalize w3.alloc (.cells #[.bool true, .bool true] 118) = w4 at *
      obtain ⟨gi, hgi⟩ : ∃ gi, gi = w3.heap.size := ⟨_, rfl⟩
      rw [← hgi] at A0 A1 AF AL
      have HGI := hideD hgi
      obtain ⟨T0, hT0⟩ : ∃ T0, T0 = inA N c1 (VK l0 l1 0) m := ⟨_, rfl⟩
      have HT0 := hideD hT0
      try rw [← hgi]
      clear hgi hT0
      go_wp2_with fail
      go_loopw [13] (fun s wr => ∃ (K : Nat), K ≤ 2 ∧ s = .int .i64 (K : Int) ∧ Hid (wr.cell? ⟨gi, 0, none⟩ = some (.bool (if 1 ≤ K then T0 else true))) ∧ Hid (wr.cell? ⟨gi, 1, none⟩ = some (.bool (if 2 ≤ K then T0 else true))) ∧ Hid (∀ a, wr.frozen? ⟨gi, a, none⟩ = false) ∧ Hid (gi < wr.heap.size) ∧ Hid (Below w3.heap.size w3 wr)) (fun s _ => 2 - (intOf s).toNat)
      case atStart => exact ⟨0, by omega, rfl, A0, A1, AF, AL, AB⟩
      case round =>
        obtain ⟨K, hK, rfl, hc0, hc1, hfr, hlt, hB⟩ := hrel
        clear A0 A1 AF AL AB
        by_cases ck : K < 2
        · have k0 : (0 : Int) ≤ (K : Int) := by omega
          have k1 : (K : Int) < 2 := by omega
          have MY : wr.cell? ⟨gi, K, none⟩ = some (.bool true) := by
            by_cases e : K = 0
            · subst e; have := hc0.out; rw [if_neg (by omega)] at this; exact this
            · obtain rfl : K = 1 := by omega
              have := hc1.out; rw [if_neg (by omega)] at this; exact this
          obtain ⟨u, OT⟩ : ∃ u, wr.cell? ⟨gi, 1 - K, none⟩ = some (.bool u) ∧ (K = 1 → u = T0) ∧ (K = 0 → u = true) := by
            by_cases e : K = 0
            · subst e; exact ⟨true, by have := hc1.out; rw [if_neg (by omega)] at this; exact this, fun h => by omega, fun _ => rfl⟩
            · obtain rfl : K = 1 := by omega
              exact ⟨T0, by have := hc0.out; rw [if_pos (by omega)] at this; exact this, fun _ => rfl, fun h => by omega⟩
          have hmk := make_i64s (N + 1) (by omega)
          have cN : ((N + 1 : Nat) : Int) = (N : Int) + 1 := by omega
          simp only [cN] at hmk
          clear cN
          have ASK0 : Hid (Ask (wr.alloc (.cells (madeCells #[.int .i64 0] (N + 1)) 2)) gi wr.heap.size N K true u (vF l0 1)) := ⟨kc _ _ (below_one _ _) MY, kc _ _ (below_one _ _) OT.1, fun a => by
            have := hfr.out a
            exact ((below_one wr _).frozen (p := ⟨gi, a, none⟩) hlt.out).trans this, fun j hj => by
            rw [made_ints (N + 1) wr _ j (by omega)]
            unfold vF V0
            by_cases e : j < 1
            · rw [if_pos e, if_neg (by omega)]
            · rw [if_neg e], fun a => by simp [go_sem], hlt.out⟩
          have BW := hideD (beyondD hB.out (below_one wr (.cells (madeCells #[.int .i64 0] (N + 1)) 2)))
          have GL : Hid (w3.heap.size ≤ wr.heap.size) := hB.out.size
          have OTH := hideD OT.2
          clear hc0 hc1 hfr hlt hB MY OT
          go_upto_region 15 with (fail)
          generalize wr.alloc (.cells (madeCells #[.int .i64 0] (N + 1)) 2) = w5 at *
          obtain ⟨gv, hgv⟩ : ∃ gv, gv = wr.heap.size := ⟨_, rfl⟩
          rw [← hgv] at ASK0 GL
          try rw [← hgv]
          clear hgv hmk
          go_wp2_with fail
          go_loopw [15] (fun s w6 => ∃ (I : Nat), 1 ≤ I ∧ I ≤ N + 1 ∧ s = .int .i64 (I : Int) ∧ Hid (Ask w6 gi gv N K true u (vF l0 I)) ∧ Hid (Below w3.heap.size w3 w6)) (fun s _ => N + 1 - (intOf s).toNat)
          case atStart => exact ⟨1, by omega, by omega, rfl, ASK0, BW⟩
          case round =>
            obtain ⟨I, hI1, hI, rfl, hA, hB6⟩ := hrel
            clear ASK0 BW
            have xc := kc _ _ hB6.out x3.out
            by_cases ci : I ≤ N ∧ I ≤ q0
            · have i1 : (I : Int) ≤ (N : Int) := by omega
              have i2 : (I : Int) ≤ (q0 : Int) := by omega
              obtain ⟨J, hJ⟩ : ∃ J, I = J + 1 := ⟨I - 1, by omega⟩
              have ij : (I : Int) - 1 = (J : Int) := by omega
              have j0 : (0 : Int) ≤ (J : Int) := by omega
              have j1 : (J : Int) < (q0 : Int) := by omega
              have i3 : (I : Int) < (N : Int) + 1 := by omega
              have i0' : (0 : Int) ≤ (I : Int) := by omega
              obtain ⟨cb, off, rfl, xj⟩ := I0.out _ (beyondD B3.out hB6.out) J (by omega)
              have mb := M0.out J
              have cv : IntKind.i64.wrap (l0.getD J 0) = l0.getD J 0 := by rw [IntKind.wrap_i64]; omega
              have cv2 : wrap64 (l0.getD J 0) = l0.getD J 0 := by unfold wrap64; omega
              have nA : Hid (Ask (wr.setCell ⟨gv, I, none⟩ (.int .i64 (l0.getD J 0))) gi gv N K true u (vF l0 (I + 1))) := hA.out.val (by
                unfold vF V0
                rw [if_pos (by omega), if_pos (by have := Q0.out; omega), hJ]
                rfl) (fun i hi => by
                unfold vF
                by_cases e : i < I
                · rw [if_pos e, if_pos (by omega)]
                · rw [if_neg e, if_neg (by omega)]) (by omega)
              have nB := hideD (hB6.out.setCell (p := ⟨gv, I, none⟩) GL.out (.int .i64 (l0.getD J 0)))
              have y0 := hA.out.vals I (by omega)
              have z0 := hA.out.vfree I
              generalize l0.getD J 0 = y at *
              clear hJ hA hB6 mb HH IN SAME
              go_wp2_with fail
              go_roundw
              case rel => exact ⟨I + 1, by omega, by omega, by go_num, nA, nB⟩
              case measure => simp [intOf]; omega
            · have full : Hid (Ask wr gi gv N K true u (V0 l0)) := hA.out.congr fun j hj => by
                unfold vF
                by_cases e : j < I
                · rw [if_pos e]
                · rw [if_neg e]
                  unfold V0
                  rw [if_neg (by have := Q0.out; omega)]
              clear hA
              by_cases cN : I ≤ N
              · have i1 : (I : Int) ≤ (N : Int) := by omega
                have i2 : ¬ ((I : Int) ≤ (q0 : Int)) := by omega
                clear hI hI1 ci
                have yc := kc _ _ hB6.out y3.out
                by_cases k2 : K = 1
                · subst k2
                  by_cases q2 : 0 < q1
                  · have q3 : (0 : Int) < (q1 : Int) := by omega
                    obtain ⟨cb, off, rfl, xj⟩ := I1.out _ (beyondD B3.out hB6.out) 0 q2
                    rw [Nat.add_zero] at xj
                    have mb := M1.out 0
                    have cv : IntKind.i64.wrap (l1.getD 0 0) = l1.getD 0 0 := by rw [IntKind.wrap_i64]; omega
                    have cv2 : wrap64 (l1.getD 0 0) = l1.getD 0 0 := by unfold wrap64; omega
                    have nA : Hid (Ask (wr.setCell ⟨gv, 1, none⟩ (.int .i64 (l1.getD 0 0))) gi gv N 1 true u (VK l0 l1 1)) := full.out.val (by unfold VK V1; rw [if_neg (by omega), if_pos ⟨rfl, by have := Q1.out; omega⟩]) (fun i hi => by unfold VK V1; rw [if_neg (by omega), if_neg (fun h => hi h.1)]) (by omega)
                    have nB := hideD (hB6.out.setCell (p := ⟨gv, 1, none⟩) GL.out (.int .i64 (l1.getD 0 0)))
                    have y0 := full.out.vals 1 (by omega)
                    have z0 := full.out.vfree 1
                    have n9 : (1 : Int) < (N : Int) + 1 := by omega
                    generalize l1.getD 0 0 = y at *
                    clear full mb
                    go_upto_region 21 with (fail)
                    generalize wr.setCell ⟨gv, 1, none⟩ (.int .i64 y) = wx at *
                    have ASK := nA
                    have BB6 := nB
                    clear nA nB hB6 y0 z0 cv cv2 xj xc yc n9
                    have F0 : Hid (Ask wx gi gv N 1 (inA N c1 (VK l0 l1 1) (0 * (N + 1))) u (VK l0 l1 1)) := by rw [Nat.zero_mul]; exact ASK
                    clear ASK
                    go_wp2_with fail
                    go_loopw [16] (fun s w6 => ∃ (i : Nat), i ≤ N + 1 ∧ s = .int .i64 (i : Int) ∧ Hid (Ask w6 gi gv N 1 (inA N c1 (VK l0 l1 1) (i * (N + 1))) u (VK l0 l1 1)) ∧ Hid (Below w3.heap.size w3 w6)) (fun s _ => N + 1 - (intOf s).toNat)
                    case atStart => exact ⟨0, by omega, rfl, F0, BB6⟩
                    case round =>
                      obtain ⟨i, hi, rfl, hA, hB6⟩ := hrel
                      clear F0 BB6
                      by_cases ci : i ≤ N
                      · have ci1 : (i : Int) ≤ (N : Int) := by omega
                        have F1 : Hid (Ask wr gi gv N 1 (inA N c1 (VK l0 l1 1) (i * (N + 1) + 0)) u (VK l0 l1 1)) := hA.out
                        clear hA
                        go_wp2_with fail
                        go_loopw [17] (fun s w6 => ∃ (j : Nat), j ≤ N + 1 ∧ s = .int .i64 (j : Int) ∧ Hid (Ask w6 gi gv N 1 (inA N c1 (VK l0 l1 1) (i * (N + 1) + j)) u (VK l0 l1 1)) ∧ Hid (Below w3.heap.size w3 w6)) (fun s _ => N + 1 - (intOf s).toNat)
                        case atStart => exact ⟨0, by omega, rfl, F1, hB6⟩
                        case round =>
                          obtain ⟨j, hj, rfl, hA, hB7⟩ := hrel
                          clear F1 hB6
                          by_cases cj : j ≤ N
                          · have cj1 : (j : Int) ≤ (N : Int) := by omega
                            obtain ⟨pl, pd, pm⟩ := HPl.out i j ci cj
                            have nx := IN.out 1 (i * (N + 1) + j)
                            rw [pd, pm] at nx
                            have A1 := hideD (HMul.out i)
                            have HHij := hideD (fun w' => HH.out (i * (N + 1) + j) 1 i j w' ci cj)
                            have cc := kc _ _ hB7.out (hcc.out _ pl)
                            have v1 := hA.out.vals i ci
                            have v2 := hA.out.vals j cj
                            have my := hA.out.mine
                            have fr := hA.out.free 1
                            have bi := BD.out 1 i
                            have bj := BD.out 1 j
                            have nA : Hid (∀ b, Ask ((wr.setCell ⟨gi, 1, none⟩ (.bool b)).drew) gi gv N 1 b u (VK l0 l1 1)) := fun b => (hA.out.set (by omega) b).drew
                            have nB : Hid (∀ b : Bool, Below w3.heap.size w3 ((wr.setCell ⟨gi, 1, none⟩ (.bool b)).drew)) := fun b => (hB7.out.setCell (p := ⟨gi, 1, none⟩) (show w3.heap.size ≤ gi by have := HGI.out; omega) _).drew
                            have NC0 : Hid (∀ x : Bool, ((wr.setCell ⟨gi, 1, none⟩ (.bool x)).drew).cell? ⟨gc, i * (N + 1) + j, none⟩ = some (.int .i32 (c1 (i * (N + 1) + j)))) := fun x => by
                              show (wr.setCell _ _).cell? _ = _
                              have gcl := World.block_lt_of_cell? _ _ (hcc.out _ pl)
                              have gne : ¬ gc = gi := by have := HGI.out; have h3 : gc < w3.heap.size := gcl; omega
                              rw [World.cell?_setCell_other _ _ _ _ (by intro e; injection e; omega)]
                              exact cc
                            have NC1 : Hid (∀ x : Bool, ((wr.setCell ⟨gi, 1, none⟩ (.bool x)).drew).cell? ⟨gv, i, none⟩ = some (.int .i64 (VK l0 l1 1 i))) := fun x => (nA.out x).vals i ci
                            have NC2 : Hid (∀ x : Bool, ((wr.setCell ⟨gi, 1, none⟩ (.bool x)).drew).cell? ⟨gv, j, none⟩ = some (.int .i64 (VK l0 l1 1 j))) := fun x => (nA.out x).vals j cj
                            have NX := hideD nx
                            generalize inA N c1 (VK l0 l1 1) (i * (N + 1) + j) = t at *
                            generalize i * (N + 1) = A at *
                            have s1 : A ≤ 1000000 := by omega
                            have s2 : A + j ≤ 1000000 := by omega
                            have s3 : N + 1 ≤ 1000000 := by omega
                            have E1 : Hid (wrap64 ((N : Int) + 1) = (N : Int) + 1) := wrap_small (k := N + 1) s3
                            have E2 : Hid (wrap64 ((i : Int) * ((N : Int) + 1)) = (A : Int)) := by show _ = _; rw [A1.out]; exact wrap_small s1
                            have E3 : Hid (wrap64 ((A : Int) + (j : Int)) = ((A + j : Nat) : Int)) := wrap_small (k := A + j) s2
                            have D1 : Hid (IntKind.i64.wrap ((N : Int) + 1) = (N : Int) + 1) := wrap_smallK (k := N + 1) s3
                            have D2 : Hid (IntKind.i64.wrap ((i : Int) * ((N : Int) + 1)) = (A : Int)) := by show _ = _; rw [A1.out]; exact wrap_smallK s1
                            have D3 : Hid (IntKind.i64.wrap ((A : Int) + (j : Int)) = ((A + j : Nat) : Int)) := wrap_smallK (k := A + j) s2
                            have pl1 : ((A + j : Nat) : Int) < (m : Int) := by omega
                            have NXT : Hid (inA N c1 (VK l0 l1 1) (A + (j + 1)) = (t && holdsB (c1 (A + j)) (VK l0 l1 1 i - VK l0 l1 1 j) 2)) := by rw [← Nat.add_assoc]; exact nx
                            generalize hT2 : inA N c1 (VK l0 l1 1) (A + (j + 1)) = t2 at *
                            have HT2 := hideD hT2
                            clear hT2
                            generalize holdsB (c1 (A + j)) (VK l0 l1 1 i - VK l0 l1 1 j) 2 = hb2 at *
                            generalize c1 (A + j) = b2 at *
                            have W1 : Hid (wrap64 (VK l0 l1 1 i - VK l0 l1 1 j) = VK l0 l1 1 i - VK l0 l1 1 j) := by show _ = _; unfold wrap64; omega
                            have W2 : Hid (IntKind.i64.wrap (VK l0 l1 1 i - VK l0 l1 1 j) = VK l0 l1 1 i - VK l0 l1 1 j) := by show _ = _; rw [IntKind.wrap_i64]; omega
                            generalize VK l0 l1 1 i = vi at *
                            generalize VK l0 l1 1 j = vj at *
                            have vw1 := W1.out
                            have vw2 := W2.out
                            generalize hP : A + j = P at *
                            clear hP s1 s2 s3 hA hB7 HPl HEnd HMul HH IN SAME BD I0 I1 M0 M1 HV INC nx A1 pl pd pm bi bj NX W1 W2 hcc
                            have i0' : (0 : Int) ≤ (i : Int) := by omega
                            have j0' : (0 : Int) ≤ (j : Int) := by omega
                            have i9 : (i : Int) < (N : Int) + 1 := by omega
                            have j9 : (j : Int) < (N : Int) + 1 := by omega
                            have a1 := E1.out
                            have a2 := E2.out
                            have a3 := E3.out
                            have b1 := D1.out
                            have b2' := D2.out
                            have b3 := D3.out
                            clear E1 E2 E3 D1 D2 D3
                            cases t with
                            | true =>
                              have e2 : t2 = hb2 := by have := NXT.out; simpa using this
                              subst e2
                              clear NXT
                              have my' : wr.drew.cell? ⟨gi, 1, none⟩ = some (.bool true) := my
                              have cc' : wr.drew.cell? ⟨gc, P, none⟩ = some (.int .i32 b2) := cc
                              have v1' : wr.drew.cell? ⟨gv, i, none⟩ = some (.int .i64 vi) := v1
                              have v2' : wr.drew.cell? ⟨gv, j, none⟩ = some (.int .i64 vj) := v2
                              have nc0 : ((wr.setCell ⟨gi, 1, none⟩ (.bool t2)).drew).cell? ⟨gc, P, none⟩ = some (.int .i32 b2) := NC0.out t2
                              have nc1 : ((wr.setCell ⟨gi, 1, none⟩ (.bool t2)).drew).cell? ⟨gv, i, none⟩ = some (.int .i64 vi) := NC1.out t2
                              have nc2 : ((wr.setCell ⟨gi, 1, none⟩ (.bool t2)).drew).cell? ⟨gv, j, none⟩ = some (.int .i64 vj) := NC2.out t2
                              go_upto_region 27 with (fail)
                              refine wp_region_noPanic ?_
                              refine wp_region_held_drew (S := fun w' => w'.cell? ⟨gc, P, none⟩ = some (.int .i32 b2) ∧ w'.cell? ⟨gv, i, none⟩ = some (.int .i64 vi) ∧ w'.cell? ⟨gv, j, none⟩ = some (.int .i64 vj)) (by kernel_rfl) ?_ (fun hHeld => ?_)
                              · (try dsimp only); first | exact ⟨cc', v1', v2'⟩ | exact ⟨nc0, nc1, nc2⟩
                              refine wpAnyH_take (i := 0) (oi := ⟨_, _, _, _, _, _⟩) (v := ?_) rfl (by kernel_rfl) (by kernel_rfl) (by kernel_rfl) (fun _ _ _ h => h) (Or.inl ⟨by rfl, ?_⟩) (by assumption) ?_
                              rotate_left
                              · intro w hSw; (try dsimp only at hSw); obtain ⟨hs1, hs2, hs3⟩ := hSw; first | (go_simp; done) | (go_simp; with_reducible rfl)
                              try simp only [Act.put, List.setIfInBounds_toArray, List.set_cons_zero, List.set_cons_succ]
                              refine wpAnyH_take (i := 1) (oi := ⟨_, _, _, _, _, _⟩) (v := ?_) rfl (by kernel_rfl) (by kernel_rfl) (by kernel_rfl) (fun _ _ _ h => h) (Or.inl ⟨by rfl, ?_⟩) (by assumption) ?_
                              rotate_left
                              · intro w hSw; (try dsimp only at hSw); obtain ⟨hs1, hs2, hs3⟩ := hSw; first | (go_simp; done) | (go_simp; with_reducible rfl)
                              try simp only [Act.put, List.setIfInBounds_toArray, List.set_cons_zero, List.set_cons_succ]
                              refine wpAnyH_take (i := 2) (oi := ⟨_, _, _, _, _, _⟩) (v := ?_) rfl (by kernel_rfl) (by kernel_rfl) (by kernel_rfl) (fun _ _ _ h => h) (Or.inl ⟨by rfl, ?_⟩) (by assumption) ?_
                              rotate_left
                              · intro w hSw; (try dsimp only at hSw); obtain ⟨hs1, hs2, hs3⟩ := hSw; first | (go_simp; done) | (go_simp; with_reducible rfl)
                              try simp only [Act.put, List.setIfInBounds_toArray, List.set_cons_zero, List.set_cons_succ]
                              refine wpAnyH_ready (rs := [3]) (by kernel_rfl) (by simp) ?_
                              refine AllReadyH.cons (o := ⟨_, _, _, _, _, _⟩) rfl (fun KK hK => ?_) AllReadyH.nil
                              go_simp
                              refine hK.out _ _ ?_ (fun hHeld => ?_)
                              · (try dsimp only); first | exact ⟨cc', v1', v2'⟩ | exact ⟨nc0, nc1, nc2⟩
                              clear hK KK
                              try simp only [Act.put, List.setIfInBounds_toArray, List.set_cons_zero, List.set_cons_succ]
                              refine wpAnyH_take (i := 4) (oi := ⟨_, _, _, _, _, _⟩) (v := ?_) rfl (by kernel_rfl) (by kernel_rfl) (by kernel_rfl) (fun _ _ _ h => h) (Or.inl ⟨by rfl, ?_⟩) (by assumption) ?_
                              rotate_left
                              · intro w hSw; (try dsimp only at hSw); obtain ⟨hs1, hs2, hs3⟩ := hSw; first | (go_simp; done) | (go_simp; with_reducible rfl)
                              try simp only [Act.put, List.setIfInBounds_toArray, List.set_cons_zero, List.set_cons_succ]
                              refine wpAnyH_take (i := 5) (oi := ⟨_, _, _, _, _, _⟩) (v := ?_) rfl (by kernel_rfl) (by kernel_rfl) (by kernel_rfl) (fun _ _ _ h => h) (Or.inl ⟨by rfl, ?_⟩) (by assumption) ?_
                              rotate_left
                              · intro w hSw; (try dsimp only at hSw); obtain ⟨hs1, hs2, hs3⟩ := hSw; first | (go_simp; done) | (go_simp; with_reducible rfl)
                              try simp only [Act.put, List.setIfInBounds_toArray, List.set_cons_zero, List.set_cons_succ]
                              refine wpAnyH_take (i := 6) (oi := ⟨_, _, _, _, _, _⟩) (v := ?_) rfl (by kernel_rfl) (by kernel_rfl) (by kernel_rfl) (fun _ _ _ h => h) (Or.inl ⟨by rfl, ?_⟩) (by assumption) ?_
                              rotate_left
                              · intro w hSw; (try dsimp only at hSw); obtain ⟨hs1, hs2, hs3⟩ := hSw; first | (go_simp; done) | (go_simp; with_reducible rfl)
                              try simp only [Act.put, List.setIfInBounds_toArray, List.set_cons_zero, List.set_cons_succ]
                              refine wpAnyH_take (i := 7) (oi := ⟨_, _, _, _, _, _⟩) (v := ?_) rfl (by kernel_rfl) (by kernel_rfl) (by kernel_rfl) (fun _ _ _ h => h) (Or.inl ⟨by rfl, ?_⟩) (by assumption) ?_
                              rotate_left
                              · intro w hSw; (try dsimp only at hSw); obtain ⟨hs1, hs2, hs3⟩ := hSw; first | (go_simp; done) | (go_simp; with_reducible rfl)
                              try simp only [Act.put, List.setIfInBounds_toArray, List.set_cons_zero, List.set_cons_succ]
                              refine wpAnyH_take (i := 8) (oi := ⟨_, _, _, _, _, _⟩) (v := ?_) rfl (by kernel_rfl) (by kernel_rfl) (by kernel_rfl) (fun _ _ _ h => h) (Or.inl ⟨by rfl, ?_⟩) (by assumption) ?_
                              rotate_left
                              · intro w hSw; (try dsimp only at hSw); obtain ⟨hs1, hs2, hs3⟩ := hSw; first | (go_simp; done) | (go_simp; with_reducible rfl)
                              try simp only [Act.put, List.setIfInBounds_toArray, List.set_cons_zero, List.set_cons_succ]
                              refine wpAnyH_take (i := 9) (oi := ⟨_, _, _, _, _, _⟩) (v := ?_) rfl (by kernel_rfl) (by kernel_rfl) (by kernel_rfl) (fun _ _ _ h => h) (Or.inl ⟨by rfl, ?_⟩) (by assumption) ?_
                              rotate_left
                              · intro w hSw; (try dsimp only at hSw); obtain ⟨hs1, hs2, hs3⟩ := hSw; first | (go_simp; done) | (go_simp; with_reducible rfl)
                              try simp only [Act.put, List.setIfInBounds_toArray, List.set_cons_zero, List.set_cons_succ]
                              refine wpAnyH_take (i := 10) (oi := ⟨_, _, _, _, _, _⟩) (v := ?_) rfl (by kernel_rfl) (by kernel_rfl) (by kernel_rfl) (fun _ _ _ h => h) (Or.inl ⟨by rfl, ?_⟩) (by assumption) ?_
                              rotate_left
                              · intro w hSw; (try dsimp only at hSw); obtain ⟨hs1, hs2, hs3⟩ := hSw; first | (go_simp; done) | (go_simp; with_reducible rfl)
                              try simp only [Act.put, List.setIfInBounds_toArray, List.set_cons_zero, List.set_cons_succ]
                              refine wpAnyH_take (i := 11) (oi := ⟨_, _, _, _, _, _⟩) (v := ?_) rfl (by kernel_rfl) (by kernel_rfl) (by kernel_rfl) (fun _ _ _ h => h) (Or.inl ⟨by rfl, ?_⟩) (by assumption) ?_
                              rotate_left
                              · intro w hSw; (try dsimp only at hSw); obtain ⟨hs1, hs2, hs3⟩ := hSw; first | (go_simp; done) | (go_simp; with_reducible rfl)
                              try simp only [Act.put, List.setIfInBounds_toArray, List.set_cons_zero, List.set_cons_succ]
                              refine wpAnyH_take (i := 12) (oi := ⟨_, _, _, _, _, _⟩) (v := ?_) rfl (by kernel_rfl) (by kernel_rfl) (by kernel_rfl) (fun _ _ _ h => h) (Or.inl ⟨by rfl, ?_⟩) (by assumption) ?_
                              rotate_left
                              · intro w hSw; (try dsimp only at hSw); obtain ⟨hs1, hs2, hs3⟩ := hSw; first | (go_simp; done) | (go_simp; with_reducible rfl)
                              try simp only [Act.put, List.setIfInBounds_toArray, List.set_cons_zero, List.set_cons_succ]
                              refine wpAnyH_take (i := 13) (oi := ⟨_, _, _, _, _, _⟩) (v := ?_) rfl (by kernel_rfl) (by kernel_rfl) (by kernel_rfl) (fun _ _ _ h => h) (Or.inl ⟨by rfl, ?_⟩) (by assumption) ?_
                              rotate_left
                              · intro w hSw; (try dsimp only at hSw); obtain ⟨hs1, hs2, hs3⟩ := hSw; first | (go_simp; done) | (go_simp; with_reducible rfl)
                              try simp only [Act.put, List.setIfInBounds_toArray, List.set_cons_zero, List.set_cons_succ]
                              refine wpAnyH_take (i := 14) (oi := ⟨_, _, _, _, _, _⟩) (v := ?_) rfl (by kernel_rfl) (by kernel_rfl) (by kernel_rfl) (fun _ _ _ h => h) (Or.inl ⟨by rfl, ?_⟩) (by assumption) ?_
                              rotate_left
                              · intro w hSw; (try dsimp only at hSw); obtain ⟨hs1, hs2, hs3⟩ := hSw; first | (go_simp; done) | (go_simp; with_reducible rfl)
                              try simp only [Act.put, List.setIfInBounds_toArray, List.set_cons_zero, List.set_cons_succ]
                              refine wpAnyH_take (i := 15) (oi := ⟨_, _, _, _, _, _⟩) (v := ?_) rfl (by kernel_rfl) (by kernel_rfl) (by kernel_rfl) (fun _ _ _ h => h) (Or.inl ⟨by rfl, ?_⟩) (by assumption) ?_
                              rotate_left
                              · intro w hSw; (try dsimp only at hSw); obtain ⟨hs1, hs2, hs3⟩ := hSw; first | (go_simp; done) | (go_simp; with_reducible rfl)
                              try simp only [Act.put, List.setIfInBounds_toArray, List.set_cons_zero, List.set_cons_succ]
                              refine wpAnyH_take (i := 16) (oi := ⟨_, _, _, _, _, _⟩) (v := ?_) rfl (by kernel_rfl) (by kernel_rfl) (by kernel_rfl) (fun _ _ _ h => h) (Or.inl ⟨by rfl, ?_⟩) (by assumption) ?_
                              rotate_left
                              · intro w hSw; (try dsimp only at hSw); obtain ⟨hs1, hs2, hs3⟩ := hSw; first | (go_simp; done) | (go_simp; with_reducible rfl)
                              try simp only [Act.put, List.setIfInBounds_toArray, List.set_cons_zero, List.set_cons_succ]
                              refine wpAnyH_take (i := 17) (oi := ⟨_, _, _, _, _, _⟩) (v := ?_) rfl (by kernel_rfl) (by kernel_rfl) (by kernel_rfl) (fun _ _ _ h => h) (Or.inl ⟨by rfl, ?_⟩) (by assumption) ?_
                              rotate_left
                              · intro w hSw; (try dsimp only at hSw); obtain ⟨hs1, hs2, hs3⟩ := hSw; first | (go_simp; done) | (go_simp; with_reducible rfl)
                              try simp only [Act.put, List.setIfInBounds_toArray, List.set_cons_zero, List.set_cons_succ]
                              refine wpAnyH_take (i := 18) (oi := ⟨_, _, _, _, _, _⟩) (v := ?_) rfl (by kernel_rfl) (by kernel_rfl) (by kernel_rfl) (fun _ _ _ h => h) (Or.inl ⟨by rfl, ?_⟩) (by assumption) ?_
                              rotate_left
                              · intro w hSw; (try dsimp only at hSw); obtain ⟨hs1, hs2, hs3⟩ := hSw; first | (go_simp; done) | (go_simp; with_reducible rfl)
                              try simp only [Act.put, List.setIfInBounds_toArray, List.set_cons_zero, List.set_cons_succ]
                              refine wpAnyH_take (i := 19) (oi := ⟨_, _, _, _, _, _⟩) (v := ?_) rfl (by kernel_rfl) (by kernel_rfl) (by kernel_rfl) (fun _ _ _ h => h) (Or.inl ⟨by rfl, ?_⟩) (by assumption) ?_
                              rotate_left
                              · intro w hSw; (try dsimp only at hSw); obtain ⟨hs1, hs2, hs3⟩ := hSw; first | (go_simp; done) | (go_simp; with_reducible rfl)
                              try simp only [Act.put, List.setIfInBounds_toArray, List.set_cons_zero, List.set_cons_succ]
                              refine wpAnyH_take (i := 20) (oi := ⟨_, _, _, _, _, _⟩) (v := ?_) rfl (by kernel_rfl) (by kernel_rfl) (by kernel_rfl) (fun _ _ _ h => h) (Or.inl ⟨by rfl, ?_⟩) (by assumption) ?_
                              rotate_left
                              · intro w hSw; (try dsimp only at hSw); obtain ⟨hs1, hs2, hs3⟩ := hSw; first | (go_simp; done) | (go_simp; with_reducible rfl)
                              try simp only [Act.put, List.setIfInBounds_toArray, List.set_cons_zero, List.set_cons_succ]
                              refine wpAnyH_take (i := 21) (oi := ⟨_, _, _, _, _, _⟩) (v := ?_) rfl (by kernel_rfl) (by kernel_rfl) (by kernel_rfl) (fun _ _ _ h => h) (Or.inl ⟨by rfl, ?_⟩) (by assumption) ?_
                              rotate_left
                              · intro w hSw; (try dsimp only at hSw); obtain ⟨hs1, hs2, hs3⟩ := hSw; first | (go_simp; done) | (go_simp; with_reducible rfl)
                              try simp only [Act.put, List.setIfInBounds_toArray, List.set_cons_zero, List.set_cons_succ]
                              refine wpAnyH_take (i := 22) (oi := ⟨_, _, _, _, _, _⟩) (v := ?_) rfl (by kernel_rfl) (by kernel_rfl) (by kernel_rfl) (fun _ _ _ h => h) (Or.inl ⟨by rfl, ?_⟩) (by assumption) ?_
                              rotate_left
                              · intro w hSw; (try dsimp only at hSw); obtain ⟨hs1, hs2, hs3⟩ := hSw; first | (go_simp; done) | (go_simp; with_reducible rfl)
                              try simp only [Act.put, List.setIfInBounds_toArray, List.set_cons_zero, List.set_cons_succ]
                              refine wpAnyH_ready (rs := [23]) (by kernel_rfl) (by simp) ?_
                              refine AllReadyH.cons (o := ⟨_, _, _, _, _, _⟩) rfl (fun KK hK => ?_) AllReadyH.nil
                              go_simp
                              go_at_call 74
                              refine (HHij.out _).mono ?_
                              rintro e' w6 ⟨rfl, rfl⟩
                              try go_wp2_with fail
                              refine hK.out _ _ ?_ (fun hHeld => ?_)
                              · (try dsimp only); first | exact ⟨cc', v1', v2'⟩ | exact ⟨nc0, nc1, nc2⟩
                              clear hK KK
                              try simp only [Act.put, List.setIfInBounds_toArray, List.set_cons_zero, List.set_cons_succ]
                              refine wpAnyH_take (i := 24) (oi := ⟨_, _, _, _, _, _⟩) (v := ?_) rfl (by kernel_rfl) (by kernel_rfl) (by kernel_rfl) (fun _ _ _ h => h) (Or.inl ⟨by rfl, ?_⟩) (by assumption) ?_
                              rotate_left
                              · intro w hSw; (try dsimp only at hSw); obtain ⟨hs1, hs2, hs3⟩ := hSw; first | (go_simp; done) | (go_simp; with_reducible rfl)
                              try simp only [Act.put, List.setIfInBounds_toArray, List.set_cons_zero, List.set_cons_succ]
                              refine wpAnyH_take (i := 25) (oi := ⟨_, _, _, _, _, _⟩) (v := ?_) rfl (by kernel_rfl) (by kernel_rfl) (by kernel_rfl) (fun _ _ _ h => h) (Or.inl ⟨by rfl, ?_⟩) (by assumption) ?_
                              rotate_left
                              · intro w hSw; (try dsimp only at hSw); obtain ⟨hs1, hs2, hs3⟩ := hSw; first | (go_simp; done) | (go_simp; with_reducible rfl)
                              try simp only [Act.put, List.setIfInBounds_toArray, List.set_cons_zero, List.set_cons_succ]
                              refine wpAnyH_ready (rs := [26]) (by kernel_rfl) (by simp) ?_
                              refine AllReadyH.cons (o := ⟨_, _, _, _, _, _⟩) rfl (fun KK hK => ?_) AllReadyH.nil
                              go_simp
                              refine hK.out _ _ ?_ (fun hHeld => ?_)
                              · (try dsimp only); first | exact ⟨cc', v1', v2'⟩ | exact ⟨nc0, nc1, nc2⟩
                              clear hK KK
                              try simp only [Act.put, List.setIfInBounds_toArray, List.set_cons_zero, List.set_cons_succ]
                              refine wpAnyH_done (by kernel_rfl) ?_ _
                              refine NoPanic.normal ?_
                              all_goals
                                clear a1 a2 a3 b1 b2' b3 HHij vw1 vw2
                                go_wp2_with fail
                                exact ⟨⟨j + 1, by omega, by go_num, (by rw [HT2.out]; exact nA.out _), nB.out _⟩, by simp [intOf]; omega⟩
                            | false =>
                              have e2 : t2 = false := by have := NXT.out; simpa using this
                              subst e2
                              clear NXT
                              have my' : wr.drew.cell? ⟨gi, 1, none⟩ = some (.bool false) := my
                              go_upto_region 27 with (fail)
                              refine wp_region_noPanic ?_
                              refine wp_region_held_drew (S := fun w' => True) (by kernel_rfl) ?_ (fun hHeld => ?_)
                              · trivial
                              refine wpAnyH_take (i := 0) (oi := ⟨_, _, _, _, _, _⟩) (v := ?_) rfl (by kernel_rfl) (by kernel_rfl) (by kernel_rfl) (fun _ _ _ h => h) (Or.inl ⟨by rfl, ?_⟩) (by assumption) ?_
                              rotate_left
                              · intro w hSw; (try dsimp only at hSw); first | (go_simp; done) | (go_simp; with_reducible rfl)
                              try simp only [Act.put, List.setIfInBounds_toArray, List.set_cons_zero, List.set_cons_succ]
                              refine wpAnyH_take (i := 1) (oi := ⟨_, _, _, _, _, _⟩) (v := ?_) rfl (by kernel_rfl) (by kernel_rfl) (by kernel_rfl) (fun _ _ _ h => h) (Or.inl ⟨by rfl, ?_⟩) (by assumption) ?_
                              rotate_left
                              · intro w hSw; (try dsimp only at hSw); first | (go_simp; done) | (go_simp; with_reducible rfl)
                              try simp only [Act.put, List.setIfInBounds_toArray, List.set_cons_zero, List.set_cons_succ]
                              refine wpAnyH_take (i := 2) (oi := ⟨_, _, _, _, _, _⟩) (v := ?_) rfl (by kernel_rfl) (by kernel_rfl) (by kernel_rfl) (fun _ _ _ h => h) (Or.inl ⟨by rfl, ?_⟩) (by assumption) ?_
                              rotate_left
                              · intro w hSw; (try dsimp only at hSw); first | (go_simp; done) | (go_simp; with_reducible rfl)
                              try simp only [Act.put, List.setIfInBounds_toArray, List.set_cons_zero, List.set_cons_succ]
                              refine wpAnyH_ready (rs := [3]) (by kernel_rfl) (by simp) ?_
                              refine AllReadyH.cons (o := ⟨_, _, _, _, _, _⟩) rfl (fun KK hK => ?_) AllReadyH.nil
                              go_simp
                              refine hK.out _ _ ?_ (fun hHeld => ?_)
                              · trivial
                              clear hK KK
                              try simp only [Act.put, List.setIfInBounds_toArray, List.set_cons_zero, List.set_cons_succ]
                              refine wpAnyH_take (i := 4) (oi := ⟨_, _, _, _, _, _⟩) (v := ?_) rfl (by kernel_rfl) (by kernel_rfl) (by kernel_rfl) (fun _ _ _ h => h) (Or.inl ⟨by rfl, ?_⟩) (by assumption) ?_
                              rotate_left
                              · intro w hSw; (try dsimp only at hSw); first | (go_simp; done) | (go_simp; with_reducible rfl)
                              try simp only [Act.put, List.setIfInBounds_toArray, List.set_cons_zero, List.set_cons_succ]
                              refine wpAnyH_take (i := 5) (oi := ⟨_, _, _, _, _, _⟩) (v := undef) rfl (by kernel_rfl) (by kernel_rfl) (by kernel_rfl) (fun _ _ _ h => h) (Or.inr ⟨by rfl, rfl⟩) (by assumption) ?_
                              try simp only [Act.put, List.setIfInBounds_toArray, List.set_cons_zero, List.set_cons_succ]
                              refine wpAnyH_take (i := 6) (oi := ⟨_, _, _, _, _, _⟩) (v := undef) rfl (by kernel_rfl) (by kernel_rfl) (by kernel_rfl) (fun _ _ _ h => h) (Or.inr ⟨by rfl, rfl⟩) (by assumption) ?_
                              try simp only [Act.put, List.setIfInBounds_toArray, List.set_cons_zero, List.set_cons_succ]
                              refine wpAnyH_take (i := 7) (oi := ⟨_, _, _, _, _, _⟩) (v := undef) rfl (by kernel_rfl) (by kernel_rfl) (by kernel_rfl) (fun _ _ _ h => h) (Or.inr ⟨by rfl, rfl⟩) (by assumption) ?_
                              try simp only [Act.put, List.setIfInBounds_toArray, List.set_cons_zero, List.set_cons_succ]
                              refine wpAnyH_take (i := 8) (oi := ⟨_, _, _, _, _, _⟩) (v := undef) rfl (by kernel_rfl) (by kernel_rfl) (by kernel_rfl) (fun _ _ _ h => h) (Or.inr ⟨by rfl, rfl⟩) (by assumption) ?_
                              try simp only [Act.put, List.setIfInBounds_toArray, List.set_cons_zero, List.set_cons_succ]
                              refine wpAnyH_take (i := 9) (oi := ⟨_, _, _, _, _, _⟩) (v := undef) rfl (by kernel_rfl) (by kernel_rfl) (by kernel_rfl) (fun _ _ _ h => h) (Or.inr ⟨by rfl, rfl⟩) (by assumption) ?_
                              try simp only [Act.put, List.setIfInBounds_toArray, List.set_cons_zero, List.set_cons_succ]
                              refine wpAnyH_take (i := 10) (oi := ⟨_, _, _, _, _, _⟩) (v := undef) rfl (by kernel_rfl) (by kernel_rfl) (by kernel_rfl) (fun _ _ _ h => h) (Or.inr ⟨by rfl, rfl⟩) (by assumption) ?_
                              try simp only [Act.put, List.setIfInBounds_toArray, List.set_cons_zero, List.set_cons_succ]
                              refine wpAnyH_take (i := 11) (oi := ⟨_, _, _, _, _, _⟩) (v := undef) rfl (by kernel_rfl) (by kernel_rfl) (by kernel_rfl) (fun _ _ _ h => h) (Or.inr ⟨by rfl, rfl⟩) (by assumption) ?_
                              try simp only [Act.put, List.setIfInBounds_toArray, List.set_cons_zero, List.set_cons_succ]
                              refine wpAnyH_take (i := 12) (oi := ⟨_, _, _, _, _, _⟩) (v := undef) rfl (by kernel_rfl) (by kernel_rfl) (by kernel_rfl) (fun _ _ _ h => h) (Or.inr ⟨by rfl, rfl⟩) (by assumption) ?_
                              try simp only [Act.put, List.setIfInBounds_toArray, List.set_cons_zero, List.set_cons_succ]
                              refine wpAnyH_take (i := 13) (oi := ⟨_, _, _, _, _, _⟩) (v := undef) rfl (by kernel_rfl) (by kernel_rfl) (by kernel_rfl) (fun _ _ _ h => h) (Or.inr ⟨by rfl, rfl⟩) (by assumption) ?_
                              try simp only [Act.put, List.setIfInBounds_toArray, List.set_cons_zero, List.set_cons_succ]
                              refine wpAnyH_take (i := 14) (oi := ⟨_, _, _, _, _, _⟩) (v := undef) rfl (by kernel_rfl) (by kernel_rfl) (by kernel_rfl) (fun _ _ _ h => h) (Or.inr ⟨by rfl, rfl⟩) (by assumption) ?_
                              try simp only [Act.put, List.setIfInBounds_toArray, List.set_cons_zero, List.set_cons_succ]
                              refine wpAnyH_take (i := 15) (oi := ⟨_, _, _, _, _, _⟩) (v := undef) rfl (by kernel_rfl) (by kernel_rfl) (by kernel_rfl) (fun _ _ _ h => h) (Or.inr ⟨by rfl, rfl⟩) (by assumption) ?_
                              try simp only [Act.put, List.setIfInBounds_toArray, List.set_cons_zero, List.set_cons_succ]
                              refine wpAnyH_take (i := 16) (oi := ⟨_, _, _, _, _, _⟩) (v := undef) rfl (by kernel_rfl) (by kernel_rfl) (by kernel_rfl) (fun _ _ _ h => h) (Or.inr ⟨by rfl, rfl⟩) (by assumption) ?_
                              try simp only [Act.put, List.setIfInBounds_toArray, List.set_cons_zero, List.set_cons_succ]
                              refine wpAnyH_take (i := 17) (oi := ⟨_, _, _, _, _, _⟩) (v := undef) rfl (by kernel_rfl) (by kernel_rfl) (by kernel_rfl) (fun _ _ _ h => h) (Or.inr ⟨by rfl, rfl⟩) (by assumption) ?_
                              try simp only [Act.put, List.setIfInBounds_toArray, List.set_cons_zero, List.set_cons_succ]
                              refine wpAnyH_take (i := 18) (oi := ⟨_, _, _, _, _, _⟩) (v := undef) rfl (by kernel_rfl) (by kernel_rfl) (by kernel_rfl) (fun _ _ _ h => h) (Or.inr ⟨by rfl, rfl⟩) (by assumption) ?_
                              try simp only [Act.put, List.setIfInBounds_toArray, List.set_cons_zero, List.set_cons_succ]
                              refine wpAnyH_take (i := 19) (oi := ⟨_, _, _, _, _, _⟩) (v := undef) rfl (by kernel_rfl) (by kernel_rfl) (by kernel_rfl) (fun _ _ _ h => h) (Or.inr ⟨by rfl, rfl⟩) (by assumption) ?_
                              try simp only [Act.put, List.setIfInBounds_toArray, List.set_cons_zero, List.set_cons_succ]
                              refine wpAnyH_take (i := 20) (oi := ⟨_, _, _, _, _, _⟩) (v := undef) rfl (by kernel_rfl) (by kernel_rfl) (by kernel_rfl) (fun _ _ _ h => h) (Or.inr ⟨by rfl, rfl⟩) (by assumption) ?_
                              try simp only [Act.put, List.setIfInBounds_toArray, List.set_cons_zero, List.set_cons_succ]
                              refine wpAnyH_take (i := 21) (oi := ⟨_, _, _, _, _, _⟩) (v := undef) rfl (by kernel_rfl) (by kernel_rfl) (by kernel_rfl) (fun _ _ _ h => h) (Or.inr ⟨by rfl, rfl⟩) (by assumption) ?_
                              try simp only [Act.put, List.setIfInBounds_toArray, List.set_cons_zero, List.set_cons_succ]
                              refine wpAnyH_take (i := 22) (oi := ⟨_, _, _, _, _, _⟩) (v := undef) rfl (by kernel_rfl) (by kernel_rfl) (by kernel_rfl) (fun _ _ _ h => h) (Or.inr ⟨by rfl, rfl⟩) (by assumption) ?_
                              try simp only [Act.put, List.setIfInBounds_toArray, List.set_cons_zero, List.set_cons_succ]
                              refine wpAnyH_take (i := 23) (oi := ⟨_, _, _, _, _, _⟩) (v := undef) rfl (by kernel_rfl) (by kernel_rfl) (by kernel_rfl) (fun _ _ _ h => h) (Or.inr ⟨by rfl, rfl⟩) (by assumption) ?_
                              try simp only [Act.put, List.setIfInBounds_toArray, List.set_cons_zero, List.set_cons_succ]
                              refine wpAnyH_take (i := 24) (oi := ⟨_, _, _, _, _, _⟩) (v := ?_) rfl (by kernel_rfl) (by kernel_rfl) (by kernel_rfl) (fun _ _ _ h => h) (Or.inl ⟨by rfl, ?_⟩) (by assumption) ?_
                              rotate_left
                              · intro w hSw; (try dsimp only at hSw); first | (go_simp; done) | (go_simp; with_reducible rfl)
                              try simp only [Act.put, List.setIfInBounds_toArray, List.set_cons_zero, List.set_cons_succ]
                              refine wpAnyH_take (i := 25) (oi := ⟨_, _, _, _, _, _⟩) (v := ?_) rfl (by kernel_rfl) (by kernel_rfl) (by kernel_rfl) (fun _ _ _ h => h) (Or.inl ⟨by rfl, ?_⟩) (by assumption) ?_
                              rotate_left
                              · intro w hSw; (try dsimp only at hSw); first | (go_simp; done) | (go_simp; with_reducible rfl)
                              try simp only [Act.put, List.setIfInBounds_toArray, List.set_cons_zero, List.set_cons_succ]
                              refine wpAnyH_ready (rs := [26]) (by kernel_rfl) (by simp) ?_
                              refine AllReadyH.cons (o := ⟨_, _, _, _, _, _⟩) rfl (fun KK hK => ?_) AllReadyH.nil
                              go_simp
                              refine hK.out _ _ ?_ (fun hHeld => ?_)
                              · trivial
                              clear hK KK
                              try simp only [Act.put, List.setIfInBounds_toArray, List.set_cons_zero, List.set_cons_succ]
                              refine wpAnyH_done (by kernel_rfl) ?_ _
                              refine NoPanic.normal ?_
                              all_goals
                                clear a1 a2 a3 b1 b2' b3 HHij vw1 vw2
                                go_wp2_with fail
                                exact ⟨⟨j + 1, by omega, by go_num, (by rw [HT2.out]; exact nA.out _), nB.out _⟩, by simp [intOf]; omega⟩
                          · have cj1 : ¬ ((j : Int) ≤ (N : Int)) := by omega
                            have ej : i * (N + 1) + j = (i + 1) * (N + 1) := by rw [Nat.add_mul, Nat.one_mul]; omega
                            have F8 : Hid (Ask wr gi gv N 1 (inA N c1 (VK l0 l1 1) ((i + 1) * (N + 1))) u (VK l0 l1 1)) := by rw [← ej]; exact hA
                            clear ej hA
                            go_wp2_with fail
                            go_roundw
                            case rel => exact ⟨i + 1, by omega, by go_num, F8, hB7⟩
                            case measure => first | (simp [intOf]; done) | (simp [intOf]; omega)
                      · have ci1 : ¬ ((i : Int) ≤ (N : Int)) := by omega
                        have ei : i * (N + 1) = m := by rw [show i = N + 1 by omega]; exact HEnd.out
                        have hA2 := hA.out
                        rw [ei, SAME.out 1, ← HT0.out] at hA2
                        have lt := World.block_lt_of_cell? _ _ hA2.mine
                        have c0' : Hid (wr.cell? ⟨gi, 0, none⟩ = some (.bool (if 1 ≤ 1 + 1 then T0 else true))) := by
                          show _ = _
                          rw [if_pos (by omega)]
                          have := hA2.other; rw [OTH.out.1 (by first | rfl | trivial)] at this; exact this
                        have c1' : Hid (wr.cell? ⟨gi, 1, none⟩ = some (.bool (if 2 ≤ 1 + 1 then T0 else true))) := by
                          show _ = _
                          rw [if_pos (by omega)]; exact hA2.mine
                        have fr' := hideD hA2.free
                        have lt' := hideD lt
                        clear ei hA hA2 lt HH IN HPl HMul
                        go_wp2_with fail
                        go_roundw
                        case rel => exact ⟨1 + 1, by omega, by go_num, c0', c1', fr', lt', hB6⟩
                        case measure => first | (simp [intOf]; done) | (simp [intOf]; omega)
                  · have q3 : ¬ ((0 : Int) < (q1 : Int)) := by omega
                    have ASK : Hid (Ask wr gi gv N 1 true u (VK l0 l1 1)) := full.out.congr fun j hj => by unfold VK V1; rw [if_neg (by omega), if_neg (fun h => by have := Q1.out; omega)]
                    have BB6 := hB6
                    clear full hB6
                    go_upto_region 21 with (fail)
                    clear xc yc
                    have F0 : Hid (Ask wr gi gv N 1 (inA N c1 (VK l0 l1 1) (0 * (N + 1))) u (VK l0 l1 1)) := by rw [Nat.zero_mul]; exact ASK
                    clear ASK
                    go_wp2_with fail
                    go_loopw [16] (fun s w6 => ∃ (i : Nat), i ≤ N + 1 ∧ s = .int .i64 (i : Int) ∧ Hid (Ask w6 gi gv N 1 (inA N c1 (VK l0 l1 1) (i * (N + 1))) u (VK l0 l1 1)) ∧ Hid (Below w3.heap.size w3 w6)) (fun s _ => N + 1 - (intOf s).toNat)
                    case atStart => exact ⟨0, by omega, rfl, F0, BB6⟩
                    case round =>
                      obtain ⟨i, hi, rfl, hA, hB6⟩ := hrel
                      clear F0 BB6
                      by_cases ci : i ≤ N
                      · have ci1 : (i : Int) ≤ (N : Int) := by omega
                        have F1 : Hid (Ask wr gi gv N 1 (inA N c1 (VK l0 l1 1) (i * (N + 1) + 0)) u (VK l0 l1 1)) := hA.out
                        clear hA
                        go_wp2_with fail
                        go_loopw [17] (fun s w6 => ∃ (j : Nat), j ≤ N + 1 ∧ s = .int .i64 (j : Int) ∧ Hid (Ask w6 gi gv N 1 (inA N c1 (VK l0 l1 1) (i * (N + 1) + j)) u (VK l0 l1 1)) ∧ Hid (Below w3.heap.size w3 w6)) (fun s _ => N + 1 - (intOf s).toNat)
                        case atStart => exact ⟨0, by omega, rfl, F1, hB6⟩
                        case round =>
                          obtain ⟨j, hj, rfl, hA, hB7⟩ := hrel
                          clear F1 hB6
                          by_cases cj : j ≤ N
                          · have cj1 : (j : Int) ≤ (N : Int) := by omega
                            obtain ⟨pl, pd, pm⟩ := HPl.out i j ci cj
                            have nx := IN.out 1 (i * (N + 1) + j)
                            rw [pd, pm] at nx
                            have A1 := hideD (HMul.out i)
                            have HHij := hideD (fun w' => HH.out (i * (N + 1) + j) 1 i j w' ci cj)
                            have cc := kc _ _ hB7.out (hcc.out _ pl)
                            have v1 := hA.out.vals i ci
                            have v2 := hA.out.vals j cj
                            have my := hA.out.mine
                            have fr := hA.out.free 1
                            have bi := BD.out 1 i
                            have bj := BD.out 1 j
                            have nA : Hid (∀ b, Ask ((wr.setCell ⟨gi, 1, none⟩ (.bool b)).drew) gi gv N 1 b u (VK l0 l1 1)) := fun b => (hA.out.set (by omega) b).drew
                            have nB : Hid (∀ b : Bool, Below w3.heap.size w3 ((wr.setCell ⟨gi, 1, none⟩ (.bool b)).drew)) := fun b => (hB7.out.setCell (p := ⟨gi, 1, none⟩) (show w3.heap.size ≤ gi by have := HGI.out; omega) _).drew
                            have NC0 : Hid (∀ x : Bool, ((wr.setCell ⟨gi, 1, none⟩ (.bool x)).drew).cell? ⟨gc, i * (N + 1) + j, none⟩ = some (.int .i32 (c1 (i * (N + 1) + j)))) := fun x => by
                              show (wr.setCell _ _).cell? _ = _
                              have gcl := World.block_lt_of_cell? _ _ (hcc.out _ pl)
                              have gne : ¬ gc = gi := by have := HGI.out; have h3 : gc < w3.heap.size := gcl; omega
                              rw [World.cell?_setCell_other _ _ _ _ (by intro e; injection e; omega)]
                              exact cc
                            have NC1 : Hid (∀ x : Bool, ((wr.setCell ⟨gi, 1, none⟩ (.bool x)).drew).cell? ⟨gv, i, none⟩ = some (.int .i64 (VK l0 l1 1 i))) := fun x => (nA.out x).vals i ci
                            have NC2 : Hid (∀ x : Bool, ((wr.setCell ⟨gi, 1, none⟩ (.bool x)).drew).cell? ⟨gv, j, none⟩ = some (.int .i64 (VK l0 l1 1 j))) := fun x => (nA.out x).vals j cj
                            have NX := hideD nx
                            generalize inA N c1 (VK l0 l1 1) (i * (N + 1) + j) = t at *
                            generalize i * (N + 1) = A at *
                            have s1 : A ≤ 1000000 := by omega
                            have s2 : A + j ≤ 1000000 := by omega
                            have s3 : N + 1 ≤ 1000000 := by omega
                            have E1 : Hid (wrap64 ((N : Int) + 1) = (N : Int) + 1) := wrap_small (k := N + 1) s3
                            have E2 : Hid (wrap64 ((i : Int) * ((N : Int) + 1)) = (A : Int)) := by show _ = _; rw [A1.out]; exact wrap_small s1
                            have E3 : Hid (wrap64 ((A : Int) + (j : Int)) = ((A + j : Nat) : Int)) := wrap_small (k := A + j) s2
                            have D1 : Hid (IntKind.i64.wrap ((N : Int) + 1) = (N : Int) + 1) := wrap_smallK (k := N + 1) s3
                            have D2 : Hid (IntKind.i64.wrap ((i : Int) * ((N : Int) + 1)) = (A : Int)) := by show _ = _; rw [A1.out]; exact wrap_smallK s1
                            have D3 : Hid (IntKind.i64.wrap ((A : Int) + (j : Int)) = ((A + j : Nat) : Int)) := wrap_smallK (k := A + j) s2
                            have pl1 : ((A + j : Nat) : Int) < (m : Int) := by omega
                            have NXT : Hid (inA N c1 (VK l0 l1 1) (A + (j + 1)) = (t && holdsB (c1 (A + j)) (VK l0 l1 1 i - VK l0 l1 1 j) 2)) := by rw [← Nat.add_assoc]; exact nx
                            generalize hT2 : inA N c1 (VK l0 l1 1) (A + (j + 1)) = t2 at *
                            have HT2 := hideD hT2
                            clear hT2
                            generalize holdsB (c1 (A + j)) (VK l0 l1 1 i - VK l0 l1 1 j) 2 = hb2 at *
                            generalize c1 (A + j) = b2 at *
                            have W1 : Hid (wrap64 (VK l0 l1 1 i - VK l0 l1 1 j) = VK l0 l1 1 i - VK l0 l1 1 j) := by show _ = _; unfold wrap64; omega
                            have W2 : Hid (IntKind.i64.wrap (VK l0 l1 1 i - VK l0 l1 1 j) = VK l0 l1 1 i - VK l0 l1 1 j) := by show _ = _; rw [IntKind.wrap_i64]; omega
                            generalize VK l0 l1 1 i = vi at *
                            generalize VK l0 l1 1 j = vj at *
                            have vw1 := W1.out
                            have vw2 := W2.out
                            generalize hP : A + j = P at *
                            clear hP s1 s2 s3 hA hB7 HPl HEnd HMul HH IN SAME BD I0 I1 M0 M1 HV INC nx A1 pl pd pm bi bj NX W1 W2 hcc
                            have i0' : (0 : Int) ≤ (i : Int) := by omega
                            have j0' : (0 : Int) ≤ (j : Int) := by omega
                            have i9 : (i : Int) < (N : Int) + 1 := by omega
                            have j9 : (j : Int) < (N : Int) + 1 := by omega
                            have a1 := E1.out
                            have a2 := E2.out
                            have a3 := E3.out
                            have b1 := D1.out
                            have b2' := D2.out
                            have b3 := D3.out
                            clear E1 E2 E3 D1 D2 D3
                            cases t with
                            | true =>
                              have e2 : t2 = hb2 := by have := NXT.out; simpa using this
                              subst e2
                              clear NXT
                              have my' : wr.drew.cell? ⟨gi, 1, none⟩ = some (.bool true) := my
                              have cc' : wr.drew.cell? ⟨gc, P, none⟩ = some (.int .i32 b2) := cc
                              have v1' : wr.drew.cell? ⟨gv, i, none⟩ = some (.int .i64 vi) := v1
                              have v2' : wr.drew.cell? ⟨gv, j, none⟩ = some (.int .i64 vj) := v2
                              have nc0 : ((wr.setCell ⟨gi, 1, none⟩ (.bool t2)).drew).cell? ⟨gc, P, none⟩ = some (.int .i32 b2) := NC0.out t2
                              have nc1 : ((wr.setCell ⟨gi, 1, none⟩ (.bool t2)).drew).cell? ⟨gv, i, none⟩ = some (.int .i64 vi) := NC1.out t2
                              have nc2 : ((wr.setCell ⟨gi, 1, none⟩ (.bool t2)).drew).cell? ⟨gv, j, none⟩ = some (.int .i64 vj) := NC2.out t2
                              go_upto_region 27 with (fail)
                              refine wp_region_noPanic ?_
                              refine wp_region_held_drew (S := fun w' => w'.cell? ⟨gc, P, none⟩ = some (.int .i32 b2) ∧ w'.cell? ⟨gv, i, none⟩ = some (.int .i64 vi) ∧ w'.cell? ⟨gv, j, none⟩ = some (.int .i64 vj)) (by kernel_rfl) ?_ (fun hHeld => ?_)
                              · (try dsimp only); first | exact ⟨cc', v1', v2'⟩ | exact ⟨nc0, nc1, nc2⟩
                              refine wpAnyH_take (i := 0) (oi := ⟨_, _, _, _, _, _⟩) (v := ?_) rfl (by kernel_rfl) (by kernel_rfl) (by kernel_rfl) (fun _ _ _ h => h) (Or.inl ⟨by rfl, ?_⟩) (by assumption) ?_
                              rotate_left
                              · intro w hSw; (try dsimp only at hSw); obtain ⟨hs1, hs2, hs3⟩ := hSw; first | (go_simp; done) | (go_simp; with_reducible rfl)
                              try simp only [Act.put, List.setIfInBounds_toArray, List.set_cons_zero, List.set_cons_succ]
                              refine wpAnyH_take (i := 1) (oi := ⟨_, _, _, _, _, _⟩) (v := ?_) rfl (by kernel_rfl) (by kernel_rfl) (by kernel_rfl) (fun _ _ _ h => h) (Or.inl ⟨by rfl, ?_⟩) (by assumption) ?_
                              rotate_left
                              · intro w hSw; (try dsimp only at hSw); obtain ⟨hs1, hs2, hs3⟩ := hSw; first | (go_simp; done) | (go_simp; with_reducible rfl)
                              try simp only [Act.put, List.setIfInBounds_toArray, List.set_cons_zero, List.set_cons_succ]
                              refine wpAnyH_take (i := 2) (oi := ⟨_, _, _, _, _, _⟩) (v := ?_) rfl (by kernel_rfl) (by kernel_rfl) (by kernel_rfl) (fun _ _ _ h => h) (Or.inl ⟨by rfl, ?_⟩) (by assumption) ?_
                              rotate_left
                              · intro w hSw; (try dsimp only at hSw); obtain ⟨hs1, hs2, hs3⟩ := hSw; first | (go_simp; done) | (go_simp; with_reducible rfl)
                              try simp only [Act.put, List.setIfInBounds_toArray, List.set_cons_zero, List.set_cons_succ]
                              refine wpAnyH_ready (rs := [3]) (by kernel_rfl) (by simp) ?_
                              refine AllReadyH.cons (o := ⟨_, _, _, _, _, _⟩) rfl (fun KK hK => ?_) AllReadyH.nil
                              go_simp
                              refine hK.out _ _ ?_ (fun hHeld => ?_)
                              · (try dsimp only); first | exact ⟨cc', v1', v2'⟩ | exact ⟨nc0, nc1, nc2⟩
                              clear hK KK
                              try simp only [Act.put, List.setIfInBounds_toArray, List.set_cons_zero, List.set_cons_succ]
                              refine wpAnyH_take (i := 4) (oi := ⟨_, _, _, _, _, _⟩) (v := ?_) rfl (by kernel_rfl) (by kernel_rfl) (by kernel_rfl) (fun _ _ _ h => h) (Or.inl ⟨by rfl, ?_⟩) (by assumption) ?_
                              rotate_left
                              · intro w hSw; (try dsimp only at hSw); obtain ⟨hs1, hs2, hs3⟩ := hSw; first | (go_simp; done) | (go_simp; with_reducible rfl)
                              try simp only [Act.put, List.setIfInBounds_toArray, List.set_cons_zero, List.set_cons_succ]
                              refine wpAnyH_take (i := 5) (oi := ⟨_, _, _, _, _, _⟩) (v := ?_) rfl (by kernel_rfl) (by kernel_rfl) (by kernel_rfl) (fun _ _ _ h => h) (Or.inl ⟨by rfl, ?_⟩) (by assumption) ?_
                              rotate_left
                              · intro w hSw; (try dsimp only at hSw); obtain ⟨hs1, hs2, hs3⟩ := hSw; first | (go_simp; done) | (go_simp; with_reducible rfl)
                              try simp only [Act.put, List.setIfInBounds_toArray, List.set_cons_zero, List.set_cons_succ]
                              refine wpAnyH_take (i := 6) (oi := ⟨_, _, _, _, _, _⟩) (v := ?_) rfl (by kernel_rfl) (by kernel_rfl) (by kernel_rfl) (fun _ _ _ h => h) (Or.inl ⟨by rfl, ?_⟩) (by assumption) ?_
                              rotate_left
                              · intro w hSw; (try dsimp only at hSw); obtain ⟨hs1, hs2, hs3⟩ := hSw; first | (go_simp; done) | (go_simp; with_reducible rfl)
                              try simp only [Act.put, List.setIfInBounds_toArray, List.set_cons_zero, List.set_cons_succ]
                              refine wpAnyH_take (i := 7) (oi := ⟨_, _, _, _, _, _⟩) (v := ?_) rfl (by kernel_rfl) (by kernel_rfl) (by kernel_rfl) (fun _ _ _ h => h) (Or.inl ⟨by rfl, ?_⟩) (by assumption) ?_
                              rotate_left
                              · intro w hSw; (try dsimp only at hSw); obtain ⟨hs1, hs2, hs3⟩ := hSw; first | (go_simp; done) | (go_simp; with_reducible rfl)
                              try simp only [Act.put, List.setIfInBounds_toArray, List.set_cons_zero, List.set_cons_succ]
                              refine wpAnyH_take (i := 8) (oi := ⟨_, _, _, _, _, _⟩) (v := ?_) rfl (by kernel_rfl) (by kernel_rfl) (by kernel_rfl) (fun _ _ _ h => h) (Or.inl ⟨by rfl, ?_⟩) (by assumption) ?_
                              rotate_left
                              · intro w hSw; (try dsimp only at hSw); obtain ⟨hs1, hs2, hs3⟩ := hSw; first | (go_simp; done) | (go_simp; with_reducible rfl)
                              try simp only [Act.put, List.setIfInBounds_toArray, List.set_cons_zero, List.set_cons_succ]
                              refine wpAnyH_take (i := 9) (oi := ⟨_, _, _, _, _, _⟩) (v := ?_) rfl (by kernel_rfl) (by kernel_rfl) (by kernel_rfl) (fun _ _ _ h => h) (Or.inl ⟨by rfl, ?_⟩) (by assumption) ?_
                              rotate_left
                              · intro w hSw; (try dsimp only at hSw); obtain ⟨hs1, hs2, hs3⟩ := hSw; first | (go_simp; done) | (go_simp; with_reducible rfl)
                              try simp only [Act.put, List.setIfInBounds_toArray, List.set_cons_zero, List.set_cons_succ]
                              refine wpAnyH_take (i := 10) (oi := ⟨_, _, _, _, _, _⟩) (v := ?_) rfl (by kernel_rfl) (by kernel_rfl) (by kernel_rfl) (fun _ _ _ h => h) (Or.inl ⟨by rfl, ?_⟩) (by assumption) ?_
                              rotate_left
                              · intro w hSw; (try dsimp only at hSw); obtain ⟨hs1, hs2, hs3⟩ := hSw; first | (go_simp; done) | (go_simp; with_reducible rfl)
                              try simp only [Act.put, List.setIfInBounds_toArray, List.set_cons_zero, List.set_cons_succ]
                              refine wpAnyH_take (i := 11) (oi := ⟨_, _, _, _, _, _⟩) (v := ?_) rfl (by kernel_rfl) (by kernel_rfl) (by kernel_rfl) (fun _ _ _ h => h) (Or.inl ⟨by rfl, ?_⟩) (by assumption) ?_
                              rotate_left
                              · intro w hSw; (try dsimp only at hSw); obtain ⟨hs1, hs2, hs3⟩ := hSw; first | (go_simp; done) | (go_simp; with_reducible rfl)
                              try simp only [Act.put, List.setIfInBounds_toArray, List.set_cons_zero, List.set_cons_succ]
                              refine wpAnyH_take (i := 12) (oi := ⟨_, _, _, _, _, _⟩) (v := ?_) rfl (by kernel_rfl) (by kernel_rfl) (by kernel_rfl) (fun _ _ _ h => h) (Or.inl ⟨by rfl, ?_⟩) (by assumption) ?_
                              rotate_left
                              · intro w hSw; (try dsimp only at hSw); obtain ⟨hs1, hs2, hs3⟩ := hSw; first | (go_simp; done) | (go_simp; with_reducible rfl)
                              try simp only [Act.put, List.setIfInBounds_toArray, List.set_cons_zero, List.set_cons_succ]
                              refine wpAnyH_take (i := 13) (oi := ⟨_, _, _, _, _, _⟩) (v := ?_) rfl (by kernel_rfl) (by kernel_rfl) (by kernel_rfl) (fun _ _ _ h => h) (Or.inl ⟨by rfl, ?_⟩) (by assumption) ?_
                              rotate_left
                              · intro w hSw; (try dsimp only at hSw); obtain ⟨hs1, hs2, hs3⟩ := hSw; first | (go_simp; done) | (go_simp; with_reducible rfl)
                              try simp only [Act.put, List.setIfInBounds_toArray, List.set_cons_zero, List.set_cons_succ]
                              refine wpAnyH_take (i := 14) (oi := ⟨_, _, _, _, _, _⟩) (v := ?_) rfl (by kernel_rfl) (by kernel_rfl) (by kernel_rfl) (fun _ _ _ h => h) (Or.inl ⟨by rfl, ?_⟩) (by assumption) ?_
                              rotate_left
                              · intro w hSw; (try dsimp only at hSw); obtain ⟨hs1, hs2, hs3⟩ := hSw; first | (go_simp; done) | (go_simp; with_reducible rfl)
                              try simp only [Act.put, List.setIfInBounds_toArray, List.set_cons_zero, List.set_cons_succ]
                              refine wpAnyH_take (i := 15) (oi := ⟨_, _, _, _, _, _⟩) (v := ?_) rfl (by kernel_rfl) (by kernel_rfl) (by kernel_rfl) (fun _ _ _ h => h) (Or.inl ⟨by rfl, ?_⟩) (by assumption) ?_
                              rotate_left
                              · intro w hSw; (try dsimp only at hSw); obtain ⟨hs1, hs2, hs3⟩ := hSw; first | (go_simp; done) | (go_simp; with_reducible rfl)
                              try simp only [Act.put, List.setIfInBounds_toArray, List.set_cons_zero, List.set_cons_succ]
                              refine wpAnyH_take (i := 16) (oi := ⟨_, _, _, _, _, _⟩) (v := ?_) rfl (by kernel_rfl) (by kernel_rfl) (by kernel_rfl) (fun _ _ _ h => h) (Or.inl ⟨by rfl, ?_⟩) (by assumption) ?_
                              rotate_left
                              · intro w hSw; (try dsimp only at hSw); obtain ⟨hs1, hs2, hs3⟩ := hSw; first | (go_simp; done) | (go_simp; with_reducible rfl)
                              try simp only [Act.put, List.setIfInBounds_toArray, List.set_cons_zero, List.set_cons_succ]
                              refine wpAnyH_take (i := 17) (oi := ⟨_, _, _, _, _, _⟩) (v := ?_) rfl (by kernel_rfl) (by kernel_rfl) (by kernel_rfl) (fun _ _ _ h => h) (Or.inl ⟨by rfl, ?_⟩) (by assumption) ?_
                              rotate_left
                              · intro w hSw; (try dsimp only at hSw); obtain ⟨hs1, hs2, hs3⟩ := hSw; first | (go_simp; done) | (go_simp; with_reducible rfl)
                              try simp only [Act.put, List.setIfInBounds_toArray, List.set_cons_zero, List.set_cons_succ]
                              refine wpAnyH_take (i := 18) (oi := ⟨_, _, _, _, _, _⟩) (v := ?_) rfl (by kernel_rfl) (by kernel_rfl) (by kernel_rfl) (fun _ _ _ h => h) (Or.inl ⟨by rfl, ?_⟩) (by assumption) ?_
                              rotate_left
                              · intro w hSw; (try dsimp only at hSw); obtain ⟨hs1, hs2, hs3⟩ := hSw; first | (go_simp; done) | (go_simp; with_reducible rfl)
                              try simp only [Act.put, List.setIfInBounds_toArray, List.set_cons_zero, List.set_cons_succ]
                              refine wpAnyH_take (i := 19) (oi := ⟨_, _, _, _, _, _⟩) (v := ?_) rfl (by kernel_rfl) (by kernel_rfl) (by kernel_rfl) (fun _ _ _ h => h) (Or.inl ⟨by rfl, ?_⟩) (by assumption) ?_
                              rotate_left
                              · intro w hSw; (try dsimp only at hSw); obtain ⟨hs1, hs2, hs3⟩ := hSw; first | (go_simp; done) | (go_simp; with_reducible rfl)
                              try simp only [Act.put, List.setIfInBounds_toArray, List.set_cons_zero, List.set_cons_succ]
                              refine wpAnyH_take (i := 20) (oi := ⟨_, _, _, _, _, _⟩) (v := ?_) rfl (by kernel_rfl) (by kernel_rfl) (by kernel_rfl) (fun _ _ _ h => h) (Or.inl ⟨by rfl, ?_⟩) (by assumption) ?_
                              rotate_left
                              · intro w hSw; (try dsimp only at hSw); obtain ⟨hs1, hs2, hs3⟩ := hSw; first | (go_simp; done) | (go_simp; with_reducible rfl)
                              try simp only [Act.put, List.setIfInBounds_toArray, List.set_cons_zero, List.set_cons_succ]
                              refine wpAnyH_take (i := 21) (oi := ⟨_, _, _, _, _, _⟩) (v := ?_) rfl (by kernel_rfl) (by kernel_rfl) (by kernel_rfl) (fun _ _ _ h => h) (Or.inl ⟨by rfl, ?_⟩) (by assumption) ?_
                              rotate_left
                              · intro w hSw; (try dsimp only at hSw); obtain ⟨hs1, hs2, hs3⟩ := hSw; first | (go_simp; done) | (go_simp; with_reducible rfl)
                              try simp only [Act.put, List.setIfInBounds_toArray, List.set_cons_zero, List.set_cons_succ]
                              refine wpAnyH_take (i := 22) (oi := ⟨_, _, _, _, _, _⟩) (v := ?_) rfl (by kernel_rfl) (by kernel_rfl) (by kernel_rfl) (fun _ _ _ h => h) (Or.inl ⟨by rfl, ?_⟩) (by assumption) ?_
                              rotate_left
                              · intro w hSw; (try dsimp only at hSw); obtain ⟨hs1, hs2, hs3⟩ := hSw; first | (go_simp; done) | (go_simp; with_reducible rfl)
                              try simp only [Act.put, List.setIfInBounds_toArray, List.set_cons_zero, List.set_cons_succ]
                              refine wpAnyH_ready (rs := [23]) (by kernel_rfl) (by simp) ?_
                              refine AllReadyH.cons (o := ⟨_, _, _, _, _, _⟩) rfl (fun KK hK => ?_) AllReadyH.nil
                              go_simp
                              go_at_call 74
                              refine (HHij.out _).mono ?_
                              rintro e' w6 ⟨rfl, rfl⟩
                              try go_wp2_with fail
                              refine hK.out _ _ ?_ (fun hHeld => ?_)
                              · (try dsimp only); first | exact ⟨cc', v1', v2'⟩ | exact ⟨nc0, nc1, nc2⟩
                              clear hK KK
                              try simp only [Act.put, List.setIfInBounds_toArray, List.set_cons_zero, List.set_cons_succ]
                              refine wpAnyH_take (i := 24) (oi := ⟨_, _, _, _, _, _⟩) (v := ?_) rfl (by kernel_rfl) (by kernel_rfl) (by kernel_rfl) (fun _ _ _ h => h) (Or.inl ⟨by rfl, ?_⟩) (by assumption) ?_
                              rotate_left
                              · intro w hSw; (try dsimp only at hSw); obtain ⟨hs1, hs2, hs3⟩ := hSw; first | (go_simp; done) | (go_simp; with_reducible rfl)
                              try simp only [Act.put, List.setIfInBounds_toArray, List.set_cons_zero, List.set_cons_succ]
                              refine wpAnyH_take (i := 25) (oi := ⟨_, _, _, _, _, _⟩) (v := ?_) rfl (by kernel_rfl) (by kernel_rfl) (by kernel_rfl) (fun _ _ _ h => h) (Or.inl ⟨by rfl, ?_⟩) (by assumption) ?_
                              rotate_left
                              · intro w hSw; (try dsimp only at hSw); obtain ⟨hs1, hs2, hs3⟩ := hSw; first | (go_simp; done) | (go_simp; with_reducible rfl)
                              try simp only [Act.put, List.setIfInBounds_toArray, List.set_cons_zero, List.set_cons_succ]
                              refine wpAnyH_ready (rs := [26]) (by kernel_rfl) (by simp) ?_
                              refine AllReadyH.cons (o := ⟨_, _, _, _, _, _⟩) rfl (fun KK hK => ?_) AllReadyH.nil
                              go_simp
                              refine hK.out _ _ ?_ (fun hHeld => ?_)
                              · (try dsimp only); first | exact ⟨cc', v1', v2'⟩ | exact ⟨nc0, nc1, nc2⟩
                              clear hK KK
                              try simp only [Act.put, List.setIfInBounds_toArray, List.set_cons_zero, List.set_cons_succ]
                              refine wpAnyH_done (by kernel_rfl) ?_ _
                              refine NoPanic.normal ?_
                              all_goals
                                clear a1 a2 a3 b1 b2' b3 HHij vw1 vw2
                                go_wp2_with fail
                                exact ⟨⟨j + 1, by omega, by go_num, (by rw [HT2.out]; exact nA.out _), nB.out _⟩, by simp [intOf]; omega⟩
                            | false =>
                              have e2 : t2 = false := by have := NXT.out; simpa using this
                              subst e2
                              clear NXT
                              have my' : wr.drew.cell? ⟨gi, 1, none⟩ = some (.bool false) := my
                              go_upto_region 27 with (fail)
                              refine wp_region_noPanic ?_
                              refine wp_region_held_drew (S := fun w' => True) (by kernel_rfl) ?_ (fun hHeld => ?_)
                              · trivial
                              refine wpAnyH_take (i := 0) (oi := ⟨_, _, _, _, _, _⟩) (v := ?_) rfl (by kernel_rfl) (by kernel_rfl) (by kernel_rfl) (fun _ _ _ h => h) (Or.inl ⟨by rfl, ?_⟩) (by assumption) ?_
                              rotate_left
                              · intro w hSw; (try dsimp only at hSw); first | (go_simp; done) | (go_simp; with_reducible rfl)
                              try simp only [Act.put, List.setIfInBounds_toArray, List.set_cons_zero, List.set_cons_succ]
                              refine wpAnyH_take (i := 1) (oi := ⟨_, _, _, _, _, _⟩) (v := ?_) rfl (by kernel_rfl) (by kernel_rfl) (by kernel_rfl) (fun _ _ _ h => h) (Or.inl ⟨by rfl, ?_⟩) (by assumption) ?_
                              rotate_left
                              · intro w hSw; (try dsimp only at hSw); first | (go_simp; done) | (go_simp; with_reducible rfl)
                              try simp only [Act.put, List.setIfInBounds_toArray, List.set_cons_zero, List.set_cons_succ]
                              refine wpAnyH_take (i := 2) (oi := ⟨_, _, _, _, _, _⟩) (v := ?_) rfl (by kernel_rfl) (by kernel_rfl) (by kernel_rfl) (fun _ _ _ h => h) (Or.inl ⟨by rfl, ?_⟩) (by assumption) ?_
                              rotate_left
                              · intro w hSw; (try dsimp only at hSw); first | (go_simp; done) | (go_simp; with_reducible rfl)
                              try simp only [Act.put, List.setIfInBounds_toArray, List.set_cons_zero, List.set_cons_succ]
                              refine wpAnyH_ready (rs := [3]) (by kernel_rfl) (by simp) ?_
                              refine AllReadyH.cons (o := ⟨_, _, _, _, _, _⟩) rfl (fun KK hK => ?_) AllReadyH.nil
                              go_simp
                              refine hK.out _ _ ?_ (fun hHeld => ?_)
                              · trivial
                              clear hK KK
                              try simp only [Act.put, List.setIfInBounds_toArray, List.set_cons_zero, List.set_cons_succ]
                              refine wpAnyH_take (i := 4) (oi := ⟨_, _, _, _, _, _⟩) (v := ?_) rfl (by kernel_rfl) (by kernel_rfl) (by kernel_rfl) (fun _ _ _ h => h) (Or.inl ⟨by rfl, ?_⟩) (by assumption) ?_
                              rotate_left
                              · intro w hSw; (try dsimp only at hSw); first | (go_simp; done) | (go_simp; with_reducible rfl)
                              try simp only [Act.put, List.setIfInBounds_toArray, List.set_cons_zero, List.set_cons_succ]
                              refine wpAnyH_take (i := 5) (oi := ⟨_, _, _, _, _, _⟩) (v := undef) rfl (by kernel_rfl) (by kernel_rfl) (by kernel_rfl) (fun _ _ _ h => h) (Or.inr ⟨by rfl, rfl⟩) (by assumption) ?_
                              try simp only [Act.put, List.setIfInBounds_toArray, List.set_cons_zero, List.set_cons_succ]
                              refine wpAnyH_take (i := 6) (oi := ⟨_, _, _, _, _, _⟩) (v := undef) rfl (by kernel_rfl) (by kernel_rfl) (by kernel_rfl) (fun _ _ _ h => h) (Or.inr ⟨by rfl, rfl⟩) (by assumption) ?_
                              try simp only [Act.put, List.setIfInBounds_toArray, List.set_cons_zero, List.set_cons_succ]
                              refine wpAnyH_take (i := 7) (oi := ⟨_, _, _, _, _, _⟩) (v := undef) rfl (by kernel_rfl) (by kernel_rfl) (by kernel_rfl) (fun _ _ _ h => h) (Or.inr ⟨by rfl, rfl⟩) (by assumption) ?_
                              try simp only [Act.put, List.setIfInBounds_toArray, List.set_cons_zero, List.set_cons_succ]
                              refine wpAnyH_take (i := 8) (oi := ⟨_, _, _, _, _, _⟩) (v := undef) rfl (by kernel_rfl) (by kernel_rfl) (by kernel_rfl) (fun _ _ _ h => h) (Or.inr ⟨by rfl, rfl⟩) (by assumption) ?_
                              try simp only [Act.put, List.setIfInBounds_toArray, List.set_cons_zero, List.set_cons_succ]
                              refine wpAnyH_take (i := 9) (oi := ⟨_, _, _, _, _, _⟩) (v := undef) rfl (by kernel_rfl) (by kernel_rfl) (by kernel_rfl) (fun _ _ _ h => h) (Or.inr ⟨by rfl, rfl⟩) (by assumption) ?_
                              try simp only [Act.put, List.setIfInBounds_toArray, List.set_cons_zero, List.set_cons_succ]
                              refine wpAnyH_take (i := 10) (oi := ⟨_, _, _, _, _, _⟩) (v := undef) rfl (by kernel_rfl) (by kernel_rfl) (by kernel_rfl) (fun _ _ _ h => h) (Or.inr ⟨by rfl, rfl⟩) (by assumption) ?_
                              try simp only [Act.put, List.setIfInBounds_toArray, List.set_cons_zero, List.set_cons_succ]
                              refine wpAnyH_take (i := 11) (oi := ⟨_, _, _, _, _, _⟩) (v := undef) rfl (by kernel_rfl) (by kernel_rfl) (by kernel_rfl) (fun _ _ _ h => h) (Or.inr ⟨by rfl, rfl⟩) (by assumption) ?_
                              try simp only [Act.put, List.setIfInBounds_toArray, List.set_cons_zero, List.set_cons_succ]
                              refine wpAnyH_take (i := 12) (oi := ⟨_, _, _, _, _, _⟩) (v := undef) rfl (by kernel_rfl) (by kernel_rfl) (by kernel_rfl) (fun _ _ _ h => h) (Or.inr ⟨by rfl, rfl⟩) (by assumption) ?_
                              try simp only [Act.put, List.setIfInBounds_toArray, List.set_cons_zero, List.set_cons_succ]
                              refine wpAnyH_take (i := 13) (oi := ⟨_, _, _, _, _, _⟩) (v := undef) rfl (by kernel_rfl) (by kernel_rfl) (by kernel_rfl) (fun _ _ _ h => h) (Or.inr ⟨by rfl, rfl⟩) (by assumption) ?_
                              try simp only [Act.put, List.setIfInBounds_toArray, List.set_cons_zero, List.set_cons_succ]
                              refine wpAnyH_take (i := 14) (oi := ⟨_, _, _, _, _, _⟩) (v := undef) rfl (by kernel_rfl) (by kernel_rfl) (by kernel_rfl) (fun _ _ _ h => h) (Or.inr ⟨by rfl, rfl⟩) (by assumption) ?_
                              try simp only [Act.put, List.setIfInBounds_toArray, List.set_cons_zero, List.set_cons_succ]
                              refine wpAnyH_take (i := 15) (oi := ⟨_, _, _, _, _, _⟩) (v := undef) rfl (by kernel_rfl) (by kernel_rfl) (by kernel_rfl) (fun _ _ _ h => h) (Or.inr ⟨by rfl, rfl⟩) (by assumption) ?_
                              try simp only [Act.put, List.setIfInBounds_toArray, List.set_cons_zero, List.set_cons_succ]
                              refine wpAnyH_take (i := 16) (oi := ⟨_, _, _, _, _, _⟩) (v := undef) rfl (by kernel_rfl) (by kernel_rfl) (by kernel_rfl) (fun _ _ _ h => h) (Or.inr ⟨by rfl, rfl⟩) (by assumption) ?_
                              try simp only [Act.put, List.setIfInBounds_toArray, List.set_cons_zero, List.set_cons_succ]
                              refine wpAnyH_take (i := 17) (oi := ⟨_, _, _, _, _, _⟩) (v := undef) rfl (by kernel_rfl) (by kernel_rfl) (by kernel_rfl) (fun _ _ _ h => h) (Or.inr ⟨by rfl, rfl⟩) (by assumption) ?_
                              try simp only [Act.put, List.setIfInBounds_toArray, List.set_cons_zero, List.set_cons_succ]
                              refine wpAnyH_take (i := 18) (oi := ⟨_, _, _, _, _, _⟩) (v := undef) rfl (by kernel_rfl) (by kernel_rfl) (by kernel_rfl) (fun _ _ _ h => h) (Or.inr ⟨by rfl, rfl⟩) (by assumption) ?_
                              try simp only [Act.put, List.setIfInBounds_toArray, List.set_cons_zero, List.set_cons_succ]
                              refine wpAnyH_take (i := 19) (oi := ⟨_, _, _, _, _, _⟩) (v := undef) rfl (by kernel_rfl) (by kernel_rfl) (by kernel_rfl) (fun _ _ _ h => h) (Or.inr ⟨by rfl, rfl⟩) (by assumption) ?_
                              try simp only [Act.put, List.setIfInBounds_toArray, List.set_cons_zero, List.set_cons_succ]
                              refine wpAnyH_take (i := 20) (oi := ⟨_, _, _, _, _, _⟩) (v := undef) rfl (by kernel_rfl) (by kernel_rfl) (by kernel_rfl) (fun _ _ _ h => h) (Or.inr ⟨by rfl, rfl⟩) (by assumption) ?_
                              try simp only [Act.put, List.setIfInBounds_toArray, List.set_cons_zero, List.set_cons_succ]
                              refine wpAnyH_take (i := 21) (oi := ⟨_, _, _, _, _, _⟩) (v := undef) rfl (by kernel_rfl) (by kernel_rfl) (by kernel_rfl) (fun _ _ _ h => h) (Or.inr ⟨by rfl, rfl⟩) (by assumption) ?_
                              try simp only [Act.put, List.setIfInBounds_toArray, List.set_cons_zero, List.set_cons_succ]
                              refine wpAnyH_take (i := 22) (oi := ⟨_, _, _, _, _, _⟩) (v := undef) rfl (by kernel_rfl) (by kernel_rfl) (by kernel_rfl) (fun _ _ _ h => h) (Or.inr ⟨by rfl, rfl⟩) (by assumption) ?_
                              try simp only [Act.put, List.setIfInBounds_toArray, List.set_cons_zero, List.set_cons_succ]
                              refine wpAnyH_take (i := 23) (oi := ⟨_, _, _, _, _, _⟩) (v := undef) rfl (by kernel_rfl) (by kernel_rfl) (by kernel_rfl) (fun _ _ _ h => h) (Or.inr ⟨by rfl, rfl⟩) (by assumption) ?_
                              try simp only [Act.put, List.setIfInBounds_toArray, List.set_cons_zero, List.set_cons_succ]
                              refine wpAnyH_take (i := 24) (oi := ⟨_, _, _, _, _, _⟩) (v := ?_) rfl (by kernel_rfl) (by kernel_rfl) (by kernel_rfl) (fun _ _ _ h => h) (Or.inl ⟨by rfl, ?_⟩) (by assumption) ?_
                              rotate_left
                              · intro w hSw; (try dsimp only at hSw); first | (go_simp; done) | (go_simp; with_reducible rfl)
                              try simp only [Act.put, List.setIfInBounds_toArray, List.set_cons_zero, List.set_cons_succ]
                              refine wpAnyH_take (i := 25) (oi := ⟨_, _, _, _, _, _⟩) (v := ?_) rfl (by kernel_rfl) (by kernel_rfl) (by kernel_rfl) (fun _ _ _ h => h) (Or.inl ⟨by rfl, ?_⟩) (by assumption) ?_
                              rotate_left
                              · intro w hSw; (try dsimp only at hSw); first | (go_simp; done) | (go_simp; with_reducible rfl)
                              try simp only [Act.put, List.setIfInBounds_toArray, List.set_cons_zero, List.set_cons_succ]
                              refine wpAnyH_ready (rs := [26]) (by kernel_rfl) (by simp) ?_
                              refine AllReadyH.cons (o := ⟨_, _, _, _, _, _⟩) rfl (fun KK hK => ?_) AllReadyH.nil
                              go_simp
                              refine hK.out _ _ ?_ (fun hHeld => ?_)
                              · trivial
                              clear hK KK
                              try simp only [Act.put, List.setIfInBounds_toArray, List.set_cons_zero, List.set_cons_succ]
                              refine wpAnyH_done (by kernel_rfl) ?_ _
                              refine NoPanic.normal ?_
                              all_goals
                                clear a1 a2 a3 b1 b2' b3 HHij vw1 vw2
                                go_wp2_with fail
                                exact ⟨⟨j + 1, by omega, by go_num, (by rw [HT2.out]; exact nA.out _), nB.out _⟩, by simp [intOf]; omega⟩
                          · have cj1 : ¬ ((j : Int) ≤ (N : Int)) := by omega
                            have ej : i * (N + 1) + j = (i + 1) * (N + 1) := by rw [Nat.add_mul, Nat.one_mul]; omega
                            have F8 : Hid (Ask wr gi gv N 1 (inA N c1 (VK l0 l1 1) ((i + 1) * (N + 1))) u (VK l0 l1 1)) := by rw [← ej]; exact hA
                            clear ej hA
                            go_wp2_with fail
                            go_roundw
                            case rel => exact ⟨i + 1, by omega, by go_num, F8, hB7⟩
                            case measure => first | (simp [intOf]; done) | (simp [intOf]; omega)
                      · have ci1 : ¬ ((i : Int) ≤ (N : Int)) := by omega
                        have ei : i * (N + 1) = m := by rw [show i = N + 1 by omega]; exact HEnd.out
                        have hA2 := hA.out
                        rw [ei, SAME.out 1, ← HT0.out] at hA2
                        have lt := World.block_lt_of_cell? _ _ hA2.mine
                        have c0' : Hid (wr.cell? ⟨gi, 0, none⟩ = some (.bool (if 1 ≤ 1 + 1 then T0 else true))) := by
                          show _ = _
                          rw [if_pos (by omega)]
                          have := hA2.other; rw [OTH.out.1 (by first | rfl | trivial)] at this; exact this
                        have c1' : Hid (wr.cell? ⟨gi, 1, none⟩ = some (.bool (if 2 ≤ 1 + 1 then T0 else true))) := by
                          show _ = _
                          rw [if_pos (by omega)]; exact hA2.mine
                        have fr' := hideD hA2.free
                        have lt' := hideD lt
                        clear ei hA hA2 lt HH IN HPl HMul
                        go_wp2_with fail
                        go_roundw
                        case rel => exact ⟨1 + 1, by omega, by go_num, c0', c1', fr', lt', hB6⟩
                        case measure => first | (simp [intOf]; done) | (simp [intOf]; omega)
                · have k3 : ¬ ((K : Int) = 1) := by omega
                  have ASK : Hid (Ask wr gi gv N K true u (VK l0 l1 K)) := full.out.congr fun j hj => by unfold VK; rw [if_pos (by omega)]
                  have BB6 := hB6
                  clear full hB6
                  go_upto_region 21 with (fail)
                  clear xc yc
                  have F0 : Hid (Ask wr gi gv N K (inA N c1 (VK l0 l1 K) (0 * (N + 1))) u (VK l0 l1 K)) := by rw [Nat.zero_mul]; exact ASK
                  clear ASK
                  go_wp2_with fail
                  go_loopw [16] (fun s w6 => ∃ (i : Nat), i ≤ N + 1 ∧ s = .int .i64 (i : Int) ∧ Hid (Ask w6 gi gv N K (inA N c1 (VK l0 l1 K) (i * (N + 1))) u (VK l0 l1 K)) ∧ Hid (Below w3.heap.size w3 w6)) (fun s _ => N + 1 - (intOf s).toNat)
                  case atStart => exact ⟨0, by omega, rfl, F0, BB6⟩
                  case round =>
                    obtain ⟨i, hi, rfl, hA, hB6⟩ := hrel
                    clear F0 BB6
                    by_cases ci : i ≤ N
                    · have ci1 : (i : Int) ≤ (N : Int) := by omega
                      have F1 : Hid (Ask wr gi gv N K (inA N c1 (VK l0 l1 K) (i * (N + 1) + 0)) u (VK l0 l1 K)) := hA.out
                      clear hA
                      go_wp2_with fail
                      go_loopw [17] (fun s w6 => ∃ (j : Nat), j ≤ N + 1 ∧ s = .int .i64 (j : Int) ∧ Hid (Ask w6 gi gv N K (inA N c1 (VK l0 l1 K) (i * (N + 1) + j)) u (VK l0 l1 K)) ∧ Hid (Below w3.heap.size w3 w6)) (fun s _ => N + 1 - (intOf s).toNat)
                      case atStart => exact ⟨0, by omega, rfl, F1, hB6⟩
                      case round =>
                        obtain ⟨j, hj, rfl, hA, hB7⟩ := hrel
                        clear F1 hB6
                        by_cases cj : j ≤ N
                        · have cj1 : (j : Int) ≤ (N : Int) := by omega
                          obtain ⟨pl, pd, pm⟩ := HPl.out i j ci cj
                          have nx := IN.out K (i * (N + 1) + j)
                          rw [pd, pm] at nx
                          have A1 := hideD (HMul.out i)
                          have HHij := hideD (fun w' => HH.out (i * (N + 1) + j) K i j w' ci cj)
                          have cc := kc _ _ hB7.out (hcc.out _ pl)
                          have v1 := hA.out.vals i ci
                          have v2 := hA.out.vals j cj
                          have my := hA.out.mine
                          have fr := hA.out.free K
                          have bi := BD.out K i
                          have bj := BD.out K j
                          have nA : Hid (∀ b, Ask ((wr.setCell ⟨gi, K, none⟩ (.bool b)).drew) gi gv N K b u (VK l0 l1 K)) := fun b => (hA.out.set (by omega) b).drew
                          have nB : Hid (∀ b : Bool, Below w3.heap.size w3 ((wr.setCell ⟨gi, K, none⟩ (.bool b)).drew)) := fun b => (hB7.out.setCell (p := ⟨gi, K, none⟩) (show w3.heap.size ≤ gi by have := HGI.out; omega) _).drew
                          have NC0 : Hid (∀ x : Bool, ((wr.setCell ⟨gi, K, none⟩ (.bool x)).drew).cell? ⟨gc, i * (N + 1) + j, none⟩ = some (.int .i32 (c1 (i * (N + 1) + j)))) := fun x => by
                            show (wr.setCell _ _).cell? _ = _
                            have gcl := World.block_lt_of_cell? _ _ (hcc.out _ pl)
                            have gne : ¬ gc = gi := by have := HGI.out; have h3 : gc < w3.heap.size := gcl; omega
                            rw [World.cell?_setCell_other _ _ _ _ (by intro e; injection e; omega)]
                            exact cc
                          have NC1 : Hid (∀ x : Bool, ((wr.setCell ⟨gi, K, none⟩ (.bool x)).drew).cell? ⟨gv, i, none⟩ = some (.int .i64 (VK l0 l1 K i))) := fun x => (nA.out x).vals i ci
                          have NC2 : Hid (∀ x : Bool, ((wr.setCell ⟨gi, K, none⟩ (.bool x)).drew).cell? ⟨gv, j, none⟩ = some (.int .i64 (VK l0 l1 K j))) := fun x => (nA.out x).vals j cj
                          have NX := hideD nx
                          generalize inA N c1 (VK l0 l1 K) (i * (N + 1) + j) = t at *
                          generalize i * (N + 1) = A at *
                          have s1 : A ≤ 1000000 := by omega
                          have s2 : A + j ≤ 1000000 := by omega
                          have s3 : N + 1 ≤ 1000000 := by omega
                          have E1 : Hid (wrap64 ((N : Int) + 1) = (N : Int) + 1) := wrap_small (k := N + 1) s3
                          have E2 : Hid (wrap64 ((i : Int) * ((N : Int) + 1)) = (A : Int)) := by show _ = _; rw [A1.out]; exact wrap_small s1
                          have E3 : Hid (wrap64 ((A : Int) + (j : Int)) = ((A + j : Nat) : Int)) := wrap_small (k := A + j) s2
                          have D1 : Hid (IntKind.i64.wrap ((N : Int) + 1) = (N : Int) + 1) := wrap_smallK (k := N + 1) s3
                          have D2 : Hid (IntKind.i64.wrap ((i : Int) * ((N : Int) + 1)) = (A : Int)) := by show _ = _; rw [A1.out]; exact wrap_smallK s1
                          have D3 : Hid (IntKind.i64.wrap ((A : Int) + (j : Int)) = ((A + j : Nat) : Int)) := wrap_smallK (k := A + j) s2
                          have pl1 : ((A + j : Nat) : Int) < (m : Int) := by omega
                          have NXT : Hid (inA N c1 (VK l0 l1 K) (A + (j + 1)) = (t && holdsB (c1 (A + j)) (VK l0 l1 K i - VK l0 l1 K j) 2)) := by rw [← Nat.add_assoc]; exact nx
                          generalize hT2 : inA N c1 (VK l0 l1 K) (A + (j + 1)) = t2 at *
                          have HT2 := hideD hT2
                          clear hT2
                          generalize holdsB (c1 (A + j)) (VK l0 l1 K i - VK l0 l1 K j) 2 = hb2 at *
                          generalize c1 (A + j) = b2 at *
                          have W1 : Hid (wrap64 (VK l0 l1 K i - VK l0 l1 K j) = VK l0 l1 K i - VK l0 l1 K j) := by show _ = _; unfold wrap64; omega
                          have W2 : Hid (IntKind.i64.wrap (VK l0 l1 K i - VK l0 l1 K j) = VK l0 l1 K i - VK l0 l1 K j) := by show _ = _; rw [IntKind.wrap_i64]; omega
                          generalize VK l0 l1 K i = vi at *
                          generalize VK l0 l1 K j = vj at *
                          have vw1 := W1.out
                          have vw2 := W2.out
                          generalize hP : A + j = P at *
                          clear hP s1 s2 s3 hA hB7 HPl HEnd HMul HH IN SAME BD I0 I1 M0 M1 HV INC nx A1 pl pd pm bi bj NX W1 W2 hcc
                          have i0' : (0 : Int) ≤ (i : Int) := by omega
                          have j0' : (0 : Int) ≤ (j : Int) := by omega
                          have i9 : (i : Int) < (N : Int) + 1 := by omega
                          have j9 : (j : Int) < (N : Int) + 1 := by omega
                          have a1 := E1.out
                          have a2 := E2.out
                          have a3 := E3.out
                          have b1 := D1.out
                          have b2' := D2.out
                          have b3 := D3.out
                          clear E1 E2 E3 D1 D2 D3
                          cases t with
                          | true =>
                            have e2 : t2 = hb2 := by have := NXT.out; simpa using this
                            subst e2
                            clear NXT
                            have my' : wr.drew.cell? ⟨gi, K, none⟩ = some (.bool true) := my
                            have cc' : wr.drew.cell? ⟨gc, P, none⟩ = some (.int .i32 b2) := cc
                            have v1' : wr.drew.cell? ⟨gv, i, none⟩ = some (.int .i64 vi) := v1
                            have v2' : wr.drew.cell? ⟨gv, j, none⟩ = some (.int .i64 vj) := v2
                            have nc0 : ((wr.setCell ⟨gi, K, none⟩ (.bool t2)).drew).cell? ⟨gc, P, none⟩ = some (.int .i32 b2) := NC0.out t2
                            have nc1 : ((wr.setCell ⟨gi, K, none⟩ (.bool t2)).drew).cell? ⟨gv, i, none⟩ = some (.int .i64 vi) := NC1.out t2
                            have nc2 : ((wr.setCell ⟨gi, K, none⟩ (.bool t2)).drew).cell? ⟨gv, j, none⟩ = some (.int .i64 vj) := NC2.out t2
                            go_upto_region 27 with (fail)
                            refine wp_region_noPanic ?_
                            refine wp_region_held_drew (S := fun w' => w'.cell? ⟨gc, P, none⟩ = some (.int .i32 b2) ∧ w'.cell? ⟨gv, i, none⟩ = some (.int .i64 vi) ∧ w'.cell? ⟨gv, j, none⟩ = some (.int .i64 vj)) (by kernel_rfl) ?_ (fun hHeld => ?_)
                            · (try dsimp only); first | exact ⟨cc', v1', v2'⟩ | exact ⟨nc0, nc1, nc2⟩
                            refine wpAnyH_take (i := 0) (oi := ⟨_, _, _, _, _, _⟩) (v := ?_) rfl (by kernel_rfl) (by kernel_rfl) (by kernel_rfl) (fun _ _ _ h => h) (Or.inl ⟨by rfl, ?_⟩) (by assumption) ?_
                            rotate_left
                            · intro w hSw; (try dsimp only at hSw); obtain ⟨hs1, hs2, hs3⟩ := hSw; first | (go_simp; done) | (go_simp; with_reducible rfl)
                            try simp only [Act.put, List.setIfInBounds_toArray, List.set_cons_zero, List.set_cons_succ]
                            refine wpAnyH_take (i := 1) (oi := ⟨_, _, _, _, _, _⟩) (v := ?_) rfl (by kernel_rfl) (by kernel_rfl) (by kernel_rfl) (fun _ _ _ h => h) (Or.inl ⟨by rfl, ?_⟩) (by assumption) ?_
                            rotate_left
                            · intro w hSw; (try dsimp only at hSw); obtain ⟨hs1, hs2, hs3⟩ := hSw; first | (go_simp; done) | (go_simp; with_reducible rfl)
                            try simp only [Act.put, List.setIfInBounds_toArray, List.set_cons_zero, List.set_cons_succ]
                            refine wpAnyH_take (i := 2) (oi := ⟨_, _, _, _, _, _⟩) (v := ?_) rfl (by kernel_rfl) (by kernel_rfl) (by kernel_rfl) (fun _ _ _ h => h) (Or.inl ⟨by rfl, ?_⟩) (by assumption) ?_
                            rotate_left
                            · intro w hSw; (try dsimp only at hSw); obtain ⟨hs1, hs2, hs3⟩ := hSw; first | (go_simp; done) | (go_simp; with_reducible rfl)
                            try simp only [Act.put, List.setIfInBounds_toArray, List.set_cons_zero, List.set_cons_succ]
                            refine wpAnyH_ready (rs := [3]) (by kernel_rfl) (by simp) ?_
                            refine AllReadyH.cons (o := ⟨_, _, _, _, _, _⟩) rfl (fun KK hK => ?_) AllReadyH.nil
                            go_simp
                            refine hK.out _ _ ?_ (fun hHeld => ?_)
                            · (try dsimp only); first | exact ⟨cc', v1', v2'⟩ | exact ⟨nc0, nc1, nc2⟩
                            clear hK KK
                            try simp only [Act.put, List.setIfInBounds_toArray, List.set_cons_zero, List.set_cons_succ]
                            refine wpAnyH_take (i := 4) (oi := ⟨_, _, _, _, _, _⟩) (v := ?_) rfl (by kernel_rfl) (by kernel_rfl) (by kernel_rfl) (fun _ _ _ h => h) (Or.inl ⟨by rfl, ?_⟩) (by assumption) ?_
                            rotate_left
                            · intro w hSw; (try dsimp only at hSw); obtain ⟨hs1, hs2, hs3⟩ := hSw; first | (go_simp; done) | (go_simp; with_reducible rfl)
                            try simp only [Act.put, List.setIfInBounds_toArray, List.set_cons_zero, List.set_cons_succ]
                            refine wpAnyH_take (i := 5) (oi := ⟨_, _, _, _, _, _⟩) (v := ?_) rfl (by kernel_rfl) (by kernel_rfl) (by kernel_rfl) (fun _ _ _ h => h) (Or.inl ⟨by rfl, ?_⟩) (by assumption) ?_
                            rotate_left
                            · intro w hSw; (try dsimp only at hSw); obtain ⟨hs1, hs2, hs3⟩ := hSw; first | (go_simp; done) | (go_simp; with_reducible rfl)
                            try simp only [Act.put, List.setIfInBounds_toArray, List.set_cons_zero, List.set_cons_succ]
                            refine wpAnyH_take (i := 6) (oi := ⟨_, _, _, _, _, _⟩) (v := ?_) rfl (by kernel_rfl) (by kernel_rfl) (by kernel_rfl) (fun _ _ _ h => h) (Or.inl ⟨by rfl, ?_⟩) (by assumption) ?_
                            rotate_left
                            · intro w hSw; (try dsimp only at hSw); obtain ⟨hs1, hs2, hs3⟩ := hSw; first | (go_simp; done) | (go_simp; with_reducible rfl)
                            try simp only [Act.put, List.setIfInBounds_toArray, List.set_cons_zero, List.set_cons_succ]
                            refine wpAnyH_take (i := 7) (oi := ⟨_, _, _, _, _, _⟩) (v := ?_) rfl (by kernel_rfl) (by kernel_rfl) (by kernel_rfl) (fun _ _ _ h => h) (Or.inl ⟨by rfl, ?_⟩) (by assumption) ?_
                            rotate_left
                            · intro w hSw; (try dsimp only at hSw); obtain ⟨hs1, hs2, hs3⟩ := hSw; first | (go_simp; done) | (go_simp; with_reducible rfl)
                            try simp only [Act.put, List.setIfInBounds_toArray, List.set_cons_zero, List.set_cons_succ]
                            refine wpAnyH_take (i := 8) (oi := ⟨_, _, _, _, _, _⟩) (v := ?_) rfl (by kernel_rfl) (by kernel_rfl) (by kernel_rfl) (fun _ _ _ h => h) (Or.inl ⟨by rfl, ?_⟩) (by assumption) ?_
                            rotate_left
                            · intro w hSw; (try dsimp only at hSw); obtain ⟨hs1, hs2, hs3⟩ := hSw; first | (go_simp; done) | (go_simp; with_reducible rfl)
                            try simp only [Act.put, List.setIfInBounds_toArray, List.set_cons_zero, List.set_cons_succ]
                            refine wpAnyH_take (i := 9) (oi := ⟨_, _, _, _, _, _⟩) (v := ?_) rfl (by kernel_rfl) (by kernel_rfl) (by kernel_rfl) (fun _ _ _ h => h) (Or.inl ⟨by rfl, ?_⟩) (by assumption) ?_
                            rotate_left
                            · intro w hSw; (try dsimp only at hSw); obtain ⟨hs1, hs2, hs3⟩ := hSw; first | (go_simp; done) | (go_simp; with_reducible rfl)
                            try simp only [Act.put, List.setIfInBounds_toArray, List.set_cons_zero, List.set_cons_succ]
                            refine wpAnyH_take (i := 10) (oi := ⟨_, _, _, _, _, _⟩) (v := ?_) rfl (by kernel_rfl) (by kernel_rfl) (by kernel_rfl) (fun _ _ _ h => h) (Or.inl ⟨by rfl, ?_⟩) (by assumption) ?_
                            rotate_left
                            · intro w hSw; (try dsimp only at hSw); obtain ⟨hs1, hs2, hs3⟩ := hSw; first | (go_simp; done) | (go_simp; with_reducible rfl)
                            try simp only [Act.put, List.setIfInBounds_toArray, List.set_cons_zero, List.set_cons_succ]
                            refine wpAnyH_take (i := 11) (oi := ⟨_, _, _, _, _, _⟩) (v := ?_) rfl (by kernel_rfl) (by kernel_rfl) (by kernel_rfl) (fun _ _ _ h => h) (Or.inl ⟨by rfl, ?_⟩) (by assumption) ?_
                            rotate_left
                            · intro w hSw; (try dsimp only at hSw); obtain ⟨hs1, hs2, hs3⟩ := hSw; first | (go_simp; done) | (go_simp; with_reducible rfl)
                            try simp only [Act.put, List.setIfInBounds_toArray, List.set_cons_zero, List.set_cons_succ]
                            refine wpAnyH_take (i := 12) (oi := ⟨_, _, _, _, _, _⟩) (v := ?_) rfl (by kernel_rfl) (by kernel_rfl) (by kernel_rfl) (fun _ _ _ h => h) (Or.inl ⟨by rfl, ?_⟩) (by assumption) ?_
                            rotate_left
                            · intro w hSw; (try dsimp only at hSw); obtain ⟨hs1, hs2, hs3⟩ := hSw; first | (go_simp; done) | (go_simp; with_reducible rfl)
                            try simp only [Act.put, List.setIfInBounds_toArray, List.set_cons_zero, List.set_cons_succ]
                            refine wpAnyH_take (i := 13) (oi := ⟨_, _, _, _, _, _⟩) (v := ?_) rfl (by kernel_rfl) (by kernel_rfl) (by kernel_rfl) (fun _ _ _ h => h) (Or.inl ⟨by rfl, ?_⟩) (by assumption) ?_
                            rotate_left
                            · intro w hSw; (try dsimp only at hSw); obtain ⟨hs1, hs2, hs3⟩ := hSw; first | (go_simp; done) | (go_simp; with_reducible rfl)
                            try simp only [Act.put, List.setIfInBounds_toArray, List.set_cons_zero, List.set_cons_succ]
                            refine wpAnyH_take (i := 14) (oi := ⟨_, _, _, _, _, _⟩) (v := ?_) rfl (by kernel_rfl) (by kernel_rfl) (by kernel_rfl) (fun _ _ _ h => h) (Or.inl ⟨by rfl, ?_⟩) (by assumption) ?_
                            rotate_left
                            · intro w hSw; (try dsimp only at hSw); obtain ⟨hs1, hs2, hs3⟩ := hSw; first | (go_simp; done) | (go_simp; with_reducible rfl)
                            try simp only [Act.put, List.setIfInBounds_toArray, List.set_cons_zero, List.set_cons_succ]
                            refine wpAnyH_take (i := 15) (oi := ⟨_, _, _, _, _, _⟩) (v := ?_) rfl (by kernel_rfl) (by kernel_rfl) (by kernel_rfl) (fun _ _ _ h => h) (Or.inl ⟨by rfl, ?_⟩) (by assumption) ?_
                            rotate_left
                            · intro w hSw; (try dsimp only at hSw); obtain ⟨hs1, hs2, hs3⟩ := hSw; first | (go_simp; done) | (go_simp; with_reducible rfl)
                            try simp only [Act.put, List.setIfInBounds_toArray, List.set_cons_zero, List.set_cons_succ]
                            refine wpAnyH_take (i := 16) (oi := ⟨_, _, _, _, _, _⟩) (v := ?_) rfl (by kernel_rfl) (by kernel_rfl) (by kernel_rfl) (fun _ _ _ h => h) (Or.inl ⟨by rfl, ?_⟩) (by assumption) ?_
                            rotate_left
                            · intro w hSw; (try dsimp only at hSw); obtain ⟨hs1, hs2, hs3⟩ := hSw; first | (go_simp; done) | (go_simp; with_reducible rfl)
                            try simp only [Act.put, List.setIfInBounds_toArray, List.set_cons_zero, List.set_cons_succ]
                            refine wpAnyH_take (i := 17) (oi := ⟨_, _, _, _, _, _⟩) (v := ?_) rfl (by kernel_rfl) (by kernel_rfl) (by kernel_rfl) (fun _ _ _ h => h) (Or.inl ⟨by rfl, ?_⟩) (by assumption) ?_
                            rotate_left
                            · intro w hSw; (try dsimp only at hSw); obtain ⟨hs1, hs2, hs3⟩ := hSw; first | (go_simp; done) | (go_simp; with_reducible rfl)
                            try simp only [Act.put, List.setIfInBounds_toArray, List.set_cons_zero, List.set_cons_succ]
                            refine wpAnyH_take (i := 18) (oi := ⟨_, _, _, _, _, _⟩) (v := ?_) rfl (by kernel_rfl) (by kernel_rfl) (by kernel_rfl) (fun _ _ _ h => h) (Or.inl ⟨by rfl, ?_⟩) (by assumption) ?_
                            rotate_left
                            · intro w hSw; (try dsimp only at hSw); obtain ⟨hs1, hs2, hs3⟩ := hSw; first | (go_simp; done) | (go_simp; with_reducible rfl)
                            try simp only [Act.put, List.setIfInBounds_toArray, List.set_cons_zero, List.set_cons_succ]
                            refine wpAnyH_take (i := 19) (oi := ⟨_, _, _, _, _, _⟩) (v := ?_) rfl (by kernel_rfl) (by kernel_rfl) (by kernel_rfl) (fun _ _ _ h => h) (Or.inl ⟨by rfl, ?_⟩) (by assumption) ?_
                            rotate_left
                            · intro w hSw; (try dsimp only at hSw); obtain ⟨hs1, hs2, hs3⟩ := hSw; first | (go_simp; done) | (go_simp; with_reducible rfl)
                            try simp only [Act.put, List.setIfInBounds_toArray, List.set_cons_zero, List.set_cons_succ]
                            refine wpAnyH_take (i := 20) (oi := ⟨_, _, _, _, _, _⟩) (v := ?_) rfl (by kernel_rfl) (by kernel_rfl) (by kernel_rfl) (fun _ _ _ h => h) (Or.inl ⟨by rfl, ?_⟩) (by assumption) ?_
                            rotate_left
                            · intro w hSw; (try dsimp only at hSw); obtain ⟨hs1, hs2, hs3⟩ := hSw; first | (go_simp; done) | (go_simp; with_reducible rfl)
                            try simp only [Act.put, List.setIfInBounds_toArray, List.set_cons_zero, List.set_cons_succ]
                            refine wpAnyH_take (i := 21) (oi := ⟨_, _, _, _, _, _⟩) (v := ?_) rfl (by kernel_rfl) (by kernel_rfl) (by kernel_rfl) (fun _ _ _ h => h) (Or.inl ⟨by rfl, ?_⟩) (by assumption) ?_
                            rotate_left
                            · intro w hSw; (try dsimp only at hSw); obtain ⟨hs1, hs2, hs3⟩ := hSw; first | (go_simp; done) | (go_simp; with_reducible rfl)
                            try simp only [Act.put, List.setIfInBounds_toArray, List.set_cons_zero, List.set_cons_succ]
                            refine wpAnyH_take (i := 22) (oi := ⟨_, _, _, _, _, _⟩) (v := ?_) rfl (by kernel_rfl) (by kernel_rfl) (by kernel_rfl) (fun _ _ _ h => h) (Or.inl ⟨by rfl, ?_⟩) (by assumption) ?_
                            rotate_left
                            · intro w hSw; (try dsimp only at hSw); obtain ⟨hs1, hs2, hs3⟩ := hSw; first | (go_simp; done) | (go_simp; with_reducible rfl)
                            try simp only [Act.put, List.setIfInBounds_toArray, List.set_cons_zero, List.set_cons_succ]
                            refine wpAnyH_ready (rs := [23]) (by kernel_rfl) (by simp) ?_
                            refine AllReadyH.cons (o := ⟨_, _, _, _, _, _⟩) rfl (fun KK hK => ?_) AllReadyH.nil
                            go_simp
                            go_at_call 74
                            refine (HHij.out _).mono ?_
                            rintro e' w6 ⟨rfl, rfl⟩
                            try go_wp2_with fail
                            refine hK.out _ _ ?_ (fun hHeld => ?_)
                            · (try dsimp only); first | exact ⟨cc', v1', v2'⟩ | exact ⟨nc0, nc1, nc2⟩
                            clear hK KK
                            try simp only [Act.put, List.setIfInBounds_toArray, List.set_cons_zero, List.set_cons_succ]
                            refine wpAnyH_take (i := 24) (oi := ⟨_, _, _, _, _, _⟩) (v := ?_) rfl (by kernel_rfl) (by kernel_rfl) (by kernel_rfl) (fun _ _ _ h => h) (Or.inl ⟨by rfl, ?_⟩) (by assumption) ?_
                            rotate_left
                            · intro w hSw; (try dsimp only at hSw); obtain ⟨hs1, hs2, hs3⟩ := hSw; first | (go_simp; done) | (go_simp; with_reducible rfl)
                            try simp only [Act.put, List.setIfInBounds_toArray, List.set_cons_zero, List.set_cons_succ]
                            refine wpAnyH_take (i := 25) (oi := ⟨_, _, _, _, _, _⟩) (v := ?_) rfl (by kernel_rfl) (by kernel_rfl) (by kernel_rfl) (fun _ _ _ h => h) (Or.inl ⟨by rfl, ?_⟩) (by assumption) ?_
                            rotate_left
                            · intro w hSw; (try dsimp only at hSw); obtain ⟨hs1, hs2, hs3⟩ := hSw; first | (go_simp; done) | (go_simp; with_reducible rfl)
                            try simp only [Act.put, List.setIfInBounds_toArray, List.set_cons_zero, List.set_cons_succ]
                            refine wpAnyH_ready (rs := [26]) (by kernel_rfl) (by simp) ?_
                            refine AllReadyH.cons (o := ⟨_, _, _, _, _, _⟩) rfl (fun KK hK => ?_) AllReadyH.nil
                            go_simp
                            refine hK.out _ _ ?_ (fun hHeld => ?_)
                            · (try dsimp only); first | exact ⟨cc', v1', v2'⟩ | exact ⟨nc0, nc1, nc2⟩
                            clear hK KK
                            try simp only [Act.put, List.setIfInBounds_toArray, List.set_cons_zero, List.set_cons_succ]
                            refine wpAnyH_done (by kernel_rfl) ?_ _
                            refine NoPanic.normal ?_
                            all_goals
                              clear a1 a2 a3 b1 b2' b3 HHij vw1 vw2
                              go_wp2_with fail
                              exact ⟨⟨j + 1, by omega, by go_num, (by rw [HT2.out]; exact nA.out _), nB.out _⟩, by simp [intOf]; omega⟩
                          | false =>
                            have e2 : t2 = false := by have := NXT.out; simpa using this
                            subst e2
                            clear NXT
                            have my' : wr.drew.cell? ⟨gi, K, none⟩ = some (.bool false) := my
                            go_upto_region 27 with (fail)
                            refine wp_region_noPanic ?_
                            refine wp_region_held_drew (S := fun w' => True) (by kernel_rfl) ?_ (fun hHeld => ?_)
                            · trivial
                            refine wpAnyH_take (i := 0) (oi := ⟨_, _, _, _, _, _⟩) (v := ?_) rfl (by kernel_rfl) (by kernel_rfl) (by kernel_rfl) (fun _ _ _ h => h) (Or.inl ⟨by rfl, ?_⟩) (by assumption) ?_
                            rotate_left
                            · intro w hSw; (try dsimp only at hSw); first | (go_simp; done) | (go_simp; with_reducible rfl)
                            try simp only [Act.put, List.setIfInBounds_toArray, List.set_cons_zero, List.set_cons_succ]
                            refine wpAnyH_take (i := 1) (oi := ⟨_, _, _, _, _, _⟩) (v := ?_) rfl (by kernel_rfl) (by kernel_rfl) (by kernel_rfl) (fun _ _ _ h => h) (Or.inl ⟨by rfl, ?_⟩) (by assumption) ?_
                            rotate_left
                            · intro w hSw; (try dsimp only at hSw); first | (go_simp; done) | (go_simp; with_reducible rfl)
                            try simp only [Act.put, List.setIfInBounds_toArray, List.set_cons_zero, List.set_cons_succ]
                            refine wpAnyH_take (i := 2) (oi := ⟨_, _, _, _, _, _⟩) (v := ?_) rfl (by kernel_rfl) (by kernel_rfl) (by kernel_rfl) (fun _ _ _ h => h) (Or.inl ⟨by rfl, ?_⟩) (by assumption) ?_
                            rotate_left
                            · intro w hSw; (try dsimp only at hSw); first | (go_simp; done) | (go_simp; with_reducible rfl)
                            try simp only [Act.put, List.setIfInBounds_toArray, List.set_cons_zero, List.set_cons_succ]
                            refine wpAnyH_ready (rs := [3]) (by kernel_rfl) (by simp) ?_
                            refine AllReadyH.cons (o := ⟨_, _, _, _, _, _⟩) rfl (fun KK hK => ?_) AllReadyH.nil
                            go_simp
                            refine hK.out _ _ ?_ (fun hHeld => ?_)
                            · trivial
                            clear hK KK
                            try simp only [Act.put, List.setIfInBounds_toArray, List.set_cons_zero, List.set_cons_succ]
                            refine wpAnyH_take (i := 4) (oi := ⟨_, _, _, _, _, _⟩) (v := ?_) rfl (by kernel_rfl) (by kernel_rfl) (by kernel_rfl) (fun _ _ _ h => h) (Or.inl ⟨by rfl, ?_⟩) (by assumption) ?_
                            rotate_left
                            · intro w hSw; (try dsimp only at hSw); first | (go_simp; done) | (go_simp; with_reducible rfl)
                            try simp only [Act.put, List.setIfInBounds_toArray, List.set_cons_zero, List.set_cons_succ]
                            refine wpAnyH_take (i := 5) (oi := ⟨_, _, _, _, _, _⟩) (v := undef) rfl (by kernel_rfl) (by kernel_rfl) (by kernel_rfl) (fun _ _ _ h => h) (Or.inr ⟨by rfl, rfl⟩) (by assumption) ?_
                            try simp only [Act.put, List.setIfInBounds_toArray, List.set_cons_zero, List.set_cons_succ]
                            refine wpAnyH_take (i := 6) (oi := ⟨_, _, _, _, _, _⟩) (v := undef) rfl (by kernel_rfl) (by kernel_rfl) (by kernel_rfl) (fun _ _ _ h => h) (Or.inr ⟨by rfl, rfl⟩) (by assumption) ?_
                            try simp only [Act.put, List.setIfInBounds_toArray, List.set_cons_zero, List.set_cons_succ]
                            refine wpAnyH_take (i := 7) (oi := ⟨_, _, _, _, _, _⟩) (v := undef) rfl (by kernel_rfl) (by kernel_rfl) (by kernel_rfl) (fun _ _ _ h => h) (Or.inr ⟨by rfl, rfl⟩) (by assumption) ?_
                            try simp only [Act.put, List.setIfInBounds_toArray, List.set_cons_zero, List.set_cons_succ]
                            refine wpAnyH_take (i := 8) (oi := ⟨_, _, _, _, _, _⟩) (v := undef) rfl (by kernel_rfl) (by kernel_rfl) (by kernel_rfl) (fun _ _ _ h => h) (Or.inr ⟨by rfl, rfl⟩) (by assumption) ?_
                            try simp only [Act.put, List.setIfInBounds_toArray, List.set_cons_zero, List.set_cons_succ]
                            refine wpAnyH_take (i := 9) (oi := ⟨_, _, _, _, _, _⟩) (v := undef) rfl (by kernel_rfl) (by kernel_rfl) (by kernel_rfl) (fun _ _ _ h => h) (Or.inr ⟨by rfl, rfl⟩) (by assumption) ?_
                            try simp only [Act.put, List.setIfInBounds_toArray, List.set_cons_zero, List.set_cons_succ]
                            refine wpAnyH_take (i := 10) (oi := ⟨_, _, _, _, _, _⟩) (v := undef) rfl (by kernel_rfl) (by kernel_rfl) (by kernel_rfl) (fun _ _ _ h => h) (Or.inr ⟨by rfl, rfl⟩) (by assumption) ?_
                            try simp only [Act.put, List.setIfInBounds_toArray, List.set_cons_zero, List.set_cons_succ]
                            refine wpAnyH_take (i := 11) (oi := ⟨_, _, _, _, _, _⟩) (v := undef) rfl (by kernel_rfl) (by kernel_rfl) (by kernel_rfl) (fun _ _ _ h => h) (Or.inr ⟨by rfl, rfl⟩) (by assumption) ?_
                            try simp only [Act.put, List.setIfInBounds_toArray, List.set_cons_zero, List.set_cons_succ]
                            refine wpAnyH_take (i := 12) (oi := ⟨_, _, _, _, _, _⟩) (v := undef) rfl (by kernel_rfl) (by kernel_rfl) (by kernel_rfl) (fun _ _ _ h => h) (Or.inr ⟨by rfl, rfl⟩) (by assumption) ?_
                            try simp only [Act.put, List.setIfInBounds_toArray, List.set_cons_zero, List.set_cons_succ]
                            refine wpAnyH_take (i := 13) (oi := ⟨_, _, _, _, _, _⟩) (v := undef) rfl (by kernel_rfl) (by kernel_rfl) (by kernel_rfl) (fun _ _ _ h => h) (Or.inr ⟨by rfl, rfl⟩) (by assumption) ?_
                            try simp only [Act.put, List.setIfInBounds_toArray, List.set_cons_zero, List.set_cons_succ]
                            refine wpAnyH_take (i := 14) (oi := ⟨_, _, _, _, _, _⟩) (v := undef) rfl (by kernel_rfl) (by kernel_rfl) (by kernel_rfl) (fun _ _ _ h => h) (Or.inr ⟨by rfl, rfl⟩) (by assumption) ?_
                            try simp only [Act.put, List.setIfInBounds_toArray, List.set_cons_zero, List.set_cons_succ]
                            refine wpAnyH_take (i := 15) (oi := ⟨_, _, _, _, _, _⟩) (v := undef) rfl (by kernel_rfl) (by kernel_rfl) (by kernel_rfl) (fun _ _ _ h => h) (Or.inr ⟨by rfl, rfl⟩) (by assumption) ?_
                            try simp only [Act.put, List.setIfInBounds_toArray, List.set_cons_zero, List.set_cons_succ]
                            refine wpAnyH_take (i := 16) (oi := ⟨_, _, _, _, _, _⟩) (v := undef) rfl (by kernel_rfl) (by kernel_rfl) (by kernel_rfl) (fun _ _ _ h => h) (Or.inr ⟨by rfl, rfl⟩) (by assumption) ?_
                            try simp only [Act.put, List.setIfInBounds_toArray, List.set_cons_zero, List.set_cons_succ]
                            refine wpAnyH_take (i := 17) (oi := ⟨_, _, _, _, _, _⟩) (v := undef) rfl (by kernel_rfl) (by kernel_rfl) (by kernel_rfl) (fun _ _ _ h => h) (Or.inr ⟨by rfl, rfl⟩) (by assumption) ?_
                            try simp only [Act.put, List.setIfInBounds_toArray, List.set_cons_zero, List.set_cons_succ]
                            refine wpAnyH_take (i := 18) (oi := ⟨_, _, _, _, _, _⟩) (v := undef) rfl (by kernel_rfl) (by kernel_rfl) (by kernel_rfl) (fun _ _ _ h => h) (Or.inr ⟨by rfl, rfl⟩) (by assumption) ?_
                            try simp only [Act.put, List.setIfInBounds_toArray, List.set_cons_zero, List.set_cons_succ]
                            refine wpAnyH_take (i := 19) (oi := ⟨_, _, _, _, _, _⟩) (v := undef) rfl (by kernel_rfl) (by kernel_rfl) (by kernel_rfl) (fun _ _ _ h => h) (Or.inr ⟨by rfl, rfl⟩) (by assumption) ?_
                            try simp only [Act.put, List.setIfInBounds_toArray, List.set_cons_zero, List.set_cons_succ]
                            refine wpAnyH_take (i := 20) (oi := ⟨_, _, _, _, _, _⟩) (v := undef) rfl (by kernel_rfl) (by kernel_rfl) (by kernel_rfl) (fun _ _ _ h => h) (Or.inr ⟨by rfl, rfl⟩) (by assumption) ?_
                            try simp only [Act.put, List.setIfInBounds_toArray, List.set_cons_zero, List.set_cons_succ]
                            refine wpAnyH_take (i := 21) (oi := ⟨_, _, _, _, _, _⟩) (v := undef) rfl (by kernel_rfl) (by kernel_rfl) (by kernel_rfl) (fun _ _ _ h => h) (Or.inr ⟨by rfl, rfl⟩) (by assumption) ?_
                            try simp only [Act.put, List.setIfInBounds_toArray, List.set_cons_zero, List.set_cons_succ]
                            refine wpAnyH_take (i := 22) (oi := ⟨_, _, _, _, _, _⟩) (v := undef) rfl (by kernel_rfl) (by kernel_rfl) (by kernel_rfl) (fun _ _ _ h => h) (Or.inr ⟨by rfl, rfl⟩) (by assumption) ?_
                            try simp only [Act.put, List.setIfInBounds_toArray, List.set_cons_zero, List.set_cons_succ]
                            refine wpAnyH_take (i := 23) (oi := ⟨_, _, _, _, _, _⟩) (v := undef) rfl (by kernel_rfl) (by kernel_rfl) (by kernel_rfl) (fun _ _ _ h => h) (Or.inr ⟨by rfl, rfl⟩) (by assumption) ?_
                            try simp only [Act.put, List.setIfInBounds_toArray, List.set_cons_zero, List.set_cons_succ]
                            refine wpAnyH_take (i := 24) (oi := ⟨_, _, _, _, _, _⟩) (v := ?_) rfl (by kernel_rfl) (by kernel_rfl) (by kernel_rfl) (fun _ _ _ h => h) (Or.inl ⟨by rfl, ?_⟩) (by assumption) ?_
                            rotate_left
                            · intro w hSw; (try dsimp only at hSw); first | (go_simp; done) | (go_simp; with_reducible rfl)
                            try simp only [Act.put, List.setIfInBounds_toArray, List.set_cons_zero, List.set_cons_succ]
                            refine wpAnyH_take (i := 25) (oi := ⟨_, _, _, _, _, _⟩) (v := ?_) rfl (by kernel_rfl) (by kernel_rfl) (by kernel_rfl) (fun _ _ _ h => h) (Or.inl ⟨by rfl, ?_⟩) (by assumption) ?_
                            rotate_left
                            · intro w hSw; (try dsimp only at hSw); first | (go_simp; done) | (go_simp; with_reducible rfl)
                            try simp only [Act.put, List.setIfInBounds_toArray, List.set_cons_zero, List.set_cons_succ]
                            refine wpAnyH_ready (rs := [26]) (by kernel_rfl) (by simp) ?_
                            refine AllReadyH.cons (o := ⟨_, _, _, _, _, _⟩) rfl (fun KK hK => ?_) AllReadyH.nil
                            go_simp
                            refine hK.out _ _ ?_ (fun hHeld => ?_)
                            · trivial
                            clear hK KK
                            try simp only [Act.put, List.setIfInBounds_toArray, List.set_cons_zero, List.set_cons_succ]
                            refine wpAnyH_done (by kernel_rfl) ?_ _
                            refine NoPanic.normal ?_
                            all_goals
                              clear a1 a2 a3 b1 b2' b3 HHij vw1 vw2
                              go_wp2_with fail
                              exact ⟨⟨j + 1, by omega, by go_num, (by rw [HT2.out]; exact nA.out _), nB.out _⟩, by simp [intOf]; omega⟩
                        · have cj1 : ¬ ((j : Int) ≤ (N : Int)) := by omega
                          have ej : i * (N + 1) + j = (i + 1) * (N + 1) := by rw [Nat.add_mul, Nat.one_mul]; omega
                          have F8 : Hid (Ask wr gi gv N K (inA N c1 (VK l0 l1 K) ((i + 1) * (N + 1))) u (VK l0 l1 K)) := by rw [← ej]; exact hA
                          clear ej hA
                          go_wp2_with fail
                          go_roundw
                          case rel => exact ⟨i + 1, by omega, by go_num, F8, hB7⟩
                          case measure => simp [intOf]; omega
                    · have ci1 : ¬ ((i : Int) ≤ (N : Int)) := by omega
                      have ei : i * (N + 1) = m := by rw [show i = N + 1 by omega]; exact HEnd.out
                      have hA2 := hA.out
                      rw [ei, SAME.out K, ← HT0.out] at hA2
                      have lt := World.block_lt_of_cell? _ _ hA2.mine
                      have c0' : Hid (wr.cell? ⟨gi, 0, none⟩ = some (.bool (if 1 ≤ K + 1 then T0 else true))) := by
                        show _ = _
                        rw [if_pos (by omega)]
                        by_cases e : K = 0
                        · have := hA2.mine; rw [e] at this; exact this
                        · have h1 : K = 1 := by omega
                          have := hA2.other; rw [h1, OTH.out.1 h1] at this; exact this
                      have c1' : Hid (wr.cell? ⟨gi, 1, none⟩ = some (.bool (if 2 ≤ K + 1 then T0 else true))) := by
                        show _ = _
                        by_cases e : K = 0
                        · have := hA2.other; rw [e, OTH.out.2 e] at this; rw [if_neg (by omega)]; exact this
                        · have h1 : K = 1 := by omega
                          have := hA2.mine; rw [h1] at this; rw [if_pos (by omega)]; exact this
                      have fr' := hideD hA2.free
                      have lt' := hideD lt
                      clear ei hA hA2 lt HH IN HPl HMul
                      go_wp2_with fail
                      go_roundw
                      case rel => exact ⟨K + 1, by omega, by go_num, c0', c1', fr', lt', hB6⟩
                      case measure => simp [intOf]; omega
              · have i1 : ¬ ((I : Int) ≤ (N : Int)) := by omega
                clear hI hI1 ci
                have yc := kc _ _ hB6.out y3.out
                by_cases k2 : K = 1
                · subst k2
                  by_cases q2 : 0 < q1
                  · have q3 : (0 : Int) < (q1 : Int) := by omega
                    obtain ⟨cb, off, rfl, xj⟩ := I1.out _ (beyondD B3.out hB6.out) 0 q2
                    rw [Nat.add_zero] at xj
                    have mb := M1.out 0
                    have cv : IntKind.i64.wrap (l1.getD 0 0) = l1.getD 0 0 := by rw [IntKind.wrap_i64]; omega
                    have cv2 : wrap64 (l1.getD 0 0) = l1.getD 0 0 := by unfold wrap64; omega
                    have nA : Hid (Ask (wr.setCell ⟨gv, 1, none⟩ (.int .i64 (l1.getD 0 0))) gi gv N 1 true u (VK l0 l1 1)) := full.out.val (by unfold VK V1; rw [if_neg (by omega), if_pos ⟨rfl, by have := Q1.out; omega⟩]) (fun i hi => by unfold VK V1; rw [if_neg (by omega), if_neg (fun h => hi h.1)]) (by omega)
                    have nB := hideD (hB6.out.setCell (p := ⟨gv, 1, none⟩) GL.out (.int .i64 (l1.getD 0 0)))
                    have y0 := full.out.vals 1 (by omega)
                    have z0 := full.out.vfree 1
                    have n9 : (1 : Int) < (N : Int) + 1 := by omega
                    generalize l1.getD 0 0 = y at *
                    clear full mb
                    go_upto_region 21 with (fail)
                    generalize wr.setCell ⟨gv, 1, none⟩ (.int .i64 y) = wx at *
                    have ASK := nA
                    have BB6 := nB
                    clear nA nB hB6 y0 z0 cv cv2 xj xc yc n9
                    have F0 : Hid (Ask wx gi gv N 1 (inA N c1 (VK l0 l1 1) (0 * (N + 1))) u (VK l0 l1 1)) := by rw [Nat.zero_mul]; exact ASK
                    clear ASK
                    go_wp2_with fail
                    go_loopw [16] (fun s w6 => ∃ (i : Nat), i ≤ N + 1 ∧ s = .int .i64 (i : Int) ∧ Hid (Ask w6 gi gv N 1 (inA N c1 (VK l0 l1 1) (i * (N + 1))) u (VK l0 l1 1)) ∧ Hid (Below w3.heap.size w3 w6)) (fun s _ => N + 1 - (intOf s).toNat)
                    case atStart => exact ⟨0, by omega, rfl, F0, BB6⟩
                    case round =>
                      obtain ⟨i, hi, rfl, hA, hB6⟩ := hrel
                      clear F0 BB6
                      by_cases ci : i ≤ N
                      · have ci1 : (i : Int) ≤ (N : Int) := by omega
                        have F1 : Hid (Ask wr gi gv N 1 (inA N c1 (VK l0 l1 1) (i * (N + 1) + 0)) u (VK l0 l1 1)) := hA.out
                        clear hA
                        go_wp2_with fail
                        go_loopw [17] (fun s w6 => ∃ (j : Nat), j ≤ N + 1 ∧ s = .int .i64 (j : Int) ∧ Hid (Ask w6 gi gv N 1 (inA N c1 (VK l0 l1 1) (i * (N + 1) + j)) u (VK l0 l1 1)) ∧ Hid (Below w3.heap.size w3 w6)) (fun s _ => N + 1 - (intOf s).toNat)
                        case atStart => exact ⟨0, by omega, rfl, F1, hB6⟩
                        case round =>
                          obtain ⟨j, hj, rfl, hA, hB7⟩ := hrel
                          clear F1 hB6
                          by_cases cj : j ≤ N
                          · have cj1 : (j : Int) ≤ (N : Int) := by omega
                            obtain ⟨pl, pd, pm⟩ := HPl.out i j ci cj
                            have nx := IN.out 1 (i * (N + 1) + j)
                            rw [pd, pm] at nx
                            have A1 := hideD (HMul.out i)
                            have HHij := hideD (fun w' => HH.out (i * (N + 1) + j) 1 i j w' ci cj)
                            have cc := kc _ _ hB7.out (hcc.out _ pl)
                            have v1 := hA.out.vals i ci
                            have v2 := hA.out.vals j cj
                            have my := hA.out.mine
                            have fr := hA.out.free 1
                            have bi := BD.out 1 i
                            have bj := BD.out 1 j
                            have nA : Hid (∀ b, Ask ((wr.setCell ⟨gi, 1, none⟩ (.bool b)).drew) gi gv N 1 b u (VK l0 l1 1)) := fun b => (hA.out.set (by omega) b).drew
                            have nB : Hid (∀ b : Bool, Below w3.heap.size w3 ((wr.setCell ⟨gi, 1, none⟩ (.bool b)).drew)) := fun b => (hB7.out.setCell (p := ⟨gi, 1, none⟩) (show w3.heap.size ≤ gi by have := HGI.out; omega) _).drew
                            have NC0 : Hid (∀ x : Bool, ((wr.setCell ⟨gi, 1, none⟩ (.bool x)).drew).cell? ⟨gc, i * (N + 1) + j, none⟩ = some (.int .i32 (c1 (i * (N + 1) + j)))) := fun x => by
                              show (wr.setCell _ _).cell? _ = _
                              have gcl := World.block_lt_of_cell? _ _ (hcc.out _ pl)
                              have gne : ¬ gc = gi := by have := HGI.out; have h3 : gc < w3.heap.size := gcl; omega
                              rw [World.cell?_setCell_other _ _ _ _ (by intro e; injection e; omega)]
                              exact cc
                            have NC1 : Hid (∀ x : Bool, ((wr.setCell ⟨gi, 1, none⟩ (.bool x)).drew).cell? ⟨gv, i, none⟩ = some (.int .i64 (VK l0 l1 1 i))) := fun x => (nA.out x).vals i ci
                            have NC2 : Hid (∀ x : Bool, ((wr.setCell ⟨gi, 1, none⟩ (.bool x)).drew).cell? ⟨gv, j, none⟩ = some (.int .i64 (VK l0 l1 1 j))) := fun x => (nA.out x).vals j cj
                            have NX := hideD nx
                            generalize inA N c1 (VK l0 l1 1) (i * (N + 1) + j) = t at *
                            generalize i * (N + 1) = A at *
                            have s1 : A ≤ 1000000 := by omega
                            have s2 : A + j ≤ 1000000 := by omega
                            have s3 : N + 1 ≤ 1000000 := by omega
                            have E1 : Hid (wrap64 ((N : Int) + 1) = (N : Int) + 1) := wrap_small (k := N + 1) s3
                            have E2 : Hid (wrap64 ((i : Int) * ((N : Int) + 1)) = (A : Int)) := by show _ = _; rw [A1.out]; exact wrap_small s1
                            have E3 : Hid (wrap64 ((A : Int) + (j : Int)) = ((A + j : Nat) : Int)) := wrap_small (k := A + j) s2
                            have D1 : Hid (IntKind.i64.wrap ((N : Int) + 1) = (N : Int) + 1) := wrap_smallK (k := N + 1) s3
                            have D2 : Hid (IntKind.i64.wrap ((i : Int) * ((N : Int) + 1)) = (A : Int)) := by show _ = _; rw [A1.out]; exact wrap_smallK s1
                            have D3 : Hid (IntKind.i64.wrap ((A : Int) + (j : Int)) = ((A + j : Nat) : Int)) := wrap_smallK (k := A + j) s2
                            have pl1 : ((A + j : Nat) : Int) < (m : Int) := by omega
                            have NXT : Hid (inA N c1 (VK l0 l1 1) (A + (j + 1)) = (t && holdsB (c1 (A + j)) (VK l0 l1 1 i - VK l0 l1 1 j) 2)) := by rw [← Nat.add_assoc]; exact nx
                            generalize hT2 : inA N c1 (VK l0 l1 1) (A + (j + 1)) = t2 at *
                            have HT2 := hideD hT2
                            clear hT2
                            generalize holdsB (c1 (A + j)) (VK l0 l1 1 i - VK l0 l1 1 j) 2 = hb2 at *
                            generalize c1 (A + j) = b2 at *
                            have W1 : Hid (wrap64 (VK l0 l1 1 i - VK l0 l1 1 j) = VK l0 l1 1 i - VK l0 l1 1 j) := by show _ = _; unfold wrap64; omega
                            have W2 : Hid (IntKind.i64.wrap (VK l0 l1 1 i - VK l0 l1 1 j) = VK l0 l1 1 i - VK l0 l1 1 j) := by show _ = _; rw [IntKind.wrap_i64]; omega
                            generalize VK l0 l1 1 i = vi at *
                            generalize VK l0 l1 1 j = vj at *
                            have vw1 := W1.out
                            have vw2 := W2.out
                            generalize hP : A + j = P at *
                            clear hP s1 s2 s3 hA hB7 HPl HEnd HMul HH IN SAME BD I0 I1 M0 M1 HV INC nx A1 pl pd pm bi bj NX W1 W2 hcc
                            have i0' : (0 : Int) ≤ (i : Int) := by omega
                            have j0' : (0 : Int) ≤ (j : Int) := by omega
                            have i9 : (i : Int) < (N : Int) + 1 := by omega
                            have j9 : (j : Int) < (N : Int) + 1 := by omega
                            have a1 := E1.out
                            have a2 := E2.out
                            have a3 := E3.out
                            have b1 := D1.out
                            have b2' := D2.out
                            have b3 := D3.out
                            clear E1 E2 E3 D1 D2 D3
                            cases t with
                            | true =>
                              have e2 : t2 = hb2 := by have := NXT.out; simpa using this
                              subst e2
                              clear NXT
                              have my' : wr.drew.cell? ⟨gi, 1, none⟩ = some (.bool true) := my
                              have cc' : wr.drew.cell? ⟨gc, P, none⟩ = some (.int .i32 b2) := cc
                              have v1' : wr.drew.cell? ⟨gv, i, none⟩ = some (.int .i64 vi) := v1
                              have v2' : wr.drew.cell? ⟨gv, j, none⟩ = some (.int .i64 vj) := v2
                              have nc0 : ((wr.setCell ⟨gi, 1, none⟩ (.bool t2)).drew).cell? ⟨gc, P, none⟩ = some (.int .i32 b2) := NC0.out t2
                              have nc1 : ((wr.setCell ⟨gi, 1, none⟩ (.bool t2)).drew).cell? ⟨gv, i, none⟩ = some (.int .i64 vi) := NC1.out t2
                              have nc2 : ((wr.setCell ⟨gi, 1, none⟩ (.bool t2)).drew).cell? ⟨gv, j, none⟩ = some (.int .i64 vj) := NC2.out t2
                              go_upto_region 27 with (fail)
                              refine wp_region_noPanic ?_
                              refine wp_region_held_drew (S := fun w' => w'.cell? ⟨gc, P, none⟩ = some (.int .i32 b2) ∧ w'.cell? ⟨gv, i, none⟩ = some (.int .i64 vi) ∧ w'.cell? ⟨gv, j, none⟩ = some (.int .i64 vj)) (by kernel_rfl) ?_ (fun hHeld => ?_)
                              · (try dsimp only); first | exact ⟨cc', v1', v2'⟩ | exact ⟨nc0, nc1, nc2⟩
                              refine wpAnyH_take (i := 0) (oi := ⟨_, _, _, _, _, _⟩) (v := ?_) rfl (by kernel_rfl) (by kernel_rfl) (by kernel_rfl) (fun _ _ _ h => h) (Or.inl ⟨by rfl, ?_⟩) (by assumption) ?_
                              rotate_left
                              · intro w hSw; (try dsimp only at hSw); obtain ⟨hs1, hs2, hs3⟩ := hSw; first | (go_simp; done) | (go_simp; with_reducible rfl)
                              try simp only [Act.put, List.setIfInBounds_toArray, List.set_cons_zero, List.set_cons_succ]
                              refine wpAnyH_take (i := 1) (oi := ⟨_, _, _, _, _, _⟩) (v := ?_) rfl (by kernel_rfl) (by kernel_rfl) (by kernel_rfl) (fun _ _ _ h => h) (Or.inl ⟨by rfl, ?_⟩) (by assumption) ?_
                              rotate_left
                              · intro w hSw; (try dsimp only at hSw); obtain ⟨hs1, hs2, hs3⟩ := hSw; first | (go_simp; done) | (go_simp; with_reducible rfl)
                              try simp only [Act.put, List.setIfInBounds_toArray, List.set_cons_zero, List.set_cons_succ]
                              refine wpAnyH_take (i := 2) (oi := ⟨_, _, _, _, _, _⟩) (v := ?_) rfl (by kernel_rfl) (by kernel_rfl) (by kernel_rfl) (fun _ _ _ h => h) (Or.inl ⟨by rfl, ?_⟩) (by assumption) ?_
                              rotate_left
                              · intro w hSw; (try dsimp only at hSw); obtain ⟨hs1, hs2, hs3⟩ := hSw; first | (go_simp; done) | (go_simp; with_reducible rfl)
                              try simp only [Act.put, List.setIfInBounds_toArray, List.set_cons_zero, List.set_cons_succ]
                              refine wpAnyH_ready (rs := [3]) (by kernel_rfl) (by simp) ?_
                              refine AllReadyH.cons (o := ⟨_, _, _, _, _, _⟩) rfl (fun KK hK => ?_) AllReadyH.nil
                              go_simp
                              refine hK.out _ _ ?_ (fun hHeld => ?_)
                              · (try dsimp only); first | exact ⟨cc', v1', v2'⟩ | exact ⟨nc0, nc1, nc2⟩
                              clear hK KK
                              try simp only [Act.put, List.setIfInBounds_toArray, List.set_cons_zero, List.set_cons_succ]
                              refine wpAnyH_take (i := 4) (oi := ⟨_, _, _, _, _, _⟩) (v := ?_) rfl (by kernel_rfl) (by kernel_rfl) (by kernel_rfl) (fun _ _ _ h => h) (Or.inl ⟨by rfl, ?_⟩) (by assumption) ?_
                              rotate_left
                              · intro w hSw; (try dsimp only at hSw); obtain ⟨hs1, hs2, hs3⟩ := hSw; first | (go_simp; done) | (go_simp; with_reducible rfl)
                              try simp only [Act.put, List.setIfInBounds_toArray, List.set_cons_zero, List.set_cons_succ]
                              refine wpAnyH_take (i := 5) (oi := ⟨_, _, _, _, _, _⟩) (v := ?_) rfl (by kernel_rfl) (by kernel_rfl) (by kernel_rfl) (fun _ _ _ h => h) (Or.inl ⟨by rfl, ?_⟩) (by assumption) ?_
                              rotate_left
                              · intro w hSw; (try dsimp only at hSw); obtain ⟨hs1, hs2, hs3⟩ := hSw; first | (go_simp; done) | (go_simp; with_reducible rfl)
                              try simp only [Act.put, List.setIfInBounds_toArray, List.set_cons_zero, List.set_cons_succ]
                              refine wpAnyH_take (i := 6) (oi := ⟨_, _, _, _, _, _⟩) (v := ?_) rfl (by kernel_rfl) (by kernel_rfl) (by kernel_rfl) (fun _ _ _ h => h) (Or.inl ⟨by rfl, ?_⟩) (by assumption) ?_
                              rotate_left
                              · intro w hSw; (try dsimp only at hSw); obtain ⟨hs1, hs2, hs3⟩ := hSw; first | (go_simp; done) | (go_simp; with_reducible rfl)
                              try simp only [Act.put, List.setIfInBounds_toArray, List.set_cons_zero, List.set_cons_succ]
                              refine wpAnyH_take (i := 7) (oi := ⟨_, _, _, _, _, _⟩) (v := ?_) rfl (by kernel_rfl) (by kernel_rfl) (by kernel_rfl) (fun _ _ _ h => h) (Or.inl ⟨by rfl, ?_⟩) (by assumption) ?_
                              rotate_left
                              · intro w hSw; (try dsimp only at hSw); obtain ⟨hs1, hs2, hs3⟩ := hSw; first | (go_simp; done) | (go_simp; with_reducible rfl)
                              try simp only [Act.put, List.setIfInBounds_toArray, List.set_cons_zero, List.set_cons_succ]
                              refine wpAnyH_take (i := 8) (oi := ⟨_, _, _, _, _, _⟩) (v := ?_) rfl (by kernel_rfl) (by kernel_rfl) (by kernel_rfl) (fun _ _ _ h => h) (Or.inl ⟨by rfl, ?_⟩) (by assumption) ?_
                              rotate_left
                              · intro w hSw; (try dsimp only at hSw); obtain ⟨hs1, hs2, hs3⟩ := hSw; first | (go_simp; done) | (go_simp; with_reducible rfl)
                              try simp only [Act.put, List.setIfInBounds_toArray, List.set_cons_zero, List.set_cons_succ]
                              refine wpAnyH_take (i := 9) (oi := ⟨_, _, _, _, _, _⟩) (v := ?_) rfl (by kernel_rfl) (by kernel_rfl) (by kernel_rfl) (fun _ _ _ h => h) (Or.inl ⟨by rfl, ?_⟩) (by assumption) ?_
                              rotate_left
                              · intro w hSw; (try dsimp only at hSw); obtain ⟨hs1, hs2, hs3⟩ := hSw; first | (go_simp; done) | (go_simp; with_reducible rfl)
                              try simp only [Act.put, List.setIfInBounds_toArray, List.set_cons_zero, List.set_cons_succ]
                              refine wpAnyH_take (i := 10) (oi := ⟨_, _, _, _, _, _⟩) (v := ?_) rfl (by kernel_rfl) (by kernel_rfl) (by kernel_rfl) (fun _ _ _ h => h) (Or.inl ⟨by rfl, ?_⟩) (by assumption) ?_
                              rotate_left
                              · intro w hSw; (try dsimp only at hSw); obtain ⟨hs1, hs2, hs3⟩ := hSw; first | (go_simp; done) | (go_simp; with_reducible rfl)
                              try simp only [Act.put, List.setIfInBounds_toArray, List.set_cons_zero, List.set_cons_succ]
                              refine wpAnyH_take (i := 11) (oi := ⟨_, _, _, _, _, _⟩) (v := ?_) rfl (by kernel_rfl) (by kernel_rfl) (by kernel_rfl) (fun _ _ _ h => h) (Or.inl ⟨by rfl, ?_⟩) (by assumption) ?_
                              rotate_left
                              · intro w hSw; (try dsimp only at hSw); obtain ⟨hs1, hs2, hs3⟩ := hSw; first | (go_simp; done) | (go_simp; with_reducible rfl)
                              try simp only [Act.put, List.setIfInBounds_toArray, List.set_cons_zero, List.set_cons_succ]
                              refine wpAnyH_take (i := 12) (oi := ⟨_, _, _, _, _, _⟩) (v := ?_) rfl (by kernel_rfl) (by kernel_rfl) (by kernel_rfl) (fun _ _ _ h => h) (Or.inl ⟨by rfl, ?_⟩) (by assumption) ?_
                              rotate_left
                              · intro w hSw; (try dsimp only at hSw); obtain ⟨hs1, hs2, hs3⟩ := hSw; first | (go_simp; done) | (go_simp; with_reducible rfl)
                              try simp only [Act.put, List.setIfInBounds_toArray, List.set_cons_zero, List.set_cons_succ]
                              refine wpAnyH_take (i := 13) (oi := ⟨_, _, _, _, _, _⟩) (v := ?_) rfl (by kernel_rfl) (by kernel_rfl) (by kernel_rfl) (fun _ _ _ h => h) (Or.inl ⟨by rfl, ?_⟩) (by assumption) ?_
                              rotate_left
                              · intro w hSw; (try dsimp only at hSw); obtain ⟨hs1, hs2, hs3⟩ := hSw; first | (go_simp; done) | (go_simp; with_reducible rfl)
                              try simp only [Act.put, List.setIfInBounds_toArray, List.set_cons_zero, List.set_cons_succ]
                              refine wpAnyH_take (i := 14) (oi := ⟨_, _, _, _, _, _⟩) (v := ?_) rfl (by kernel_rfl) (by kernel_rfl) (by kernel_rfl) (fun _ _ _ h => h) (Or.inl ⟨by rfl, ?_⟩) (by assumption) ?_
                              rotate_left
                              · intro w hSw; (try dsimp only at hSw); obtain ⟨hs1, hs2, hs3⟩ := hSw; first | (go_simp; done) | (go_simp; with_reducible rfl)
                              try simp only [Act.put, List.setIfInBounds_toArray, List.set_cons_zero, List.set_cons_succ]
                              refine wpAnyH_take (i := 15) (oi := ⟨_, _, _, _, _, _⟩) (v := ?_) rfl (by kernel_rfl) (by kernel_rfl) (by kernel_rfl) (fun _ _ _ h => h) (Or.inl ⟨by rfl, ?_⟩) (by assumption) ?_
                              rotate_left
                              · intro w hSw; (try dsimp only at hSw); obtain ⟨hs1, hs2, hs3⟩ := hSw; first | (go_simp; done) | (go_simp; with_reducible rfl)
                              try simp only [Act.put, List.setIfInBounds_toArray, List.set_cons_zero, List.set_cons_succ]
                              refine wpAnyH_take (i := 16) (oi := ⟨_, _, _, _, _, _⟩) (v := ?_) rfl (by kernel_rfl) (by kernel_rfl) (by kernel_rfl) (fun _ _ _ h => h) (Or.inl ⟨by rfl, ?_⟩) (by assumption) ?_
                              rotate_left
                              · intro w hSw; (try dsimp only at hSw); obtain ⟨hs1, hs2, hs3⟩ := hSw; first | (go_simp; done) | (go_simp; with_reducible rfl)
                              try simp only [Act.put, List.setIfInBounds_toArray, List.set_cons_zero, List.set_cons_succ]
                              refine wpAnyH_take (i := 17) (oi := ⟨_, _, _, _, _, _⟩) (v := ?_) rfl (by kernel_rfl) (by kernel_rfl) (by kernel_rfl) (fun _ _ _ h => h) (Or.inl ⟨by rfl, ?_⟩) (by assumption) ?_
                              rotate_left
                              · intro w hSw; (try dsimp only at hSw); obtain ⟨hs1, hs2, hs3⟩ := hSw; first | (go_simp; done) | (go_simp; with_reducible rfl)
                              try simp only [Act.put, List.setIfInBounds_toArray, List.set_cons_zero, List.set_cons_succ]
                              refine wpAnyH_take (i := 18) (oi := ⟨_, _, _, _, _, _⟩) (v := ?_) rfl (by kernel_rfl) (by kernel_rfl) (by kernel_rfl) (fun _ _ _ h => h) (Or.inl ⟨by rfl, ?_⟩) (by assumption) ?_
                              rotate_left
                              · intro w hSw; (try dsimp only at hSw); obtain ⟨hs1, hs2, hs3⟩ := hSw; first | (go_simp; done) | (go_simp; with_reducible rfl)
                              try simp only [Act.put, List.setIfInBounds_toArray, List.set_cons_zero, List.set_cons_succ]
                              refine wpAnyH_take (i := 19) (oi := ⟨_, _, _, _, _, _⟩) (v := ?_) rfl (by kernel_rfl) (by kernel_rfl) (by kernel_rfl) (fun _ _ _ h => h) (Or.inl ⟨by rfl, ?_⟩) (by assumption) ?_
                              rotate_left
                              · intro w hSw; (try dsimp only at hSw); obtain ⟨hs1, hs2, hs3⟩ := hSw; first | (go_simp; done) | (go_simp; with_reducible rfl)
                              try simp only [Act.put, List.setIfInBounds_toArray, List.set_cons_zero, List.set_cons_succ]
                              refine wpAnyH_take (i := 20) (oi := ⟨_, _, _, _, _, _⟩) (v := ?_) rfl (by kernel_rfl) (by kernel_rfl) (by kernel_rfl) (fun _ _ _ h => h) (Or.inl ⟨by rfl, ?_⟩) (by assumption) ?_
                              rotate_left
                              · intro w hSw; (try dsimp only at hSw); obtain ⟨hs1, hs2, hs3⟩ := hSw; first | (go_simp; done) | (go_simp; with_reducible rfl)
                              try simp only [Act.put, List.setIfInBounds_toArray, List.set_cons_zero, List.set_cons_succ]
                              refine wpAnyH_take (i := 21) (oi := ⟨_, _, _, _, _, _⟩) (v := ?_) rfl (by kernel_rfl) (by kernel_rfl) (by kernel_rfl) (fun _ _ _ h => h) (Or.inl ⟨by rfl, ?_⟩) (by assumption) ?_
                              rotate_left
                              · intro w hSw; (try dsimp only at hSw); obtain ⟨hs1, hs2, hs3⟩ := hSw; first | (go_simp; done) | (go_simp; with_reducible rfl)
                              try simp only [Act.put, List.setIfInBounds_toArray, List.set_cons_zero, List.set_cons_succ]
                              refine wpAnyH_take (i := 22) (oi := ⟨_, _, _, _, _, _⟩) (v := ?_) rfl (by kernel_rfl) (by kernel_rfl) (by kernel_rfl) (fun _ _ _ h => h) (Or.inl ⟨by rfl, ?_⟩) (by assumption) ?_
                              rotate_left
                              · intro w hSw; (try dsimp only at hSw); obtain ⟨hs1, hs2, hs3⟩ := hSw; first | (go_simp; done) | (go_simp; with_reducible rfl)
                              try simp only [Act.put, List.setIfInBounds_toArray, List.set_cons_zero, List.set_cons_succ]
                              refine wpAnyH_ready (rs := [23]) (by kernel_rfl) (by simp) ?_
                              refine AllReadyH.cons (o := ⟨_, _, _, _, _, _⟩) rfl (fun KK hK => ?_) AllReadyH.nil
                              go_simp
                              go_at_call 74
                              refine (HHij.out _).mono ?_
                              rintro e' w6 ⟨rfl, rfl⟩
                              try go_wp2_with fail
                              refine hK.out _ _ ?_ (fun hHeld => ?_)
                              · (try dsimp only); first | exact ⟨cc', v1', v2'⟩ | exact ⟨nc0, nc1, nc2⟩
                              clear hK KK
                              try simp only [Act.put, List.setIfInBounds_toArray, List.set_cons_zero, List.set_cons_succ]
                              refine wpAnyH_take (i := 24) (oi := ⟨_, _, _, _, _, _⟩) (v := ?_) rfl (by kernel_rfl) (by kernel_rfl) (by kernel_rfl) (fun _ _ _ h => h) (Or.inl ⟨by rfl, ?_⟩) (by assumption) ?_
                              rotate_left
                              · intro w hSw; (try dsimp only at hSw); obtain ⟨hs1, hs2, hs3⟩ := hSw; first | (go_simp; done) | (go_simp; with_reducible rfl)
                              try simp only [Act.put, List.setIfInBounds_toArray, List.set_cons_zero, List.set_cons_succ]
                              refine wpAnyH_take (i := 25) (oi := ⟨_, _, _, _, _, _⟩) (v := ?_) rfl (by kernel_rfl) (by kernel_rfl) (by kernel_rfl) (fun _ _ _ h => h) (Or.inl ⟨by rfl, ?_⟩) (by assumption) ?_
                              rotate_left
                              · intro w hSw; (try dsimp only at hSw); obtain ⟨hs1, hs2, hs3⟩ := hSw; first | (go_simp; done) | (go_simp; with_reducible rfl)
                              try simp only [Act.put, List.setIfInBounds_toArray, List.set_cons_zero, List.set_cons_succ]
                              refine wpAnyH_ready (rs := [26]) (by kernel_rfl) (by simp) ?_
                              refine AllReadyH.cons (o := ⟨_, _, _, _, _, _⟩) rfl (fun KK hK => ?_) AllReadyH.nil
                              go_simp
                              refine hK.out _ _ ?_ (fun hHeld => ?_)
                              · (try dsimp only); first | exact ⟨cc', v1', v2'⟩ | exact ⟨nc0, nc1, nc2⟩
                              clear hK KK
                              try simp only [Act.put, List.setIfInBounds_toArray, List.set_cons_zero, List.set_cons_succ]
                              refine wpAnyH_done (by kernel_rfl) ?_ _
                              refine NoPanic.normal ?_
                              all_goals
                                clear a1 a2 a3 b1 b2' b3 HHij vw1 vw2
                                go_wp2_with fail
                                exact ⟨⟨j + 1, by omega, by go_num, (by rw [HT2.out]; exact nA.out _), nB.out _⟩, by simp [intOf]; omega⟩
                            | false =>
                              have e2 : t2 = false := by have := NXT.out; simpa using this
                              subst e2
                              clear NXT
                              have my' : wr.drew.cell? ⟨gi, 1, none⟩ = some (.bool false) := my
                              go_upto_region 27 with (fail)
                              refine wp_region_noPanic ?_
                              refine wp_region_held_drew (S := fun w' => True) (by kernel_rfl) ?_ (fun hHeld => ?_)
                              · trivial
                              refine wpAnyH_take (i := 0) (oi := ⟨_, _, _, _, _, _⟩) (v := ?_) rfl (by kernel_rfl) (by kernel_rfl) (by kernel_rfl) (fun _ _ _ h => h) (Or.inl ⟨by rfl, ?_⟩) (by assumption) ?_
                              rotate_left
                              · intro w hSw; (try dsimp only at hSw); first | (go_simp; done) | (go_simp; with_reducible rfl)
                              try simp only [Act.put, List.setIfInBounds_toArray, List.set_cons_zero, List.set_cons_succ]
                              refine wpAnyH_take (i := 1) (oi := ⟨_, _, _, _, _, _⟩) (v := ?_) rfl (by kernel_rfl) (by kernel_rfl) (by kernel_rfl) (fun _ _ _ h => h) (Or.inl ⟨by rfl, ?_⟩) (by assumption) ?_
                              rotate_left
                              · intro w hSw; (try dsimp only at hSw); first | (go_simp; done) | (go_simp; with_reducible rfl)
                              try simp only [Act.put, List.setIfInBounds_toArray, List.set_cons_zero, List.set_cons_succ]
                              refine wpAnyH_take (i := 2) (oi := ⟨_, _, _, _, _, _⟩) (v := ?_) rfl (by kernel_rfl) (by kernel_rfl) (by kernel_rfl) (fun _ _ _ h => h) (Or.inl ⟨by rfl, ?_⟩) (by assumption) ?_
                              rotate_left
                              · intro w hSw; (try dsimp only at hSw); first | (go_simp; done) | (go_simp; with_reducible rfl)
                              try simp only [Act.put, List.setIfInBounds_toArray, List.set_cons_zero, List.set_cons_succ]
                              refine wpAnyH_ready (rs := [3]) (by kernel_rfl) (by simp) ?_
                              refine AllReadyH.cons (o := ⟨_, _, _, _, _, _⟩) rfl (fun KK hK => ?_) AllReadyH.nil
                              go_simp
                              refine hK.out _ _ ?_ (fun hHeld => ?_)
                              · trivial
                              clear hK KK
                              try simp only [Act.put, List.setIfInBounds_toArray, List.set_cons_zero, List.set_cons_succ]
                              refine wpAnyH_take (i := 4) (oi := ⟨_, _, _, _, _, _⟩) (v := ?_) rfl (by kernel_rfl) (by kernel_rfl) (by kernel_rfl) (fun _ _ _ h => h) (Or.inl ⟨by rfl, ?_⟩) (by assumption) ?_
                              rotate_left
                              · intro w hSw; (try dsimp only at hSw); first | (go_simp; done) | (go_simp; with_reducible rfl)
                              try simp only [Act.put, List.setIfInBounds_toArray, List.set_cons_zero, List.set_cons_succ]
                              refine wpAnyH_take (i := 5) (oi := ⟨_, _, _, _, _, _⟩) (v := undef) rfl (by kernel_rfl) (by kernel_rfl) (by kernel_rfl) (fun _ _ _ h => h) (Or.inr ⟨by rfl, rfl⟩) (by assumption) ?_
                              try simp only [Act.put, List.setIfInBounds_toArray, List.set_cons_zero, List.set_cons_succ]
                              refine wpAnyH_take (i := 6) (oi := ⟨_, _, _, _, _, _⟩) (v := undef) rfl (by kernel_rfl) (by kernel_rfl) (by kernel_rfl) (fun _ _ _ h => h) (Or.inr ⟨by rfl, rfl⟩) (by assumption) ?_
                              try simp only [Act.put, List.setIfInBounds_toArray, List.set_cons_zero, List.set_cons_succ]
                              refine wpAnyH_take (i := 7) (oi := ⟨_, _, _, _, _, _⟩) (v := undef) rfl (by kernel_rfl) (by kernel_rfl) (by kernel_rfl) (fun _ _ _ h => h) (Or.inr ⟨by rfl, rfl⟩) (by assumption) ?_
                              try simp only [Act.put, List.setIfInBounds_toArray, List.set_cons_zero, List.set_cons_succ]
                              refine wpAnyH_take (i := 8) (oi := ⟨_, _, _, _, _, _⟩) (v := undef) rfl (by kernel_rfl) (by kernel_rfl) (by kernel_rfl) (fun _ _ _ h => h) (Or.inr ⟨by rfl, rfl⟩) (by assumption) ?_
                              try simp only [Act.put, List.setIfInBounds_toArray, List.set_cons_zero, List.set_cons_succ]
                              refine wpAnyH_take (i := 9) (oi := ⟨_, _, _, _, _, _⟩) (v := undef) rfl (by kernel_rfl) (by kernel_rfl) (by kernel_rfl) (fun _ _ _ h => h) (Or.inr ⟨by rfl, rfl⟩) (by assumption) ?_
                              try simp only [Act.put, List.setIfInBounds_toArray, List.set_cons_zero, List.set_cons_succ]
                              refine wpAnyH_take (i := 10) (oi := ⟨_, _, _, _, _, _⟩) (v := undef) rfl (by kernel_rfl) (by kernel_rfl) (by kernel_rfl) (fun _ _ _ h => h) (Or.inr ⟨by rfl, rfl⟩) (by assumption) ?_
                              try simp only [Act.put, List.setIfInBounds_toArray, List.set_cons_zero, List.set_cons_succ]
                              refine wpAnyH_take (i := 11) (oi := ⟨_, _, _, _, _, _⟩) (v := undef) rfl (by kernel_rfl) (by kernel_rfl) (by kernel_rfl) (fun _ _ _ h => h) (Or.inr ⟨by rfl, rfl⟩) (by assumption) ?_
                              try simp only [Act.put, List.setIfInBounds_toArray, List.set_cons_zero, List.set_cons_succ]
                              refine wpAnyH_take (i := 12) (oi := ⟨_, _, _, _, _, _⟩) (v := undef) rfl (by kernel_rfl) (by kernel_rfl) (by kernel_rfl) (fun _ _ _ h => h) (Or.inr ⟨by rfl, rfl⟩) (by assumption) ?_
                              try simp only [Act.put, List.setIfInBounds_toArray, List.set_cons_zero, List.set_cons_succ]
                              refine wpAnyH_take (i := 13) (oi := ⟨_, _, _, _, _, _⟩) (v := undef) rfl (by kernel_rfl) (by kernel_rfl) (by kernel_rfl) (fun _ _ _ h => h) (Or.inr ⟨by rfl, rfl⟩) (by assumption) ?_
                              try simp only [Act.put, List.setIfInBounds_toArray, List.set_cons_zero, List.set_cons_succ]
                              refine wpAnyH_take (i := 14) (oi := ⟨_, _, _, _, _, _⟩) (v := undef) rfl (by kernel_rfl) (by kernel_rfl) (by kernel_rfl) (fun _ _ _ h => h) (Or.inr ⟨by rfl, rfl⟩) (by assumption) ?_
                              try simp only [Act.put, List.setIfInBounds_toArray, List.set_cons_zero, List.set_cons_succ]
                              refine wpAnyH_take (i := 15) (oi := ⟨_, _, _, _, _, _⟩) (v := undef) rfl (by kernel_rfl) (by kernel_rfl) (by kernel_rfl) (fun _ _ _ h => h) (Or.inr ⟨by rfl, rfl⟩) (by assumption) ?_
                              try simp only [Act.put, List.setIfInBounds_toArray, List.set_cons_zero, List.set_cons_succ]
                              refine wpAnyH_take (i := 16) (oi := ⟨_, _, _, _, _, _⟩) (v := undef) rfl (by kernel_rfl) (by kernel_rfl) (by kernel_rfl) (fun _ _ _ h => h) (Or.inr ⟨by rfl, rfl⟩) (by assumption) ?_
                              try simp only [Act.put, List.setIfInBounds_toArray, List.set_cons_zero, List.set_cons_succ]
                              refine wpAnyH_take (i := 17) (oi := ⟨_, _, _, _, _, _⟩) (v := undef) rfl (by kernel_rfl) (by kernel_rfl) (by kernel_rfl) (fun _ _ _ h => h) (Or.inr ⟨by rfl, rfl⟩) (by assumption) ?_
                              try simp only [Act.put, List.setIfInBounds_toArray, List.set_cons_zero, List.set_cons_succ]
                              refine wpAnyH_take (i := 18) (oi := ⟨_, _, _, _, _, _⟩) (v := undef) rfl (by kernel_rfl) (by kernel_rfl) (by kernel_rfl) (fun _ _ _ h => h) (Or.inr ⟨by rfl, rfl⟩) (by assumption) ?_
                              try simp only [Act.put, List.setIfInBounds_toArray, List.set_cons_zero, List.set_cons_succ]
                              refine wpAnyH_take (i := 19) (oi := ⟨_, _, _, _, _, _⟩) (v := undef) rfl (by kernel_rfl) (by kernel_rfl) (by kernel_rfl) (fun _ _ _ h => h) (Or.inr ⟨by rfl, rfl⟩) (by assumption) ?_
                              try simp only [Act.put, List.setIfInBounds_toArray, List.set_cons_zero, List.set_cons_succ]
                              refine wpAnyH_take (i := 20) (oi := ⟨_, _, _, _, _, _⟩) (v := undef) rfl (by kernel_rfl) (by kernel_rfl) (by kernel_rfl) (fun _ _ _ h => h) (Or.inr ⟨by rfl, rfl⟩) (by assumption) ?_
                              try simp only [Act.put, List.setIfInBounds_toArray, List.set_cons_zero, List.set_cons_succ]
                              refine wpAnyH_take (i := 21) (oi := ⟨_, _, _, _, _, _⟩) (v := undef) rfl (by kernel_rfl) (by kernel_rfl) (by kernel_rfl) (fun _ _ _ h => h) (Or.inr ⟨by rfl, rfl⟩) (by assumption) ?_
                              try simp only [Act.put, List.setIfInBounds_toArray, List.set_cons_zero, List.set_cons_succ]
                              refine wpAnyH_take (i := 22) (oi := ⟨_, _, _, _, _, _⟩) (v := undef) rfl (by kernel_rfl) (by kernel_rfl) (by kernel_rfl) (fun _ _ _ h => h) (Or.inr ⟨by rfl, rfl⟩) (by assumption) ?_
                              try simp only [Act.put, List.setIfInBounds_toArray, List.set_cons_zero, List.set_cons_succ]
                              refine wpAnyH_take (i := 23) (oi := ⟨_, _, _, _, _, _⟩) (v := undef) rfl (by kernel_rfl) (by kernel_rfl) (by kernel_rfl) (fun _ _ _ h => h) (Or.inr ⟨by rfl, rfl⟩) (by assumption) ?_
                              try simp only [Act.put, List.setIfInBounds_toArray, List.set_cons_zero, List.set_cons_succ]
                              refine wpAnyH_take (i := 24) (oi := ⟨_, _, _, _, _, _⟩) (v := ?_) rfl (by kernel_rfl) (by kernel_rfl) (by kernel_rfl) (fun _ _ _ h => h) (Or.inl ⟨by rfl, ?_⟩) (by assumption) ?_
                              rotate_left
                              · intro w hSw; (try dsimp only at hSw); first | (go_simp; done) | (go_simp; with_reducible rfl)
                              try simp only [Act.put, List.setIfInBounds_toArray, List.set_cons_zero, List.set_cons_succ]
                              refine wpAnyH_take (i := 25) (oi := ⟨_, _, _, _, _, _⟩) (v := ?_) rfl (by kernel_rfl) (by kernel_rfl) (by kernel_rfl) (fun _ _ _ h => h) (Or.inl ⟨by rfl, ?_⟩) (by assumption) ?_
                              rotate_left
                              · intro w hSw; (try dsimp only at hSw); first | (go_simp; done) | (go_simp; with_reducible rfl)
                              try simp only [Act.put, List.setIfInBounds_toArray, List.set_cons_zero, List.set_cons_succ]
                              refine wpAnyH_ready (rs := [26]) (by kernel_rfl) (by simp) ?_
                              refine AllReadyH.cons (o := ⟨_, _, _, _, _, _⟩) rfl (fun KK hK => ?_) AllReadyH.nil
                              go_simp
                              refine hK.out _ _ ?_ (fun hHeld => ?_)
                              · trivial
                              clear hK KK
                              try simp only [Act.put, List.setIfInBounds_toArray, List.set_cons_zero, List.set_cons_succ]
                              refine wpAnyH_done (by kernel_rfl) ?_ _
                              refine NoPanic.normal ?_
                              all_goals
                                clear a1 a2 a3 b1 b2' b3 HHij vw1 vw2
                                go_wp2_with fail
                                exact ⟨⟨j + 1, by omega, by go_num, (by rw [HT2.out]; exact nA.out _), nB.out _⟩, by simp [intOf]; omega⟩
                          · have cj1 : ¬ ((j : Int) ≤ (N : Int)) := by omega
                            have ej : i * (N + 1) + j = (i + 1) * (N + 1) := by rw [Nat.add_mul, Nat.one_mul]; omega
                            have F8 : Hid (Ask wr gi gv N 1 (inA N c1 (VK l0 l1 1) ((i + 1) * (N + 1))) u (VK l0 l1 1)) := by rw [← ej]; exact hA
                            clear ej hA
                            go_wp2_with fail
                            go_roundw
                            case rel => exact ⟨i + 1, by omega, by go_num, F8, hB7⟩
                            case measure => first | (simp [intOf]; done) | (simp [intOf]; omega)
                      · have ci1 : ¬ ((i : Int) ≤ (N : Int)) := by omega
                        have ei : i * (N + 1) = m := by rw [show i = N + 1 by omega]; exact HEnd.out
                        have hA2 := hA.out
                        rw [ei, SAME.out 1, ← HT0.out] at hA2
                        have lt := World.block_lt_of_cell? _ _ hA2.mine
                        have c0' : Hid (wr.cell? ⟨gi, 0, none⟩ = some (.bool (if 1 ≤ 1 + 1 then T0 else true))) := by
                          show _ = _
                          rw [if_pos (by omega)]
                          have := hA2.other; rw [OTH.out.1 (by first | rfl | trivial)] at this; exact this
                        have c1' : Hid (wr.cell? ⟨gi, 1, none⟩ = some (.bool (if 2 ≤ 1 + 1 then T0 else true))) := by
                          show _ = _
                          rw [if_pos (by omega)]; exact hA2.mine
                        have fr' := hideD hA2.free
                        have lt' := hideD lt
                        clear ei hA hA2 lt HH IN HPl HMul
                        go_wp2_with fail
                        go_roundw
                        case rel => exact ⟨1 + 1, by omega, by go_num, c0', c1', fr', lt', hB6⟩
                        case measure => first | (simp [intOf]; done) | (simp [intOf]; omega)
                  · have q3 : ¬ ((0 : Int) < (q1 : Int)) := by omega
                    have ASK : Hid (Ask wr gi gv N 1 true u (VK l0 l1 1)) := full.out.congr fun j hj => by unfold VK V1; rw [if_neg (by omega), if_neg (fun h => by have := Q1.out; omega)]
                    have BB6 := hB6
                    clear full hB6
                    go_upto_region 21 with (fail)
                    clear xc yc
                    have F0 : Hid (Ask wr gi gv N 1 (inA N c1 (VK l0 l1 1) (0 * (N + 1))) u (VK l0 l1 1)) := by rw [Nat.zero_mul]; exact ASK
                    clear ASK
                    go_wp2_with fail
                    go_loopw [16] (fun s w6 => ∃ (i : Nat), i ≤ N + 1 ∧ s = .int .i64 (i : Int) ∧ Hid (Ask w6 gi gv N 1 (inA N c1 (VK l0 l1 1) (i * (N + 1))) u (VK l0 l1 1)) ∧ Hid (Below w3.heap.size w3 w6)) (fun s _ => N + 1 - (intOf s).toNat)
                    case atStart => exact ⟨0, by omega, rfl, F0, BB6⟩
                    case round =>
                      obtain ⟨i, hi, rfl, hA, hB6⟩ := hrel
                      clear F0 BB6
                      by_cases ci : i ≤ N
                      · have ci1 : (i : Int) ≤ (N : Int) := by omega
                        have F1 : Hid (Ask wr gi gv N 1 (inA N c1 (VK l0 l1 1) (i * (N + 1) + 0)) u (VK l0 l1 1)) := hA.out
                        clear hA
                        go_wp2_with fail
                        go_loopw [17] (fun s w6 => ∃ (j : Nat), j ≤ N + 1 ∧ s = .int .i64 (j : Int) ∧ Hid (Ask w6 gi gv N 1 (inA N c1 (VK l0 l1 1) (i * (N + 1) + j)) u (VK l0 l1 1)) ∧ Hid (Below w3.heap.size w3 w6)) (fun s _ => N + 1 - (intOf s).toNat)
                        case atStart => exact ⟨0, by omega, rfl, F1, hB6⟩
                        case round =>
                          obtain ⟨j, hj, rfl, hA, hB7⟩ := hrel
                          clear F1 hB6
                          by_cases cj : j ≤ N
                          · have cj1 : (j : Int) ≤ (N : Int) := by omega
                            obtain ⟨pl, pd, pm⟩ := HPl.out i j ci cj
                            have nx := IN.out 1 (i * (N + 1) + j)
                            rw [pd, pm] at nx
                            have A1 := hideD (HMul.out i)
                            have HHij := hideD (fun w' => HH.out (i * (N + 1) + j) 1 i j w' ci cj)
                            have cc := kc _ _ hB7.out (hcc.out _ pl)
                            have v1 := hA.out.vals i ci
                            have v2 := hA.out.vals j cj
                            have my := hA.out.mine
                            have fr := hA.out.free 1
                            have bi := BD.out 1 i
                            have bj := BD.out 1 j
                            have nA : Hid (∀ b, Ask ((wr.setCell ⟨gi, 1, none⟩ (.bool b)).drew) gi gv N 1 b u (VK l0 l1 1)) := fun b => (hA.out.set (by omega) b).drew
                            have nB : Hid (∀ b : Bool, Below w3.heap.size w3 ((wr.setCell ⟨gi, 1, none⟩ (.bool b)).drew)) := fun b => (hB7.out.setCell (p := ⟨gi, 1, none⟩) (show w3.heap.size ≤ gi by have := HGI.out; omega) _).drew
                            have NC0 : Hid (∀ x : Bool, ((wr.setCell ⟨gi, 1, none⟩ (.bool x)).drew).cell? ⟨gc, i * (N + 1) + j, none⟩ = some (.int .i32 (c1 (i * (N + 1) + j)))) := fun x => by
                              show (wr.setCell _ _).cell? _ = _
                              have gcl := World.block_lt_of_cell? _ _ (hcc.out _ pl)
                              have gne : ¬ gc = gi := by have := HGI.out; have h3 : gc < w3.heap.size := gcl; omega
                              rw [World.cell?_setCell_other _ _ _ _ (by intro e; injection e; omega)]
                              exact cc
                            have NC1 : Hid (∀ x : Bool, ((wr.setCell ⟨gi, 1, none⟩ (.bool x)).drew).cell? ⟨gv, i, none⟩ = some (.int .i64 (VK l0 l1 1 i))) := fun x => (nA.out x).vals i ci
                            have NC2 : Hid (∀ x : Bool, ((wr.setCell ⟨gi, 1, none⟩ (.bool x)).drew).cell? ⟨gv, j, none⟩ = some (.int .i64 (VK l0 l1 1 j))) := fun x => (nA.out x).vals j cj
                            have NX := hideD nx
                            generalize inA N c1 (VK l0 l1 1) (i * (N + 1) + j) = t at *
                            generalize i * (N + 1) = A at *
                            have s1 : A ≤ 1000000 := by omega
                            have s2 : A + j ≤ 1000000 := by omega
                            have s3 : N + 1 ≤ 1000000 := by omega
                            have E1 : Hid (wrap64 ((N : Int) + 1) = (N : Int) + 1) := wrap_small (k := N + 1) s3
                            have E2 : Hid (wrap64 ((i : Int) * ((N : Int) + 1)) = (A : Int)) := by show _ = _; rw [A1.out]; exact wrap_small s1
                            have E3 : Hid (wrap64 ((A : Int) + (j : Int)) = ((A + j : Nat) : Int)) := wrap_small (k := A + j) s2
                            have D1 : Hid (IntKind.i64.wrap ((N : Int) + 1) = (N : Int) + 1) := wrap_smallK (k := N + 1) s3
                            have D2 : Hid (IntKind.i64.wrap ((i : Int) * ((N : Int) + 1)) = (A : Int)) := by show _ = _; rw [A1.out]; exact wrap_smallK s1
                            have D3 : Hid (IntKind.i64.wrap ((A : Int) + (j : Int)) = ((A + j : Nat) : Int)) := wrap_smallK (k := A + j) s2
                            have pl1 : ((A + j : Nat) : Int) < (m : Int) := by omega
                            have NXT : Hid (inA N c1 (VK l0 l1 1) (A + (j + 1)) = (t && holdsB (c1 (A + j)) (VK l0 l1 1 i - VK l0 l1 1 j) 2)) := by rw [← Nat.add_assoc]; exact nx
                            generalize hT2 : inA N c1 (VK l0 l1 1) (A + (j + 1)) = t2 at *
                            have HT2 := hideD hT2
                            clear hT2
                            generalize holdsB (c1 (A + j)) (VK l0 l1 1 i - VK l0 l1 1 j) 2 = hb2 at *
                            generalize c1 (A + j) = b2 at *
                            have W1 : Hid (wrap64 (VK l0 l1 1 i - VK l0 l1 1 j) = VK l0 l1 1 i - VK l0 l1 1 j) := by show _ = _; unfold wrap64; omega
                            have W2 : Hid (IntKind.i64.wrap (VK l0 l1 1 i - VK l0 l1 1 j) = VK l0 l1 1 i - VK l0 l1 1 j) := by show _ = _; rw [IntKind.wrap_i64]; omega
                            generalize VK l0 l1 1 i = vi at *
                            generalize VK l0 l1 1 j = vj at *
                            have vw1 := W1.out
                            have vw2 := W2.out
                            generalize hP : A + j = P at *
                            clear hP s1 s2 s3 hA hB7 HPl HEnd HMul HH IN SAME BD I0 I1 M0 M1 HV INC nx A1 pl pd pm bi bj NX W1 W2 hcc
                            have i0' : (0 : Int) ≤ (i : Int) := by omega
                            have j0' : (0 : Int) ≤ (j : Int) := by omega
                            have i9 : (i : Int) < (N : Int) + 1 := by omega
                            have j9 : (j : Int) < (N : Int) + 1 := by omega
                            have a1 := E1.out
                            have a2 := E2.out
                            have a3 := E3.out
                            have b1 := D1.out
                            have b2' := D2.out
                            have b3 := D3.out
                            clear E1 E2 E3 D1 D2 D3
                            cases t with
                            | true =>
                              have e2 : t2 = hb2 := by have := NXT.out; simpa using this
                              subst e2
                              clear NXT
                              have my' : wr.drew.cell? ⟨gi, 1, none⟩ = some (.bool true) := my
                              have cc' : wr.drew.cell? ⟨gc, P, none⟩ = some (.int .i32 b2) := cc
                              have v1' : wr.drew.cell? ⟨gv, i, none⟩ = some (.int .i64 vi) := v1
                              have v2' : wr.drew.cell? ⟨gv, j, none⟩ = some (.int .i64 vj) := v2
                              have nc0 : ((wr.setCell ⟨gi, 1, none⟩ (.bool t2)).drew).cell? ⟨gc, P, none⟩ = some (.int .i32 b2) := NC0.out t2
                              have nc1 : ((wr.setCell ⟨gi, 1, none⟩ (.bool t2)).drew).cell? ⟨gv, i, none⟩ = some (.int .i64 vi) := NC1.out t2
                              have nc2 : ((wr.setCell ⟨gi, 1, none⟩ (.bool t2)).drew).cell? ⟨gv, j, none⟩ = some (.int .i64 vj) := NC2.out t2
                              go_upto_region 27 with (fail)
                              refine wp_region_noPanic ?_
                              refine wp_region_held_drew (S := fun w' => w'.cell? ⟨gc, P, none⟩ = some (.int .i32 b2) ∧ w'.cell? ⟨gv, i, none⟩ = some (.int .i64 vi) ∧ w'.cell? ⟨gv, j, none⟩ = some (.int .i64 vj)) (by kernel_rfl) ?_ (fun hHeld => ?_)
                              · (try dsimp only); first | exact ⟨cc', v1', v2'⟩ | exact ⟨nc0, nc1, nc2⟩
                              refine wpAnyH_take (i := 0) (oi := ⟨_, _, _, _, _, _⟩) (v := ?_) rfl (by kernel_rfl) (by kernel_rfl) (by kernel_rfl) (fun _ _ _ h => h) (Or.inl ⟨by rfl, ?_⟩) (by assumption) ?_
                              rotate_left
                              · intro w hSw; (try dsimp only at hSw); obtain ⟨hs1, hs2, hs3⟩ := hSw; first | (go_simp; done) | (go_simp; with_reducible rfl)
                              try simp only [Act.put, List.setIfInBounds_toArray, List.set_cons_zero, List.set_cons_succ]
                              refine wpAnyH_take (i := 1) (oi := ⟨_, _, _, _, _, _⟩) (v := ?_) rfl (by kernel_rfl) (by kernel_rfl) (by kernel_rfl) (fun _ _ _ h => h) (Or.inl ⟨by rfl, ?_⟩) (by assumption) ?_
                              rotate_left
                              · intro w hSw; (try dsimp only at hSw); obtain ⟨hs1, hs2, hs3⟩ := hSw; first | (go_simp; done) | (go_simp; with_reducible rfl)
                              try simp only [Act.put, List.setIfInBounds_toArray, List.set_cons_zero, List.set_cons_succ]
                              refine wpAnyH_take (i := 2) (oi := ⟨_, _, _, _, _, _⟩) (v := ?_) rfl (by kernel_rfl) (by kernel_rfl) (by kernel_rfl) (fun _ _ _ h => h) (Or.inl ⟨by rfl, ?_⟩) (by assumption) ?_
                              rotate_left
                              · intro w hSw; (try dsimp only at hSw); obtain ⟨hs1, hs2, hs3⟩ := hSw; first | (go_simp; done) | (go_simp; with_reducible rfl)
                              try simp only [Act.put, List.setIfInBounds_toArray, List.set_cons_zero, List.set_cons_succ]
                              refine wpAnyH_ready (rs := [3]) (by kernel_rfl) (by simp) ?_
                              refine AllReadyH.cons (o := ⟨_, _, _, _, _, _⟩) rfl (fun KK hK => ?_) AllReadyH.nil
                              go_simp
                              refine hK.out _ _ ?_ (fun hHeld => ?_)
                              · (try dsimp only); first | exact ⟨cc', v1', v2'⟩ | exact ⟨nc0, nc1, nc2⟩
                              clear hK KK
                              try simp only [Act.put, List.setIfInBounds_toArray, List.set_cons_zero, List.set_cons_succ]
                              refine wpAnyH_take (i := 4) (oi := ⟨_, _, _, _, _, _⟩) (v := ?_) rfl (by kernel_rfl) (by kernel_rfl) (by kernel_rfl) (fun _ _ _ h => h) (Or.inl ⟨by rfl, ?_⟩) (by assumption) ?_
                              rotate_left
                              · intro w hSw; (try dsimp only at hSw); obtain ⟨hs1, hs2, hs3⟩ := hSw; first | (go_simp; done) | (go_simp; with_reducible rfl)
                              try simp only [Act.put, List.setIfInBounds_toArray, List.set_cons_zero, List.set_cons_succ]
                              refine wpAnyH_take (i := 5) (oi := ⟨_, _, _, _, _, _⟩) (v := ?_) rfl (by kernel_rfl) (by kernel_rfl) (by kernel_rfl) (fun _ _ _ h => h) (Or.inl ⟨by rfl, ?_⟩) (by assumption) ?_
                              rotate_left
                              · intro w hSw; (try dsimp only at hSw); obtain ⟨hs1, hs2, hs3⟩ := hSw; first | (go_simp; done) | (go_simp; with_reducible rfl)
                              try simp only [Act.put, List.setIfInBounds_toArray, List.set_cons_zero, List.set_cons_succ]
                              refine wpAnyH_take (i := 6) (oi := ⟨_, _, _, _, _, _⟩) (v := ?_) rfl (by kernel_rfl) (by kernel_rfl) (by kernel_rfl) (fun _ _ _ h => h) (Or.inl ⟨by rfl, ?_⟩) (by assumption) ?_
                              rotate_left
                              · intro w hSw; (try dsimp only at hSw); obtain ⟨hs1, hs2, hs3⟩ := hSw; first | (go_simp; done) | (go_simp; with_reducible rfl)
                              try simp only [Act.put, List.setIfInBounds_toArray, List.set_cons_zero, List.set_cons_succ]
                              refine wpAnyH_take (i := 7) (oi := ⟨_, _, _, _, _, _⟩) (v := ?_) rfl (by kernel_rfl) (by kernel_rfl) (by kernel_rfl) (fun _ _ _ h => h) (Or.inl ⟨by rfl, ?_⟩) (by assumption) ?_
                              rotate_left
                              · intro w hSw; (try dsimp only at hSw); obtain ⟨hs1, hs2, hs3⟩ := hSw; first | (go_simp; done) | (go_simp; with_reducible rfl)
                              try simp only [Act.put, List.setIfInBounds_toArray, List.set_cons_zero, List.set_cons_succ]
                              refine wpAnyH_take (i := 8) (oi := ⟨_, _, _, _, _, _⟩) (v := ?_) rfl (by kernel_rfl) (by kernel_rfl) (by kernel_rfl) (fun _ _ _ h => h) (Or.inl ⟨by rfl, ?_⟩) (by assumption) ?_
                              rotate_left
                              · intro w hSw; (try dsimp only at hSw); obtain ⟨hs1, hs2, hs3⟩ := hSw; first | (go_simp; done) | (go_simp; with_reducible rfl)
                              try simp only [Act.put, List.setIfInBounds_toArray, List.set_cons_zero, List.set_cons_succ]
                              refine wpAnyH_take (i := 9) (oi := ⟨_, _, _, _, _, _⟩) (v := ?_) rfl (by kernel_rfl) (by kernel_rfl) (by kernel_rfl) (fun _ _ _ h => h) (Or.inl ⟨by rfl, ?_⟩) (by assumption) ?_
                              rotate_left
                              · intro w hSw; (try dsimp only at hSw); obtain ⟨hs1, hs2, hs3⟩ := hSw; first | (go_simp; done) | (go_simp; with_reducible rfl)
                              try simp only [Act.put, List.setIfInBounds_toArray, List.set_cons_zero, List.set_cons_succ]
                              refine wpAnyH_take (i := 10) (oi := ⟨_, _, _, _, _, _⟩) (v := ?_) rfl (by kernel_rfl) (by kernel_rfl) (by kernel_rfl) (fun _ _ _ h => h) (Or.inl ⟨by rfl, ?_⟩) (by assumption) ?_
                              rotate_left
                              · intro w hSw; (try dsimp only at hSw); obtain ⟨hs1, hs2, hs3⟩ := hSw; first | (go_simp; done) | (go_simp; with_reducible rfl)
                              try simp only [Act.put, List.setIfInBounds_toArray, List.set_cons_zero, List.set_cons_succ]
                              refine wpAnyH_take (i := 11) (oi := ⟨_, _, _, _, _, _⟩) (v := ?_) rfl (by kernel_rfl) (by kernel_rfl) (by kernel_rfl) (fun _ _ _ h => h) (Or.inl ⟨by rfl, ?_⟩) (by assumption) ?_
                              rotate_left
                              · intro w hSw; (try dsimp only at hSw); obtain ⟨hs1, hs2, hs3⟩ := hSw; first | (go_simp; done) | (go_simp; with_reducible rfl)
                              try simp only [Act.put, List.setIfInBounds_toArray, List.set_cons_zero, List.set_cons_succ]
                              refine wpAnyH_take (i := 12) (oi := ⟨_, _, _, _, _, _⟩) (v := ?_) rfl (by kernel_rfl) (by kernel_rfl) (by kernel_rfl) (fun _ _ _ h => h) (Or.inl ⟨by rfl, ?_⟩) (by assumption) ?_
                              rotate_left
                              · intro w hSw; (try dsimp only at hSw); obtain ⟨hs1, hs2, hs3⟩ := hSw; first | (go_simp; done) | (go_simp; with_reducible rfl)
                              try simp only [Act.put, List.setIfInBounds_toArray, List.set_cons_zero, List.set_cons_succ]
                              refine wpAnyH_take (i := 13) (oi := ⟨_, _, _, _, _, _⟩) (v := ?_) rfl (by kernel_rfl) (by kernel_rfl) (by kernel_rfl) (fun _ _ _ h => h) (Or.inl ⟨by rfl, ?_⟩) (by assumption) ?_
                              rotate_left
                              · intro w hSw; (try dsimp only at hSw); obtain ⟨hs1, hs2, hs3⟩ := hSw; first | (go_simp; done) | (go_simp; with_reducible rfl)
                              try simp only [Act.put, List.setIfInBounds_toArray, List.set_cons_zero, List.set_cons_succ]
                              refine wpAnyH_take (i := 14) (oi := ⟨_, _, _, _, _, _⟩) (v := ?_) rfl (by kernel_rfl) (by kernel_rfl) (by kernel_rfl) (fun _ _ _ h => h) (Or.inl ⟨by rfl, ?_⟩) (by assumption) ?_
                              rotate_left
                              · intro w hSw; (try dsimp only at hSw); obtain ⟨hs1, hs2, hs3⟩ := hSw; first | (go_simp; done) | (go_simp; with_reducible rfl)
                              try simp only [Act.put, List.setIfInBounds_toArray, List.set_cons_zero, List.set_cons_succ]
                              refine wpAnyH_take (i := 15) (oi := ⟨_, _, _, _, _, _⟩) (v := ?_) rfl (by kernel_rfl) (by kernel_rfl) (by kernel_rfl) (fun _ _ _ h => h) (Or.inl ⟨by rfl, ?_⟩) (by assumption) ?_
                              rotate_left
                              · intro w hSw; (try dsimp only at hSw); obtain ⟨hs1, hs2, hs3⟩ := hSw; first | (go_simp; done) | (go_simp; with_reducible rfl)
                              try simp only [Act.put, List.setIfInBounds_toArray, List.set_cons_zero, List.set_cons_succ]
                              refine wpAnyH_take (i := 16) (oi := ⟨_, _, _, _, _, _⟩) (v := ?_) rfl (by kernel_rfl) (by kernel_rfl) (by kernel_rfl) (fun _ _ _ h => h) (Or.inl ⟨by rfl, ?_⟩) (by assumption) ?_
                              rotate_left
                              · intro w hSw; (try dsimp only at hSw); obtain ⟨hs1, hs2, hs3⟩ := hSw; first | (go_simp; done) | (go_simp; with_reducible rfl)
                              try simp only [Act.put, List.setIfInBounds_toArray, List.set_cons_zero, List.set_cons_succ]
                              refine wpAnyH_take (i := 17) (oi := ⟨_, _, _, _, _, _⟩) (v := ?_) rfl (by kernel_rfl) (by kernel_rfl) (by kernel_rfl) (fun _ _ _ h => h) (Or.inl ⟨by rfl, ?_⟩) (by assumption) ?_
                              rotate_left
                              · intro w hSw; (try dsimp only at hSw); obtain ⟨hs1, hs2, hs3⟩ := hSw; first | (go_simp; done) | (go_simp; with_reducible rfl)
                              try simp only [Act.put, List.setIfInBounds_toArray, List.set_cons_zero, List.set_cons_succ]
                              refine wpAnyH_take (i := 18) (oi := ⟨_, _, _, _, _, _⟩) (v := ?_) rfl (by kernel_rfl) (by kernel_rfl) (by kernel_rfl) (fun _ _ _ h => h) (Or.inl ⟨by rfl, ?_⟩) (by assumption) ?_
                              rotate_left
                              · intro w hSw; (try dsimp only at hSw); obtain ⟨hs1, hs2, hs3⟩ := hSw; first | (go_simp; done) | (go_simp; with_reducible rfl)
                              try simp only [Act.put, List.setIfInBounds_toArray, List.set_cons_zero, List.set_cons_succ]
                              refine wpAnyH_take (i := 19) (oi := ⟨_, _, _, _, _, _⟩) (v := ?_) rfl (by kernel_rfl) (by kernel_rfl) (by kernel_rfl) (fun _ _ _ h => h) (Or.inl ⟨by rfl, ?_⟩) (by assumption) ?_
                              rotate_left
                              · intro w hSw; (try dsimp only at hSw); obtain ⟨hs1, hs2, hs3⟩ := hSw; first | (go_simp; done) | (go_simp; with_reducible rfl)
                              try simp only [Act.put, List.setIfInBounds_toArray, List.set_cons_zero, List.set_cons_succ]
                              refine wpAnyH_take (i := 20) (oi := ⟨_, _, _, _, _, _⟩) (v := ?_) rfl (by kernel_rfl) (by kernel_rfl) (by kernel_rfl) (fun _ _ _ h => h) (Or.inl ⟨by rfl, ?_⟩) (by assumption) ?_
                              rotate_left
                              · intro w hSw; (try dsimp only at hSw); obtain ⟨hs1, hs2, hs3⟩ := hSw; first | (go_simp; done) | (go_simp; with_reducible rfl)
                              try simp only [Act.put, List.setIfInBounds_toArray, List.set_cons_zero, List.set_cons_succ]
                              refine wpAnyH_take (i := 21) (oi := ⟨_, _, _, _, _, _⟩) (v := ?_) rfl (by kernel_rfl) (by kernel_rfl) (by kernel_rfl) (fun _ _ _ h => h) (Or.inl ⟨by rfl, ?_⟩) (by assumption) ?_
                              rotate_left
                              · intro w hSw; (try dsimp only at hSw); obtain ⟨hs1, hs2, hs3⟩ := hSw; first | (go_simp; done) | (go_simp; with_reducible rfl)
                              try simp only [Act.put, List.setIfInBounds_toArray, List.set_cons_zero, List.set_cons_succ]
                              refine wpAnyH_take (i := 22) (oi := ⟨_, _, _, _, _, _⟩) (v := ?_) rfl (by kernel_rfl) (by kernel_rfl) (by kernel_rfl) (fun _ _ _ h => h) (Or.inl ⟨by rfl, ?_⟩) (by assumption) ?_
                              rotate_left
                              · intro w hSw; (try dsimp only at hSw); obtain ⟨hs1, hs2, hs3⟩ := hSw; first | (go_simp; done) | (go_simp; with_reducible rfl)
                              try simp only [Act.put, List.setIfInBounds_toArray, List.set_cons_zero, List.set_cons_succ]
                              refine wpAnyH_ready (rs := [23]) (by kernel_rfl) (by simp) ?_
                              refine AllReadyH.cons (o := ⟨_, _, _, _, _, _⟩) rfl (fun KK hK => ?_) AllReadyH.nil
                              go_simp
                              go_at_call 74
                              refine (HHij.out _).mono ?_
                              rintro e' w6 ⟨rfl, rfl⟩
                              try go_wp2_with fail
                              refine hK.out _ _ ?_ (fun hHeld => ?_)
                              · (try dsimp only); first | exact ⟨cc', v1', v2'⟩ | exact ⟨nc0, nc1, nc2⟩
                              clear hK KK
                              try simp only [Act.put, List.setIfInBounds_toArray, List.set_cons_zero, List.set_cons_succ]
                              refine wpAnyH_take (i := 24) (oi := ⟨_, _, _, _, _, _⟩) (v := ?_) rfl (by kernel_rfl) (by kernel_rfl) (by kernel_rfl) (fun _ _ _ h => h) (Or.inl ⟨by rfl, ?_⟩) (by assumption) ?_
                              rotate_left
                              · intro w hSw; (try dsimp only at hSw); obtain ⟨hs1, hs2, hs3⟩ := hSw; first | (go_simp; done) | (go_simp; with_reducible rfl)
                              try simp only [Act.put, List.setIfInBounds_toArray, List.set_cons_zero, List.set_cons_succ]
                              refine wpAnyH_take (i := 25) (oi := ⟨_, _, _, _, _, _⟩) (v := ?_) rfl (by kernel_rfl) (by kernel_rfl) (by kernel_rfl) (fun _ _ _ h => h) (Or.inl ⟨by rfl, ?_⟩) (by assumption) ?_
                              rotate_left
                              · intro w hSw; (try dsimp only at hSw); obtain ⟨hs1, hs2, hs3⟩ := hSw; first | (go_simp; done) | (go_simp; with_reducible rfl)
                              try simp only [Act.put, List.setIfInBounds_toArray, List.set_cons_zero, List.set_cons_succ]
                              refine wpAnyH_ready (rs := [26]) (by kernel_rfl) (by simp) ?_
                              refine AllReadyH.cons (o := ⟨_, _, _, _, _, _⟩) rfl (fun KK hK => ?_) AllReadyH.nil
                              go_simp
                              refine hK.out _ _ ?_ (fun hHeld => ?_)
                              · (try dsimp only); first | exact ⟨cc', v1', v2'⟩ | exact ⟨nc0, nc1, nc2⟩
                              clear hK KK
                              try simp only [Act.put, List.setIfInBounds_toArray, List.set_cons_zero, List.set_cons_succ]
                              refine wpAnyH_done (by kernel_rfl) ?_ _
                              refine NoPanic.normal ?_
                              all_goals
                                clear a1 a2 a3 b1 b2' b3 HHij vw1 vw2
                                go_wp2_with fail
                                exact ⟨⟨j + 1, by omega, by go_num, (by rw [HT2.out]; exact nA.out _), nB.out _⟩, by simp [intOf]; omega⟩
                            | false =>
                              have e2 : t2 = false := by have := NXT.out; simpa using this
                              subst e2
                              clear NXT
                              have my' : wr.drew.cell? ⟨gi, 1, none⟩ = some (.bool false) := my
                              go_upto_region 27 with (fail)
                              refine wp_region_noPanic ?_
                              refine wp_region_held_drew (S := fun w' => True) (by kernel_rfl) ?_ (fun hHeld => ?_)
                              · trivial
                              refine wpAnyH_take (i := 0) (oi := ⟨_, _, _, _, _, _⟩) (v := ?_) rfl (by kernel_rfl) (by kernel_rfl) (by kernel_rfl) (fun _ _ _ h => h) (Or.inl ⟨by rfl, ?_⟩) (by assumption) ?_
                              rotate_left
                              · intro w hSw; (try dsimp only at hSw); first | (go_simp; done) | (go_simp; with_reducible rfl)
                              try simp only [Act.put, List.setIfInBounds_toArray, List.set_cons_zero, List.set_cons_succ]
                              refine wpAnyH_take (i := 1) (oi := ⟨_, _, _, _, _, _⟩) (v := ?_) rfl (by kernel_rfl) (by kernel_rfl) (by kernel_rfl) (fun _ _ _ h => h) (Or.inl ⟨by rfl, ?_⟩) (by assumption) ?_
                              rotate_left
                              · intro w hSw; (try dsimp only at hSw); first | (go_simp; done) | (go_simp; with_reducible rfl)
                              try simp only [Act.put, List.setIfInBounds_toArray, List.set_cons_zero, List.set_cons_succ]
                              refine wpAnyH_take (i := 2) (oi := ⟨_, _, _, _, _, _⟩) (v := ?_) rfl (by kernel_rfl) (by kernel_rfl) (by kernel_rfl) (fun _ _ _ h => h) (Or.inl ⟨by rfl, ?_⟩) (by assumption) ?_
                              rotate_left
                              · intro w hSw; (try dsimp only at hSw); first | (go_simp; done) | (go_simp; with_reducible rfl)
                              try simp only [Act.put, List.setIfInBounds_toArray, List.set_cons_zero, List.set_cons_succ]
                              refine wpAnyH_ready (rs := [3]) (by kernel_rfl) (by simp) ?_
                              refine AllReadyH.cons (o := ⟨_, _, _, _, _, _⟩) rfl (fun KK hK => ?_) AllReadyH.nil
                              go_simp
                              refine hK.out _ _ ?_ (fun hHeld => ?_)
                              · trivial
                              clear hK KK
                              try simp only [Act.put, List.setIfInBounds_toArray, List.set_cons_zero, List.set_cons_succ]
                              refine wpAnyH_take (i := 4) (oi := ⟨_, _, _, _, _, _⟩) (v := ?_) rfl (by kernel_rfl) (by kernel_rfl) (by kernel_rfl) (fun _ _ _ h => h) (Or.inl ⟨by rfl, ?_⟩) (by assumption) ?_
                              rotate_left
                              · intro w hSw; (try dsimp only at hSw); first | (go_simp; done) | (go_simp; with_reducible rfl)
                              try simp only [Act.put, List.setIfInBounds_toArray, List.set_cons_zero, List.set_cons_succ]
                              refine wpAnyH_take (i := 5) (oi := ⟨_, _, _, _, _, _⟩) (v := undef) rfl (by kernel_rfl) (by kernel_rfl) (by kernel_rfl) (fun _ _ _ h => h) (Or.inr ⟨by rfl, rfl⟩) (by assumption) ?_
                              try simp only [Act.put, List.setIfInBounds_toArray, List.set_cons_zero, List.set_cons_succ]
                              refine wpAnyH_take (i := 6) (oi := ⟨_, _, _, _, _, _⟩) (v := undef) rfl (by kernel_rfl) (by kernel_rfl) (by kernel_rfl) (fun _ _ _ h => h) (Or.inr ⟨by rfl, rfl⟩) (by assumption) ?_
                              try simp only [Act.put, List.setIfInBounds_toArray, List.set_cons_zero, List.set_cons_succ]
                              refine wpAnyH_take (i := 7) (oi := ⟨_, _, _, _, _, _⟩) (v := undef) rfl (by kernel_rfl) (by kernel_rfl) (by kernel_rfl) (fun _ _ _ h => h) (Or.inr ⟨by rfl, rfl⟩) (by assumption) ?_
                              try simp only [Act.put, List.setIfInBounds_toArray, List.set_cons_zero, List.set_cons_succ]
                              refine wpAnyH_take (i := 8) (oi := ⟨_, _, _, _, _, _⟩) (v := undef) rfl (by kernel_rfl) (by kernel_rfl) (by kernel_rfl) (fun _ _ _ h => h) (Or.inr ⟨by rfl, rfl⟩) (by assumption) ?_
                              try simp only [Act.put, List.setIfInBounds_toArray, List.set_cons_zero, List.set_cons_succ]
                              refine wpAnyH_take (i := 9) (oi := ⟨_, _, _, _, _, _⟩) (v := undef) rfl (by kernel_rfl) (by kernel_rfl) (by kernel_rfl) (fun _ _ _ h => h) (Or.inr ⟨by rfl, rfl⟩) (by assumption) ?_
                              try simp only [Act.put, List.setIfInBounds_toArray, List.set_cons_zero, List.set_cons_succ]
                              refine wpAnyH_take (i := 10) (oi := ⟨_, _, _, _, _, _⟩) (v := undef) rfl (by kernel_rfl) (by kernel_rfl) (by kernel_rfl) (fun _ _ _ h => h) (Or.inr ⟨by rfl, rfl⟩) (by assumption) ?_
                              try simp only [Act.put, List.setIfInBounds_toArray, List.set_cons_zero, List.set_cons_succ]
                              refine wpAnyH_take (i := 11) (oi := ⟨_, _, _, _, _, _⟩) (v := undef) rfl (by kernel_rfl) (by kernel_rfl) (by kernel_rfl) (fun _ _ _ h => h) (Or.inr ⟨by rfl, rfl⟩) (by assumption) ?_
                              try simp only [Act.put, List.setIfInBounds_toArray, List.set_cons_zero, List.set_cons_succ]
                              refine wpAnyH_take (i := 12) (oi := ⟨_, _, _, _, _, _⟩) (v := undef) rfl (by kernel_rfl) (by kernel_rfl) (by kernel_rfl) (fun _ _ _ h => h) (Or.inr ⟨by rfl, rfl⟩) (by assumption) ?_
                              try simp only [Act.put, List.setIfInBounds_toArray, List.set_cons_zero, List.set_cons_succ]
                              refine wpAnyH_take (i := 13) (oi := ⟨_, _, _, _, _, _⟩) (v := undef) rfl (by kernel_rfl) (by kernel_rfl) (by kernel_rfl) (fun _ _ _ h => h) (Or.inr ⟨by rfl, rfl⟩) (by assumption) ?_
                              try simp only [Act.put, List.setIfInBounds_toArray, List.set_cons_zero, List.set_cons_succ]
                              refine wpAnyH_take (i := 14) (oi := ⟨_, _, _, _, _, _⟩) (v := undef) rfl (by kernel_rfl) (by kernel_rfl) (by kernel_rfl) (fun _ _ _ h => h) (Or.inr ⟨by rfl, rfl⟩) (by assumption) ?_
                              try simp only [Act.put, List.setIfInBounds_toArray, List.set_cons_zero, List.set_cons_succ]
                              refine wpAnyH_take (i := 15) (oi := ⟨_, _, _, _, _, _⟩) (v := undef) rfl (by kernel_rfl) (by kernel_rfl) (by kernel_rfl) (fun _ _ _ h => h) (Or.inr ⟨by rfl, rfl⟩) (by assumption) ?_
                              try simp only [Act.put, List.setIfInBounds_toArray, List.set_cons_zero, List.set_cons_succ]
                              refine wpAnyH_take (i := 16) (oi := ⟨_, _, _, _, _, _⟩) (v := undef) rfl (by kernel_rfl) (by kernel_rfl) (by kernel_rfl) (fun _ _ _ h => h) (Or.inr ⟨by rfl, rfl⟩) (by assumption) ?_
                              try simp only [Act.put, List.setIfInBounds_toArray, List.set_cons_zero, List.set_cons_succ]
                              refine wpAnyH_take (i := 17) (oi := ⟨_, _, _, _, _, _⟩) (v := undef) rfl (by kernel_rfl) (by kernel_rfl) (by kernel_rfl) (fun _ _ _ h => h) (Or.inr ⟨by rfl, rfl⟩) (by assumption) ?_
                              try simp only [Act.put, List.setIfInBounds_toArray, List.set_cons_zero, List.set_cons_succ]
                              refine wpAnyH_take (i := 18) (oi := ⟨_, _, _, _, _, _⟩) (v := undef) rfl (by kernel_rfl) (by kernel_rfl) (by kernel_rfl) (fun _ _ _ h => h) (Or.inr ⟨by rfl, rfl⟩) (by assumption) ?_
                              try simp only [Act.put, List.setIfInBounds_toArray, List.set_cons_zero, List.set_cons_succ]
                              refine wpAnyH_take (i := 19) (oi := ⟨_, _, _, _, _, _⟩) (v := undef) rfl (by kernel_rfl) (by kernel_rfl) (by kernel_rfl) (fun _ _ _ h => h) (Or.inr ⟨by rfl, rfl⟩) (by assumption) ?_
                              try simp only [Act.put, List.setIfInBounds_toArray, List.set_cons_zero, List.set_cons_succ]
                              refine wpAnyH_take (i := 20) (oi := ⟨_, _, _, _, _, _⟩) (v := undef) rfl (by kernel_rfl) (by kernel_rfl) (by kernel_rfl) (fun _ _ _ h => h) (Or.inr ⟨by rfl, rfl⟩) (by assumption) ?_
                              try simp only [Act.put, List.setIfInBounds_toArray, List.set_cons_zero, List.set_cons_succ]
                              refine wpAnyH_take (i := 21) (oi := ⟨_, _, _, _, _, _⟩) (v := undef) rfl (by kernel_rfl) (by kernel_rfl) (by kernel_rfl) (fun _ _ _ h => h) (Or.inr ⟨by rfl, rfl⟩) (by assumption) ?_
                              try simp only [Act.put, List.setIfInBounds_toArray, List.set_cons_zero, List.set_cons_succ]
                              refine wpAnyH_take (i := 22) (oi := ⟨_, _, _, _, _, _⟩) (v := undef) rfl (by kernel_rfl) (by kernel_rfl) (by kernel_rfl) (fun _ _ _ h => h) (Or.inr ⟨by rfl, rfl⟩) (by assumption) ?_
                              try simp only [Act.put, List.setIfInBounds_toArray, List.set_cons_zero, List.set_cons_succ]
                              refine wpAnyH_take (i := 23) (oi := ⟨_, _, _, _, _, _⟩) (v := undef) rfl (by kernel_rfl) (by kernel_rfl) (by kernel_rfl) (fun _ _ _ h => h) (Or.inr ⟨by rfl, rfl⟩) (by assumption) ?_
                              try simp only [Act.put, List.setIfInBounds_toArray, List.set_cons_zero, List.set_cons_succ]
                              refine wpAnyH_take (i := 24) (oi := ⟨_, _, _, _, _, _⟩) (v := ?_) rfl (by kernel_rfl) (by kernel_rfl) (by kernel_rfl) (fun _ _ _ h => h) (Or.inl ⟨by rfl, ?_⟩) (by assumption) ?_
                              rotate_left
                              · intro w hSw; (try dsimp only at hSw); first | (go_simp; done) | (go_simp; with_reducible rfl)
                              try simp only [Act.put, List.setIfInBounds_toArray, List.set_cons_zero, List.set_cons_succ]
                              refine wpAnyH_take (i := 25) (oi := ⟨_, _, _, _, _, _⟩) (v := ?_) rfl (by kernel_rfl) (by kernel_rfl) (by kernel_rfl) (fun _ _ _ h => h) (Or.inl ⟨by rfl, ?_⟩) (by assumption) ?_
                              rotate_left
                              · intro w hSw; (try dsimp only at hSw); first | (go_simp; done) | (go_simp; with_reducible rfl)
                              try simp only [Act.put, List.setIfInBounds_toArray, List.set_cons_zero, List.set_cons_succ]
                              refine wpAnyH_ready (rs := [26]) (by kernel_rfl) (by simp) ?_
                              refine AllReadyH.cons (o := ⟨_, _, _, _, _, _⟩) rfl (fun KK hK => ?_) AllReadyH.nil
                              go_simp
                              refine hK.out _ _ ?_ (fun hHeld => ?_)
                              · trivial
                              clear hK KK
                              try simp only [Act.put, List.setIfInBounds_toArray, List.set_cons_zero, List.set_cons_succ]
                              refine wpAnyH_done (by kernel_rfl) ?_ _
                              refine NoPanic.normal ?_
                              all_goals
                                clear a1 a2 a3 b1 b2' b3 HHij vw1 vw2
                                go_wp2_with fail
                                exact ⟨⟨j + 1, by omega, by go_num, (by rw [HT2.out]; exact nA.out _), nB.out _⟩, by simp [intOf]; omega⟩
                          · have cj1 : ¬ ((j : Int) ≤ (N : Int)) := by omega
                            have ej : i * (N + 1) + j = (i + 1) * (N + 1) := by rw [Nat.add_mul, Nat.one_mul]; omega
                            have F8 : Hid (Ask wr gi gv N 1 (inA N c1 (VK l0 l1 1) ((i + 1) * (N + 1))) u (VK l0 l1 1)) := by rw [← ej]; exact hA
                            clear ej hA
                            go_wp2_with fail
                            go_roundw
                            case rel => exact ⟨i + 1, by omega, by go_num, F8, hB7⟩
                            case measure => first | (simp [intOf]; done) | (simp [intOf]; omega)
                      · have ci1 : ¬ ((i : Int) ≤ (N : Int)) := by omega
                        have ei : i * (N + 1) = m := by rw [show i = N + 1 by omega]; exact HEnd.out
                        have hA2 := hA.out
                        rw [ei, SAME.out 1, ← HT0.out] at hA2
                        have lt := World.block_lt_of_cell? _ _ hA2.mine
                        have c0' : Hid (wr.cell? ⟨gi, 0, none⟩ = some (.bool (if 1 ≤ 1 + 1 then T0 else true))) := by
                          show _ = _
                          rw [if_pos (by omega)]
                          have := hA2.other; rw [OTH.out.1 (by first | rfl | trivial)] at this; exact this
                        have c1' : Hid (wr.cell? ⟨gi, 1, none⟩ = some (.bool (if 2 ≤ 1 + 1 then T0 else true))) := by
                          show _ = _
                          rw [if_pos (by omega)]; exact hA2.mine
                        have fr' := hideD hA2.free
                        have lt' := hideD lt
                        clear ei hA hA2 lt HH IN HPl HMul
                        go_wp2_with fail
                        go_roundw
                        case rel => exact ⟨1 + 1, by omega, by go_num, c0', c1', fr', lt', hB6⟩
                        case measure => first | (simp [intOf]; done) | (simp [intOf]; omega)
                · have k3 : ¬ ((K : Int) = 1) := by omega
                  have ASK : Hid (Ask wr gi gv N K true u (VK l0 l1 K)) := full.out.congr fun j hj => by unfold VK; rw [if_pos (by omega)]
                  have BB6 := hB6
                  clear full hB6
                  go_upto_region 21 with (fail)
                  clear xc yc
                  have F0 : Hid (Ask wr gi gv N K (inA N c1 (VK l0 l1 K) (0 * (N + 1))) u (VK l0 l1 K)) := by rw [Nat.zero_mul]; exact ASK
                  clear ASK
                  go_wp2_with fail
                  go_loopw [16] (fun s w6 => ∃ (i : Nat), i ≤ N + 1 ∧ s = .int .i64 (i : Int) ∧ Hid (Ask w6 gi gv N K (inA N c1 (VK l0 l1 K) (i * (N + 1))) u (VK l0 l1 K)) ∧ Hid (Below w3.heap.size w3 w6)) (fun s _ => N + 1 - (intOf s).toNat)
                  case atStart => exact ⟨0, by omega, rfl, F0, BB6⟩
                  case round =>
                    obtain ⟨i, hi, rfl, hA, hB6⟩ := hrel
                    clear F0 BB6
                    by_cases ci : i ≤ N
                    · have ci1 : (i : Int) ≤ (N : Int) := by omega
                      have F1 : Hid (Ask wr gi gv N K (inA N c1 (VK l0 l1 K) (i * (N + 1) + 0)) u (VK l0 l1 K)) := hA.out
                      clear hA
                      go_wp2_with fail
                      go_loopw [17] (fun s w6 => ∃ (j : Nat), j ≤ N + 1 ∧ s = .int .i64 (j : Int) ∧ Hid (Ask w6 gi gv N K (inA N c1 (VK l0 l1 K) (i * (N + 1) + j)) u (VK l0 l1 K)) ∧ Hid (Below w3.heap.size w3 w6)) (fun s _ => N + 1 - (intOf s).toNat)
                      case atStart => exact ⟨0, by omega, rfl, F1, hB6⟩
                      case round =>
                        obtain ⟨j, hj, rfl, hA, hB7⟩ := hrel
                        clear F1 hB6
                        by_cases cj : j ≤ N
                        · have cj1 : (j : Int) ≤ (N : Int) := by omega
                          obtain ⟨pl, pd, pm⟩ := HPl.out i j ci cj
                          have nx := IN.out K (i * (N + 1) + j)
                          rw [pd, pm] at nx
                          have A1 := hideD (HMul.out i)
                          have HHij := hideD (fun w' => HH.out (i * (N + 1) + j) K i j w' ci cj)
                          have cc := kc _ _ hB7.out (hcc.out _ pl)
                          have v1 := hA.out.vals i ci
                          have v2 := hA.out.vals j cj
                          have my := hA.out.mine
                          have fr := hA.out.free K
                          have bi := BD.out K i
                          have bj := BD.out K j
                          have nA : Hid (∀ b, Ask ((wr.setCell ⟨gi, K, none⟩ (.bool b)).drew) gi gv N K b u (VK l0 l1 K)) := fun b => (hA.out.set (by omega) b).drew
                          have nB : Hid (∀ b : Bool, Below w3.heap.size w3 ((wr.setCell ⟨gi, K, none⟩ (.bool b)).drew)) := fun b => (hB7.out.setCell (p := ⟨gi, K, none⟩) (show w3.heap.size ≤ gi by have := HGI.out; omega) _).drew
                          have NC0 : Hid (∀ x : Bool, ((wr.setCell ⟨gi, K, none⟩ (.bool x)).drew).cell? ⟨gc, i * (N + 1) + j, none⟩ = some (.int .i32 (c1 (i * (N + 1) + j)))) := fun x => by
                            show (wr.setCell _ _).cell? _ = _
                            have gcl := World.block_lt_of_cell? _ _ (hcc.out _ pl)
                            have gne : ¬ gc = gi := by have := HGI.out; have h3 : gc < w3.heap.size := gcl; omega
                            rw [World.cell?_setCell_other _ _ _ _ (by intro e; injection e; omega)]
                            exact cc
                          have NC1 : Hid (∀ x : Bool, ((wr.setCell ⟨gi, K, none⟩ (.bool x)).drew).cell? ⟨gv, i, none⟩ = some (.int .i64 (VK l0 l1 K i))) := fun x => (nA.out x).vals i ci
                          have NC2 : Hid (∀ x : Bool, ((wr.setCell ⟨gi, K, none⟩ (.bool x)).drew).cell? ⟨gv, j, none⟩ = some (.int .i64 (VK l0 l1 K j))) := fun x => (nA.out x).vals j cj
                          have NX := hideD nx
                          generalize inA N c1 (VK l0 l1 K) (i * (N + 1) + j) = t at *
                          generalize i * (N + 1) = A at *
                          have s1 : A ≤ 1000000 := by omega
                          have s2 : A + j ≤ 1000000 := by omega
                          have s3 : N + 1 ≤ 1000000 := by omega
                          have E1 : Hid (wrap64 ((N : Int) + 1) = (N : Int) + 1) := wrap_small (k := N + 1) s3
                          have E2 : Hid (wrap64 ((i : Int) * ((N : Int) + 1)) = (A : Int)) := by show _ = _; rw [A1.out]; exact wrap_small s1
                          have E3 : Hid (wrap64 ((A : Int) + (j : Int)) = ((A + j : Nat) : Int)) := wrap_small (k := A + j) s2
                          have D1 : Hid (IntKind.i64.wrap ((N : Int) + 1) = (N : Int) + 1) := wrap_smallK (k := N + 1) s3
                          have D2 : Hid (IntKind.i64.wrap ((i : Int) * ((N : Int) + 1)) = (A : Int)) := by show _ = _; rw [A1.out]; exact wrap_smallK s1
                          have D3 : Hid (IntKind.i64.wrap ((A : Int) + (j : Int)) = ((A + j : Nat) : Int)) := wrap_smallK (k := A + j) s2
                          have pl1 : ((A + j : Nat) : Int) < (m : Int) := by omega
                          have NXT : Hid (inA N c1 (VK l0 l1 K) (A + (j + 1)) = (t && holdsB (c1 (A + j)) (VK l0 l1 K i - VK l0 l1 K j) 2)) := by rw [← Nat.add_assoc]; exact nx
                          generalize hT2 : inA N c1 (VK l0 l1 K) (A + (j + 1)) = t2 at *
                          have HT2 := hideD hT2
                          clear hT2
                          generalize holdsB (c1 (A + j)) (VK l0 l1 K i - VK l0 l1 K j) 2 = hb2 at *
                          generalize c1 (A + j) = b2 at *
                          have W1 : Hid (wrap64 (VK l0 l1 K i - VK l0 l1 K j) = VK l0 l1 K i - VK l0 l1 K j) := by show _ = _; unfold wrap64; omega
                          have W2 : Hid (IntKind.i64.wrap (VK l0 l1 K i - VK l0 l1 K j) = VK l0 l1 K i - VK l0 l1 K j) := by show _ = _; rw [IntKind.wrap_i64]; omega
                          generalize VK l0 l1 K i = vi at *
                          generalize VK l0 l1 K j = vj at *
                          have vw1 := W1.out
                          have vw2 := W2.out
                          generalize hP : A + j = P at *
                          clear hP s1 s2 s3 hA hB7 HPl HEnd HMul HH IN SAME BD I0 I1 M0 M1 HV INC nx A1 pl pd pm bi bj NX W1 W2 hcc
                          have i0' : (0 : Int) ≤ (i : Int) := by omega
                          have j0' : (0 : Int) ≤ (j : Int) := by omega
                          have i9 : (i : Int) < (N : Int) + 1 := by omega
                          have j9 : (j : Int) < (N : Int) + 1 := by omega
                          have a1 := E1.out
                          have a2 := E2.out
                          have a3 := E3.out
                          have b1 := D1.out
                          have b2' := D2.out
                          have b3 := D3.out
                          clear E1 E2 E3 D1 D2 D3
                          cases t with
                          | true =>
                            have e2 : t2 = hb2 := by have := NXT.out; simpa using this
                            subst e2
                            clear NXT
                            have my' : wr.drew.cell? ⟨gi, K, none⟩ = some (.bool true) := my
                            have cc' : wr.drew.cell? ⟨gc, P, none⟩ = some (.int .i32 b2) := cc
                            have v1' : wr.drew.cell? ⟨gv, i, none⟩ = some (.int .i64 vi) := v1
                            have v2' : wr.drew.cell? ⟨gv, j, none⟩ = some (.int .i64 vj) := v2
                            have nc0 : ((wr.setCell ⟨gi, K, none⟩ (.bool t2)).drew).cell? ⟨gc, P, none⟩ = some (.int .i32 b2) := NC0.out t2
                            have nc1 : ((wr.setCell ⟨gi, K, none⟩ (.bool t2)).drew).cell? ⟨gv, i, none⟩ = some (.int .i64 vi) := NC1.out t2
                            have nc2 : ((wr.setCell ⟨gi, K, none⟩ (.bool t2)).drew).cell? ⟨gv, j, none⟩ = some (.int .i64 vj) := NC2.out t2
                            go_upto_region 27 with (fail)
                            refine wp_region_noPanic ?_
                            refine wp_region_held_drew (S := fun w' => w'.cell? ⟨gc, P, none⟩ = some (.int .i32 b2) ∧ w'.cell? ⟨gv, i, none⟩ = some (.int .i64 vi) ∧ w'.cell? ⟨gv, j, none⟩ = some (.int .i64 vj)) (by kernel_rfl) ?_ (fun hHeld => ?_)
                            · (try dsimp only); first | exact ⟨cc', v1', v2'⟩ | exact ⟨nc0, nc1, nc2⟩
                            refine wpAnyH_take (i := 0) (oi := ⟨_, _, _, _, _, _⟩) (v := ?_) rfl (by kernel_rfl) (by kernel_rfl) (by kernel_rfl) (fun _ _ _ h => h) (Or.inl ⟨by rfl, ?_⟩) (by assumption) ?_
                            rotate_left
                            · intro w hSw; (try dsimp only at hSw); obtain ⟨hs1, hs2, hs3⟩ := hSw; first | (go_simp; done) | (go_simp; with_reducible rfl)
                            try simp only [Act.put, List.setIfInBounds_toArray, List.set_cons_zero, List.set_cons_succ]
                            refine wpAnyH_take (i := 1) (oi := ⟨_, _, _, _, _, _⟩) (v := ?_) rfl (by kernel_rfl) (by kernel_rfl) (by kernel_rfl) (fun _ _ _ h => h) (Or.inl ⟨by rfl, ?_⟩) (by assumption) ?_
                            rotate_left
                            · intro w hSw; (try dsimp only at hSw); obtain ⟨hs1, hs2, hs3⟩ := hSw; first | (go_simp; done) | (go_simp; with_reducible rfl)
                            try simp only [Act.put, List.setIfInBounds_toArray, List.set_cons_zero, List.set_cons_succ]
                            refine wpAnyH_take (i := 2) (oi := ⟨_, _, _, _, _, _⟩) (v := ?_) rfl (by kernel_rfl) (by kernel_rfl) (by kernel_rfl) (fun _ _ _ h => h) (Or.inl ⟨by rfl, ?_⟩) (by assumption) ?_
                            rotate_left
                            · intro w hSw; (try dsimp only at hSw); obtain ⟨hs1, hs2, hs3⟩ := hSw; first | (go_simp; done) | (go_simp; with_reducible rfl)
                            try simp only [Act.put, List.setIfInBounds_toArray, List.set_cons_zero, List.set_cons_succ]
                            refine wpAnyH_ready (rs := [3]) (by kernel_rfl) (by simp) ?_
                            refine AllReadyH.cons (o := ⟨_, _, _, _, _, _⟩) rfl (fun KK hK => ?_) AllReadyH.nil
                            go_simp
                            refine hK.out _ _ ?_ (fun hHeld => ?_)
                            · (try dsimp only); first | exact ⟨cc', v1', v2'⟩ | exact ⟨nc0, nc1, nc2⟩
                            clear hK KK
                            try simp only [Act.put, List.setIfInBounds_toArray, List.set_cons_zero, List.set_cons_succ]
                            refine wpAnyH_take (i := 4) (oi := ⟨_, _, _, _, _, _⟩) (v := ?_) rfl (by kernel_rfl) (by kernel_rfl) (by kernel_rfl) (fun _ _ _ h => h) (Or.inl ⟨by rfl, ?_⟩) (by assumption) ?_
                            rotate_left
                            · intro w hSw; (try dsimp only at hSw); obtain ⟨hs1, hs2, hs3⟩ := hSw; first | (go_simp; done) | (go_simp; with_reducible rfl)
                            try simp only [Act.put, List.setIfInBounds_toArray, List.set_cons_zero, List.set_cons_succ]
                            refine wpAnyH_take (i := 5) (oi := ⟨_, _, _, _, _, _⟩) (v := ?_) rfl (by kernel_rfl) (by kernel_rfl) (by kernel_rfl) (fun _ _ _ h => h) (Or.inl ⟨by rfl, ?_⟩) (by assumption) ?_
                            rotate_left
                            · intro w hSw; (try dsimp only at hSw); obtain ⟨hs1, hs2, hs3⟩ := hSw; first | (go_simp; done) | (go_simp; with_reducible rfl)
                            try simp only [Act.put, List.setIfInBounds_toArray, List.set_cons_zero, List.set_cons_succ]
                            refine wpAnyH_take (i := 6) (oi := ⟨_, _, _, _, _, _⟩) (v := ?_) rfl (by kernel_rfl) (by kernel_rfl) (by kernel_rfl) (fun _ _ _ h => h) (Or.inl ⟨by rfl, ?_⟩) (by assumption) ?_
                            rotate_left
                            · intro w hSw; (try dsimp only at hSw); obtain ⟨hs1, hs2, hs3⟩ := hSw; first | (go_simp; done) | (go_simp; with_reducible rfl)
                            try simp only [Act.put, List.setIfInBounds_toArray, List.set_cons_zero, List.set_cons_succ]
                            refine wpAnyH_take (i := 7) (oi := ⟨_, _, _, _, _, _⟩) (v := ?_) rfl (by kernel_rfl) (by kernel_rfl) (by kernel_rfl) (fun _ _ _ h => h) (Or.inl ⟨by rfl, ?_⟩) (by assumption) ?_
                            rotate_left
                            · intro w hSw; (try dsimp only at hSw); obtain ⟨hs1, hs2, hs3⟩ := hSw; first | (go_simp; done) | (go_simp; with_reducible rfl)
                            try simp only [Act.put, List.setIfInBounds_toArray, List.set_cons_zero, List.set_cons_succ]
                            refine wpAnyH_take (i := 8) (oi := ⟨_, _, _, _, _, _⟩) (v := ?_) rfl (by kernel_rfl) (by kernel_rfl) (by kernel_rfl) (fun _ _ _ h => h) (Or.inl ⟨by rfl, ?_⟩) (by assumption) ?_
                            rotate_left
                            · intro w hSw; (try dsimp only at hSw); obtain ⟨hs1, hs2, hs3⟩ := hSw; first | (go_simp; done) | (go_simp; with_reducible rfl)
                            try simp only [Act.put, List.setIfInBounds_toArray, List.set_cons_zero, List.set_cons_succ]
                            refine wpAnyH_take (i := 9) (oi := ⟨_, _, _, _, _, _⟩) (v := ?_) rfl (by kernel_rfl) (by kernel_rfl) (by kernel_rfl) (fun _ _ _ h => h) (Or.inl ⟨by rfl, ?_⟩) (by assumption) ?_
                            rotate_left
                            · intro w hSw; (try dsimp only at hSw); obtain ⟨hs1, hs2, hs3⟩ := hSw; first | (go_simp; done) | (go_simp; with_reducible rfl)
                            try simp only [Act.put, List.setIfInBounds_toArray, List.set_cons_zero, List.set_cons_succ]
                            refine wpAnyH_take (i := 10) (oi := ⟨_, _, _, _, _, _⟩) (v := ?_) rfl (by kernel_rfl) (by kernel_rfl) (by kernel_rfl) (fun _ _ _ h => h) (Or.inl ⟨by rfl, ?_⟩) (by assumption) ?_
                            rotate_left
                            · intro w hSw; (try dsimp only at hSw); obtain ⟨hs1, hs2, hs3⟩ := hSw; first | (go_simp; done) | (go_simp; with_reducible rfl)
                            try simp only [Act.put, List.setIfInBounds_toArray, List.set_cons_zero, List.set_cons_succ]
                            refine wpAnyH_take (i := 11) (oi := ⟨_, _, _, _, _, _⟩) (v := ?_) rfl (by kernel_rfl) (by kernel_rfl) (by kernel_rfl) (fun _ _ _ h => h) (Or.inl ⟨by rfl, ?_⟩) (by assumption) ?_
                            rotate_left
                            · intro w hSw; (try dsimp only at hSw); obtain ⟨hs1, hs2, hs3⟩ := hSw; first | (go_simp; done) | (go_simp; with_reducible rfl)
                            try simp only [Act.put, List.setIfInBounds_toArray, List.set_cons_zero, List.set_cons_succ]
                            refine wpAnyH_take (i := 12) (oi := ⟨_, _, _, _, _, _⟩) (v := ?_) rfl (by kernel_rfl) (by kernel_rfl) (by kernel_rfl) (fun _ _ _ h => h) (Or.inl ⟨by rfl, ?_⟩) (by assumption) ?_
                            rotate_left
                            · intro w hSw; (try dsimp only at hSw); obtain ⟨hs1, hs2, hs3⟩ := hSw; first | (go_simp; done) | (go_simp; with_reducible rfl)
                            try simp only [Act.put, List.setIfInBounds_toArray, List.set_cons_zero, List.set_cons_succ]
                            refine wpAnyH_take (i := 13) (oi := ⟨_, _, _, _, _, _⟩) (v := ?_) rfl (by kernel_rfl) (by kernel_rfl) (by kernel_rfl) (fun _ _ _ h => h) (Or.inl ⟨by rfl, ?_⟩) (by assumption) ?_
                            rotate_left
                            · intro w hSw; (try dsimp only at hSw); obtain ⟨hs1, hs2, hs3⟩ := hSw; first | (go_simp; done) | (go_simp; with_reducible rfl)
                            try simp only [Act.put, List.setIfInBounds_toArray, List.set_cons_zero, List.set_cons_succ]
                            refine wpAnyH_take (i := 14) (oi := ⟨_, _, _, _, _, _⟩) (v := ?_) rfl (by kernel_rfl) (by kernel_rfl) (by kernel_rfl) (fun _ _ _ h => h) (Or.inl ⟨by rfl, ?_⟩) (by assumption) ?_
                            rotate_left
                            · intro w hSw; (try dsimp only at hSw); obtain ⟨hs1, hs2, hs3⟩ := hSw; first | (go_simp; done) | (go_simp; with_reducible rfl)
                            try simp only [Act.put, List.setIfInBounds_toArray, List.set_cons_zero, List.set_cons_succ]
                            refine wpAnyH_take (i := 15) (oi := ⟨_, _, _, _, _, _⟩) (v := ?_) rfl (by kernel_rfl) (by kernel_rfl) (by kernel_rfl) (fun _ _ _ h => h) (Or.inl ⟨by rfl, ?_⟩) (by assumption) ?_
                            rotate_left
                            · intro w hSw; (try dsimp only at hSw); obtain ⟨hs1, hs2, hs3⟩ := hSw; first | (go_simp; done) | (go_simp; with_reducible rfl)
                            try simp only [Act.put, List.setIfInBounds_toArray, List.set_cons_zero, List.set_cons_succ]
                            refine wpAnyH_take (i := 16) (oi := ⟨_, _, _, _, _, _⟩) (v := ?_) rfl (by kernel_rfl) (by kernel_rfl) (by kernel_rfl) (fun _ _ _ h => h) (Or.inl ⟨by rfl, ?_⟩) (by assumption) ?_
                            rotate_left
                            · intro w hSw; (try dsimp only at hSw); obtain ⟨hs1, hs2, hs3⟩ := hSw; first | (go_simp; done) | (go_simp; with_reducible rfl)
                            try simp only [Act.put, List.setIfInBounds_toArray, List.set_cons_zero, List.set_cons_succ]
                            refine wpAnyH_take (i := 17) (oi := ⟨_, _, _, _, _, _⟩) (v := ?_) rfl (by kernel_rfl) (by kernel_rfl) (by kernel_rfl) (fun _ _ _ h => h) (Or.inl ⟨by rfl, ?_⟩) (by assumption) ?_
                            rotate_left
                            · intro w hSw; (try dsimp only at hSw); obtain ⟨hs1, hs2, hs3⟩ := hSw; first | (go_simp; done) | (go_simp; with_reducible rfl)
                            try simp only [Act.put, List.setIfInBounds_toArray, List.set_cons_zero, List.set_cons_succ]
                            refine wpAnyH_take (i := 18) (oi := ⟨_, _, _, _, _, _⟩) (v := ?_) rfl (by kernel_rfl) (by kernel_rfl) (by kernel_rfl) (fun _ _ _ h => h) (Or.inl ⟨by rfl, ?_⟩) (by assumption) ?_
                            rotate_left
                            · intro w hSw; (try dsimp only at hSw); obtain ⟨hs1, hs2, hs3⟩ := hSw; first | (go_simp; done) | (go_simp; with_reducible rfl)
                            try simp only [Act.put, List.setIfInBounds_toArray, List.set_cons_zero, List.set_cons_succ]
                            refine wpAnyH_take (i := 19) (oi := ⟨_, _, _, _, _, _⟩) (v := ?_) rfl (by kernel_rfl) (by kernel_rfl) (by kernel_rfl) (fun _ _ _ h => h) (Or.inl ⟨by rfl, ?_⟩) (by assumption) ?_
                            rotate_left
                            · intro w hSw; (try dsimp only at hSw); obtain ⟨hs1, hs2, hs3⟩ := hSw; first | (go_simp; done) | (go_simp; with_reducible rfl)
                            try simp only [Act.put, List.setIfInBounds_toArray, List.set_cons_zero, List.set_cons_succ]
                            refine wpAnyH_take (i := 20) (oi := ⟨_, _, _, _, _, _⟩) (v := ?_) rfl (by kernel_rfl) (by kernel_rfl) (by kernel_rfl) (fun _ _ _ h => h) (Or.inl ⟨by rfl, ?_⟩) (by assumption) ?_
                            rotate_left
                            · intro w hSw; (try dsimp only at hSw); obtain ⟨hs1, hs2, hs3⟩ := hSw; first | (go_simp; done) | (go_simp; with_reducible rfl)
                            try simp only [Act.put, List.setIfInBounds_toArray, List.set_cons_zero, List.set_cons_succ]
                            refine wpAnyH_take (i := 21) (oi := ⟨_, _, _, _, _, _⟩) (v := ?_) rfl (by kernel_rfl) (by kernel_rfl) (by kernel_rfl) (fun _ _ _ h => h) (Or.inl ⟨by rfl, ?_⟩) (by assumption) ?_
                            rotate_left
                            · intro w hSw; (try dsimp only at hSw); obtain ⟨hs1, hs2, hs3⟩ := hSw; first | (go_simp; done) | (go_simp; with_reducible rfl)
                            try simp only [Act.put, List.setIfInBounds_toArray, List.set_cons_zero, List.set_cons_succ]
                            refine wpAnyH_take (i := 22) (oi := ⟨_, _, _, _, _, _⟩) (v := ?_) rfl (by kernel_rfl) (by kernel_rfl) (by kernel_rfl) (fun _ _ _ h => h) (Or.inl ⟨by rfl, ?_⟩) (by assumption) ?_
                            rotate_left
                            · intro w hSw; (try dsimp only at hSw); obtain ⟨hs1, hs2, hs3⟩ := hSw; first | (go_simp; done) | (go_simp; with_reducible rfl)
                            try simp only [Act.put, List.setIfInBounds_toArray, List.set_cons_zero, List.set_cons_succ]
                            refine wpAnyH_ready (rs := [23]) (by kernel_rfl) (by simp) ?_
                            refine AllReadyH.cons (o := ⟨_, _, _, _, _, _⟩) rfl (fun KK hK => ?_) AllReadyH.nil
                            go_simp
                            go_at_call 74
                            refine (HHij.out _).mono ?_
                            rintro e' w6 ⟨rfl, rfl⟩
                            try go_wp2_with fail
                            refine hK.out _ _ ?_ (fun hHeld => ?_)
                            · (try dsimp only); first | exact ⟨cc', v1', v2'⟩ | exact ⟨nc0, nc1, nc2⟩
                            clear hK KK
                            try simp only [Act.put, List.setIfInBounds_toArray, List.set_cons_zero, List.set_cons_succ]
                            refine wpAnyH_take (i := 24) (oi := ⟨_, _, _, _, _, _⟩) (v := ?_) rfl (by kernel_rfl) (by kernel_rfl) (by kernel_rfl) (fun _ _ _ h => h) (Or.inl ⟨by rfl, ?_⟩) (by assumption) ?_
                            rotate_left
                            · intro w hSw; (try dsimp only at hSw); obtain ⟨hs1, hs2, hs3⟩ := hSw; first | (go_simp; done) | (go_simp; with_reducible rfl)
                            try simp only [Act.put, List.setIfInBounds_toArray, List.set_cons_zero, List.set_cons_succ]
                            refine wpAnyH_take (i := 25) (oi := ⟨_, _, _, _, _, _⟩) (v := ?_) rfl (by kernel_rfl) (by kernel_rfl) (by kernel_rfl) (fun _ _ _ h => h) (Or.inl ⟨by rfl, ?_⟩) (by assumption) ?_
                            rotate_left
                            · intro w hSw; (try dsimp only at hSw); obtain ⟨hs1, hs2, hs3⟩ := hSw; first | (go_simp; done) | (go_simp; with_reducible rfl)
                            try simp only [Act.put, List.setIfInBounds_toArray, List.set_cons_zero, List.set_cons_succ]
                            refine wpAnyH_ready (rs := [26]) (by kernel_rfl) (by simp) ?_
                            refine AllReadyH.cons (o := ⟨_, _, _, _, _, _⟩) rfl (fun KK hK => ?_) AllReadyH.nil
                            go_simp
                            refine hK.out _ _ ?_ (fun hHeld => ?_)
                            · (try dsimp only); first | exact ⟨cc', v1', v2'⟩ | exact ⟨nc0, nc1, nc2⟩
                            clear hK KK
                            try simp only [Act.put, List.setIfInBounds_toArray, List.set_cons_zero, List.set_cons_succ]
                            refine wpAnyH_done (by kernel_rfl) ?_ _
                            refine NoPanic.normal ?_
                            all_goals
                              clear a1 a2 a3 b1 b2' b3 HHij vw1 vw2
                              go_wp2_with fail
                              exact ⟨⟨j + 1, by omega, by go_num, (by rw [HT2.out]; exact nA.out _), nB.out _⟩, by simp [intOf]; omega⟩
                          | false =>
                            have e2 : t2 = false := by have := NXT.out; simpa using this
                            subst e2
                            clear NXT
                            have my' : wr.drew.cell? ⟨gi, K, none⟩ = some (.bool false) := my
                            go_upto_region 27 with (fail)
                            refine wp_region_noPanic ?_
                            refine wp_region_held_drew (S := fun w' => True) (by kernel_rfl) ?_ (fun hHeld => ?_)
                            · trivial
                            refine wpAnyH_take (i := 0) (oi := ⟨_, _, _, _, _, _⟩) (v := ?_) rfl (by kernel_rfl) (by kernel_rfl) (by kernel_rfl) (fun _ _ _ h => h) (Or.inl ⟨by rfl, ?_⟩) (by assumption) ?_
                            rotate_left
                            · intro w hSw; (try dsimp only at hSw); first | (go_simp; done) | (go_simp; with_reducible rfl)
                            try simp only [Act.put, List.setIfInBounds_toArray, List.set_cons_zero, List.set_cons_succ]
                            refine wpAnyH_take (i := 1) (oi := ⟨_, _, _, _, _, _⟩) (v := ?_) rfl (by kernel_rfl) (by kernel_rfl) (by kernel_rfl) (fun _ _ _ h => h) (Or.inl ⟨by rfl, ?_⟩) (by assumption) ?_
                            rotate_left
                            · intro w hSw; (try dsimp only at hSw); first | (go_simp; done) | (go_simp; with_reducible rfl)
                            try simp only [Act.put, List.setIfInBounds_toArray, List.set_cons_zero, List.set_cons_succ]
                            refine wpAnyH_take (i := 2) (oi := ⟨_, _, _, _, _, _⟩) (v := ?_) rfl (by kernel_rfl) (by kernel_rfl) (by kernel_rfl) (fun _ _ _ h => h) (Or.inl ⟨by rfl, ?_⟩) (by assumption) ?_
                            rotate_left
                            · intro w hSw; (try dsimp only at hSw); first | (go_simp; done) | (go_simp; with_reducible rfl)
                            try simp only [Act.put, List.setIfInBounds_toArray, List.set_cons_zero, List.set_cons_succ]
                            refine wpAnyH_ready (rs := [3]) (by kernel_rfl) (by simp) ?_
                            refine AllReadyH.cons (o := ⟨_, _, _, _, _, _⟩) rfl (fun KK hK => ?_) AllReadyH.nil
                            go_simp
                            refine hK.out _ _ ?_ (fun hHeld => ?_)
                            · trivial
                            clear hK KK
                            try simp only [Act.put, List.setIfInBounds_toArray, List.set_cons_zero, List.set_cons_succ]
                            refine wpAnyH_take (i := 4) (oi := ⟨_, _, _, _, _, _⟩) (v := ?_) rfl (by kernel_rfl) (by kernel_rfl) (by kernel_rfl) (fun _ _ _ h => h) (Or.inl ⟨by rfl, ?_⟩) (by assumption) ?_
                            rotate_left
                            · intro w hSw; (try dsimp only at hSw); first | (go_simp; done) | (go_simp; with_reducible rfl)
                            try simp only [Act.put, List.setIfInBounds_toArray, List.set_cons_zero, List.set_cons_succ]
                            refine wpAnyH_take (i := 5) (oi := ⟨_, _, _, _, _, _⟩) (v := undef) rfl (by kernel_rfl) (by kernel_rfl) (by kernel_rfl) (fun _ _ _ h => h) (Or.inr ⟨by rfl, rfl⟩) (by assumption) ?_
                            try simp only [Act.put, List.setIfInBounds_toArray, List.set_cons_zero, List.set_cons_succ]
                            refine wpAnyH_take (i := 6) (oi := ⟨_, _, _, _, _, _⟩) (v := undef) rfl (by kernel_rfl) (by kernel_rfl) (by kernel_rfl) (fun _ _ _ h => h) (Or.inr ⟨by rfl, rfl⟩) (by assumption) ?_
                            try simp only [Act.put, List.setIfInBounds_toArray, List.set_cons_zero, List.set_cons_succ]
                            refine wpAnyH_take (i := 7) (oi := ⟨_, _, _, _, _, _⟩) (v := undef) rfl (by kernel_rfl) (by kernel_rfl) (by kernel_rfl) (fun _ _ _ h => h) (Or.inr ⟨by rfl, rfl⟩) (by assumption) ?_
                            try simp only [Act.put, List.setIfInBounds_toArray, List.set_cons_zero, List.set_cons_succ]
                            refine wpAnyH_take (i := 8) (oi := ⟨_, _, _, _, _, _⟩) (v := undef) rfl (by kernel_rfl) (by kernel_rfl) (by kernel_rfl) (fun _ _ _ h => h) (Or.inr ⟨by rfl, rfl⟩) (by assumption) ?_
                            try simp only [Act.put, List.setIfInBounds_toArray, List.set_cons_zero, List.set_cons_succ]
                            refine wpAnyH_take (i := 9) (oi := ⟨_, _, _, _, _, _⟩) (v := undef) rfl (by kernel_rfl) (by kernel_rfl) (by kernel_rfl) (fun _ _ _ h => h) (Or.inr ⟨by rfl, rfl⟩) (by assumption) ?_
                            try simp only [Act.put, List.setIfInBounds_toArray, List.set_cons_zero, List.set_cons_succ]
                            refine wpAnyH_take (i := 10) (oi := ⟨_, _, _, _, _, _⟩) (v := undef) rfl (by kernel_rfl) (by kernel_rfl) (by kernel_rfl) (fun _ _ _ h => h) (Or.inr ⟨by rfl, rfl⟩) (by assumption) ?_
                            try simp only [Act.put, List.setIfInBounds_toArray, List.set_cons_zero, List.set_cons_succ]
                            refine wpAnyH_take (i := 11) (oi := ⟨_, _, _, _, _, _⟩) (v := undef) rfl (by kernel_rfl) (by kernel_rfl) (by kernel_rfl) (fun _ _ _ h => h) (Or.inr ⟨by rfl, rfl⟩) (by assumption) ?_
                            try simp only [Act.put, List.setIfInBounds_toArray, List.set_cons_zero, List.set_cons_succ]
                            refine wpAnyH_take (i := 12) (oi := ⟨_, _, _, _, _, _⟩) (v := undef) rfl (by kernel_rfl) (by kernel_rfl) (by kernel_rfl) (fun _ _ _ h => h) (Or.inr ⟨by rfl, rfl⟩) (by assumption) ?_
                            try simp only [Act.put, List.setIfInBounds_toArray, List.set_cons_zero, List.set_cons_succ]
                            refine wpAnyH_take (i := 13) (oi := ⟨_, _, _, _, _, _⟩) (v := undef) rfl (by kernel_rfl) (by kernel_rfl) (by kernel_rfl) (fun _ _ _ h => h) (Or.inr ⟨by rfl, rfl⟩) (by assumption) ?_
                            try simp only [Act.put, List.setIfInBounds_toArray, List.set_cons_zero, List.set_cons_succ]
                            refine wpAnyH_take (i := 14) (oi := ⟨_, _, _, _, _, _⟩) (v := undef) rfl (by kernel_rfl) (by kernel_rfl) (by kernel_rfl) (fun _ _ _ h => h) (Or.inr ⟨by rfl, rfl⟩) (by assumption) ?_
                            try simp only [Act.put, List.setIfInBounds_toArray, List.set_cons_zero, List.set_cons_succ]
                            refine wpAnyH_take (i := 15) (oi := ⟨_, _, _, _, _, _⟩) (v := undef) rfl (by kernel_rfl) (by kernel_rfl) (by kernel_rfl) (fun _ _ _ h => h) (Or.inr ⟨by rfl, rfl⟩) (by assumption) ?_
                            try simp only [Act.put, List.setIfInBounds_toArray, List.set_cons_zero, List.set_cons_succ]
                            refine wpAnyH_take (i := 16) (oi := ⟨_, _, _, _, _, _⟩) (v := undef) rfl (by kernel_rfl) (by kernel_rfl) (by kernel_rfl) (fun _ _ _ h => h) (Or.inr ⟨by rfl, rfl⟩) (by assumption) ?_
                            try simp only [Act.put, List.setIfInBounds_toArray, List.set_cons_zero, List.set_cons_succ]
                            refine wpAnyH_take (i := 17) (oi := ⟨_, _, _, _, _, _⟩) (v := undef) rfl (by kernel_rfl) (by kernel_rfl) (by kernel_rfl) (fun _ _ _ h => h) (Or.inr ⟨by rfl, rfl⟩) (by assumption) ?_
                            try simp only [Act.put, List.setIfInBounds_toArray, List.set_cons_zero, List.set_cons_succ]
                            refine wpAnyH_take (i := 18) (oi := ⟨_, _, _, _, _, _⟩) (v := undef) rfl (by kernel_rfl) (by kernel_rfl) (by kernel_rfl) (fun _ _ _ h => h) (Or.inr ⟨by rfl, rfl⟩) (by assumption) ?_
                            try simp only [Act.put, List.setIfInBounds_toArray, List.set_cons_zero, List.set_cons_succ]
                            refine wpAnyH_take (i := 19) (oi := ⟨_, _, _, _, _, _⟩) (v := undef) rfl (by kernel_rfl) (by kernel_rfl) (by kernel_rfl) (fun _ _ _ h => h) (Or.inr ⟨by rfl, rfl⟩) (by assumption) ?_
                            try simp only [Act.put, List.setIfInBounds_toArray, List.set_cons_zero, List.set_cons_succ]
                            refine wpAnyH_take (i := 20) (oi := ⟨_, _, _, _, _, _⟩) (v := undef) rfl (by kernel_rfl) (by kernel_rfl) (by kernel_rfl) (fun _ _ _ h => h) (Or.inr ⟨by rfl, rfl⟩) (by assumption) ?_
                            try simp only [Act.put, List.setIfInBounds_toArray, List.set_cons_zero, List.set_cons_succ]
                            refine wpAnyH_take (i := 21) (oi := ⟨_, _, _, _, _, _⟩) (v := undef) rfl (by kernel_rfl) (by kernel_rfl) (by kernel_rfl) (fun _ _ _ h => h) (Or.inr ⟨by rfl, rfl⟩) (by assumption) ?_
                            try simp only [Act.put, List.setIfInBounds_toArray, List.set_cons_zero, List.set_cons_succ]
                            refine wpAnyH_take (i := 22) (oi := ⟨_, _, _, _, _, _⟩) (v := undef) rfl (by kernel_rfl) (by kernel_rfl) (by kernel_rfl) (fun _ _ _ h => h) (Or.inr ⟨by rfl, rfl⟩) (by assumption) ?_
                            try simp only [Act.put, List.setIfInBounds_toArray, List.set_cons_zero, List.set_cons_succ]
                            refine wpAnyH_take (i := 23) (oi := ⟨_, _, _, _, _, _⟩) (v := undef) rfl (by kernel_rfl) (by kernel_rfl) (by kernel_rfl) (fun _ _ _ h => h) (Or.inr ⟨by rfl, rfl⟩) (by assumption) ?_
                            try simp only [Act.put, List.setIfInBounds_toArray, List.set_cons_zero, List.set_cons_succ]
                            refine wpAnyH_take (i := 24) (oi := ⟨_, _, _, _, _, _⟩) (v := ?_) rfl (by kernel_rfl) (by kernel_rfl) (by kernel_rfl) (fun _ _ _ h => h) (Or.inl ⟨by rfl, ?_⟩) (by assumption) ?_
                            rotate_left
                            · intro w hSw; (try dsimp only at hSw); first | (go_simp; done) | (go_simp; with_reducible rfl)
                            try simp only [Act.put, List.setIfInBounds_toArray, List.set_cons_zero, List.set_cons_succ]
                            refine wpAnyH_take (i := 25) (oi := ⟨_, _, _, _, _, _⟩) (v := ?_) rfl (by kernel_rfl) (by kernel_rfl) (by kernel_rfl) (fun _ _ _ h => h) (Or.inl ⟨by rfl, ?_⟩) (by assumption) ?_
                            rotate_left
                            · intro w hSw; (try dsimp only at hSw); first | (go_simp; done) | (go_simp; with_reducible rfl)
                            try simp only [Act.put, List.setIfInBounds_toArray, List.set_cons_zero, List.set_cons_succ]
                            refine wpAnyH_ready (rs := [26]) (by kernel_rfl) (by simp) ?_
                            refine AllReadyH.cons (o := ⟨_, _, _, _, _, _⟩) rfl (fun KK hK => ?_) AllReadyH.nil
                            go_simp
                            refine hK.out _ _ ?_ (fun hHeld => ?_)
                            · trivial
                            clear hK KK
                            try simp only [Act.put, List.setIfInBounds_toArray, List.set_cons_zero, List.set_cons_succ]
                            refine wpAnyH_done (by kernel_rfl) ?_ _
                            refine NoPanic.normal ?_
                            all_goals
                              clear a1 a2 a3 b1 b2' b3 HHij vw1 vw2
                              go_wp2_with fail
                              exact ⟨⟨j + 1, by omega, by go_num, (by rw [HT2.out]; exact nA.out _), nB.out _⟩, by simp [intOf]; omega⟩
                        · have cj1 : ¬ ((j : Int) ≤ (N : Int)) := by omega
                          have ej : i * (N + 1) + j = (i + 1) * (N + 1) := by rw [Nat.add_mul, Nat.one_mul]; omega
                          have F8 : Hid (Ask wr gi gv N K (inA N c1 (VK l0 l1 K) ((i + 1) * (N + 1))) u (VK l0 l1 K)) := by rw [← ej]; exact hA
                          clear ej hA
                          go_wp2_with fail
                          go_roundw
                          case rel => exact ⟨i + 1, by omega, by go_num, F8, hB7⟩
                          case measure => simp [intOf]; omega
                    · have ci1 : ¬ ((i : Int) ≤ (N : Int)) := by omega
                      have ei : i * (N + 1) = m := by rw [show i = N + 1 by omega]; exact HEnd.out
                      have hA2 := hA.out
                      rw [ei, SAME.out K, ← HT0.out] at hA2
                      have lt := World.block_lt_of_cell? _ _ hA2.mine
                      have c0' : Hid (wr.cell? ⟨gi, 0, none⟩ = some (.bool (if 1 ≤ K + 1 then T0 else true))) := by
                        show _ = _
                        rw [if_pos (by omega)]
                        by_cases e : K = 0
                        · have := hA2.mine; rw [e] at this; exact this
                        · have h1 : K = 1 := by omega
                          have := hA2.other; rw [h1, OTH.out.1 h1] at this; exact this
                      have c1' : Hid (wr.cell? ⟨gi, 1, none⟩ = some (.bool (if 2 ≤ K + 1 then T0 else true))) := by
                        show _ = _
                        by_cases e : K = 0
                        · have := hA2.other; rw [e, OTH.out.2 e] at this; rw [if_neg (by omega)]; exact this
                        · have h1 : K = 1 := by omega
                          have := hA2.mine; rw [h1] at this; rw [if_pos (by omega)]; exact this
                      have fr' := hideD hA2.free
                      have lt' := hideD lt
                      clear ei hA hA2 lt HH IN HPl HMul
                      go_wp2_with fail
                      go_roundw
                      case rel => exact ⟨K + 1, by omega, by go_num, c0', c1', fr', lt', hB6⟩
                      case measure => simp [intOf]; omega
        · have k1 : ¬ ((K : Int) < 2) := by omega
          obtain rfl : K = 2 := by omega
          have c0 := hc0.out
          have c1' := hc1.out
          rw [if_pos (by omega)] at c0 c1'
          have B5 := hideD (beyondD B3.out hB.out)
          have HL := hideD (HV.out wr B5.out)
          have A5 := hideD (A3.out.past hB.out)
          have Z5 := hideD (Z3.out.past hB.out)
          clear hc0 hc1 hfr hlt hB HH IN HPl HMul SAME BD I0 I1 M0 M1 HV
          go_wp2_with fail
          refine HL.out.mono ?_
          rintro e w7 ⟨rfl, hb7⟩
          have d0' := kc _ _ hb7 c0
          have d1' := kc _ _ hb7 c1'
          have I5 := INC.out b' w7 (A5.out.past hb7) (Z5.out.past hb7)
          rw [I1'.out] at I5
          have I6 := hideD I5
          have B7 := hideD (beyondD B5.out hb7)
          clear I5 HL hb7 c0 c1' INC
          go_wp2_with fail
          refine I6.out.mono ?_
          rintro e w8 ⟨rfl, hb8⟩
          go_wp2_with fail
          go_ret
          exact ⟨by simp, beyondD B7.out hb8⟩
end Go.Proofs.YtjmgkbcgaloipaaDoor
