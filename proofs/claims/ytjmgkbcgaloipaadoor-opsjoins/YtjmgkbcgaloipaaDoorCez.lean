/-
  And and Hull by both ways, of rows of zones that may be nil or of another number of clocks: one answer.
-/
import Derived.Test.YtjmgkbcgaloipaaDoorCdz
namespace Go.Proofs.YtjmgkbcgaloipaaDoor
open Go.RowKit
set_option linter.unusedVariables false
set_option maxRecDepth 100000
set_option maxHeartbeats 4000000 in
theorem and_zero (b n cap : Nat) (ad : Option Addr) (c : Row) (w : World) (h : n ≤ 8) (hz : ZoneAt w b n c) (hc : C32 c) :
    Calls Tryd.prog 37 #[.pointer (some ⟨b, 0, none⟩), .slice ad 0 cap] w fun e w' => OpsOut w' w.heap.size n e (oR n c ((n + 1) * (n + 1))) ∧ Below w.heap.size w w' := by
  have HJ := hideD (join_none b n cap ad w)
  have HD := hideD (odraft_any b n c w h hz)
  generalize hm : (n + 1) * (n + 1) = m at *
  have HO : Hid (∀ d r w', ODraft w' d n r → R32 r → w.heap.size ≤ w'.heap.size → _) := fun d r w' h1 h2 h3 => ozone_out d n w.heap.size r w' h h1 h2 h3
  have H32 := hideD (oR_32 (n := n) (K := m) hc)
  generalize oR n c m = r0 at *
  clear hz hc hm
  go_enter Tryd.func37, Tryd.ntmps37
  go_wp2_with fail
  refine HJ.out.mono ?_
  rintro e w1 ⟨rfl, rfl⟩
  go_wp2_with fail
  refine HD.out.mono ?_
  rintro e w2 ⟨⟨d, rfl, hd, hD2⟩, hb⟩
  have hD3 := hideD hD2
  have hB3 := hideD hb
  clear HJ HD hD2 hb
  go_wp2_with fail
  go_loopw [20] (fun s wr => s = .int .i64 0 ∧ Hid (ODraft wr d n r0) ∧ Hid (Below w1.heap.size w1 wr)) (fun s _ => 0)
  case atStart => exact ⟨rfl, hD3, hB3⟩
  case round =>
    obtain ⟨rfl, hD, hB⟩ := hrel
    clear hD3 hB3
    have HZ := hideD (HO.out d _ wr hD.out H32.out hB.out.size)
    clear hD
    go_wp2_with fail
    refine HZ.out.mono ?_
    rintro e w4 ⟨p, kk, rfl, ho, hb⟩
    go_wp2_with fail
    exact bodyPost_ret (v := .tuple #[.pointer p, .int .i64 kk]) (by simp [results, Tryd.results37, go_sem]) rfl ⟨ho.out, beyondD hB.out hb.out⟩
/-- A row of pointers, nil if nothing is in it. -/
def Rowp (w : World) (v : Value) (ps : List (Option Addr)) : Prop := ∃ ad cap, v = .slice ad ps.length cap ∧ (ad = none → ps.length = 0 ∧ cap = 0) ∧ ∀ k, k < ps.length → ∃ g, ad = some ⟨g, 0, none⟩ ∧ w.cell? ⟨g, k, none⟩ = some (.pointer (ps.getD k none))
theorem Rowp.past {w w' : World} {v : Value} {ps : List (Option Addr)} (h : Rowp w v ps) (hb : Below w.heap.size w w') : Rowp w' v ps := by
  obtain ⟨ad, cap, h1, h2, h3⟩ := h
  exact ⟨ad, cap, h1, h2, fun k hk => by obtain ⟨g, e, hc⟩ := h3 k hk; exact ⟨g, e, kc _ _ hb hc⟩⟩
def PZs (w : World) (ps : List (Option Addr)) (os : List OZ) : Prop := ps.length = os.length ∧ ∀ k, k < os.length → PZ w (ps.getD k none) (os.getD k none)
def RZs (w : World) (ps : List (Option Addr)) (os : List OZ) : Prop := ps.length = os.length ∧ ∀ k, k < os.length → RZ w (ps.getD k none) (os.getD k none)
theorem PZs.past {w w' : World} {ps : List (Option Addr)} {os : List OZ} (h : PZs w ps os) (hb : Below w.heap.size w w') : PZs w' ps os := ⟨h.1, fun k hk => (h.2 k hk).past hb⟩
theorem RZs.past {w w' : World} {ps : List (Option Addr)} {os : List OZ} (h : RZs w ps os) (hb : Below w.heap.size w w') : RZs w' ps os := ⟨h.1, fun k hk => (h.2 k hk).past hb⟩
/-- The zones' clocks alone. -/
def zdim (o : OZ) : ZP := o.map fun x => (0, x.1)
def zpAt (p : Option Addr) (o : OZ) : ZP := match p, o with
  | some a, some x => some (a.block, x.1)
  | _, _ => none
def zpl (ps : List (Option Addr)) (os : List OZ) : List ZP := (List.range os.length).map fun k => zpAt (ps.getD k none) (os.getD k none)
theorem zpl_len (ps : List (Option Addr)) (os : List OZ) : (zpl ps os).length = os.length := by simp [zpl]
theorem zpl_get (ps : List (Option Addr)) (os : List OZ) {k : Nat} (hk : k < os.length) : (zpl ps os).getD k none = zpAt (ps.getD k none) (os.getD k none) := by simp [zpl, List.getD, hk]
def oE (n : Nat) (os : List OZ) : Int := joinE n (os.map zdim)
theorem zdim_get (os : List OZ) {k : Nat} (hk : k < os.length) : (os.map zdim).getD k none = zdim (os.getD k none) := by simp [List.getD, hk]
theorem join_congr {n : Nat} {l l' : List ZP} (hl : l.length = l'.length) (h : ∀ k, k < l.length → (l.getD k none).map Prod.snd = (l'.getD k none).map Prod.snd) : joinE n l = joinE n l' := by
  have e : ∀ K, K ≤ l.length → nn l K = nn l' K ∧ jn n l K = jn n l' K := by
    intro K
    induction K with
    | zero => intro _; exact ⟨rfl, rfl⟩
    | succ K ih =>
      intro hK
      obtain ⟨i1, i2⟩ := ih (by omega)
      have hh := h K (by omega)
      unfold nn jn
      rw [i1, i2]
      generalize l.getD K none = a at *
      generalize l'.getD K none = b at *
      cases a with
      | none =>
        cases b with
        | none => exact ⟨rfl, rfl⟩
        | some y => cases hh
      | some x =>
        cases b with
        | none => cases hh
        | some y =>
          obtain ⟨x1, x2⟩ := x
          obtain ⟨y1, y2⟩ := y
          simp at hh
          subst hh
          exact ⟨rfl, rfl⟩
  unfold joinE
  rw [← hl, (e _ (Nat.le_refl _)).1, (e _ (Nat.le_refl _)).2]
theorem oE_zero {n : Nat} {os : List OZ} (h : oE n os = 0) : ∀ k, k < os.length → ∃ c, os.getD k none = some (n, c) := by
  intro k hk
  unfold oE joinE at h
  rw [List.length_map] at h
  by_cases hn : nn (os.map zdim) os.length = true
  · rw [if_pos hn] at h
    have s := nn_at hn k hk
    have g := zdim_get os hk
    have jz : ∀ K, jn n (os.map zdim) K = 0 → nn (os.map zdim) K = true → k < K → ∀ x, (os.map zdim).getD k none = some x → x.2 = n := by
      intro K
      induction K with
      | zero => intro _ _ hk; omega
      | succ K ih =>
        intro h0 hn hk x hx
        simp only [nn, Bool.and_eq_true] at hn
        unfold jn at h0
        by_cases e : k = K
        · subst e
          rw [hx] at h0
          obtain ⟨x1, x2⟩ := x
          by_cases q : x2 = n
          · exact q
          · simp only [if_neg q] at h0
            cases h0
        · cases hK : (os.map zdim).getD K none with
          | none => rw [hK] at hn; cases hn.2
          | some y =>
            rw [hK] at h0
            obtain ⟨y1, y2⟩ := y
            by_cases q : y2 = n
            · simp only [if_pos q] at h0
              exact ih h0 hn.1 (by omega) x hx
            · simp only [if_neg q] at h0
              cases h0
    rw [g] at s
    cases ho : os.getD k none with
    | none => rw [ho] at s; cases s
    | some x =>
      obtain ⟨m, c⟩ := x
      have := jz _ h hn hk (0, m) (by rw [g, ho]; rfl)
      simp at this
      subst this
      exact ⟨c, rfl⟩
  · rw [if_neg hn] at h
    cases h
theorem zpl_P {w : World} {ps : List (Option Addr)} {os : List OZ} (h : PZs w ps os) (n : Nat) : joinE n (zpl ps os) = oE n os := join_congr (by rw [zpl_len, List.length_map]) fun k hk => by
  rw [zpl_len] at hk
  rw [zpl_get ps os hk, zdim_get os hk]
  have := h.2 k hk
  generalize ps.getD k none = p at *
  generalize os.getD k none = o at *
  cases o with
  | none => obtain rfl := this; rfl
  | some x => obtain ⟨n', c⟩ := x; obtain ⟨-, -, b, rfl, -⟩ := this; rfl
theorem zpl_R {w : World} {ps : List (Option Addr)} {os : List OZ} (h : RZs w ps os) (n : Nat) : joinE n (zpl ps os) = oE n os := join_congr (by rw [zpl_len, List.length_map]) fun k hk => by
  rw [zpl_len] at hk
  rw [zpl_get ps os hk, zdim_get os hk]
  have := h.2 k hk
  generalize ps.getD k none = p at *
  generalize os.getD k none = o at *
  cases o with
  | none => obtain rfl := this; rfl
  | some x => obtain ⟨n', c⟩ := x; obtain ⟨-, r, B, rfl, -⟩ := this; rfl
theorem zps_P {w : World} {ps : List (Option Addr)} {os : List OZ} {g : Nat} (h : PZs w ps os) (hc : ∀ k, k < ps.length → w.cell? ⟨g, k, none⟩ = some (.pointer (ps.getD k none))) : ZPs w g 0 (zpl ps os) := fun k hk => by
  rw [zpl_len] at hk
  rw [zpl_get ps os hk, Nat.zero_add]
  have c0 := hc k (by rw [h.1]; exact hk)
  have := h.2 k hk
  generalize ps.getD k none = p at *
  generalize os.getD k none = o at *
  cases o with
  | none => obtain rfl := this; exact ⟨c0, fun b m e => by cases e⟩
  | some x => obtain ⟨n', c⟩ := x; obtain ⟨-, -, b, rfl, hz⟩ := this; exact ⟨c0, fun b' m e => by cases e; exact hz.clocks⟩
theorem zps_R {w : World} {ps : List (Option Addr)} {os : List OZ} {g : Nat} (h : RZs w ps os) (hc : ∀ k, k < ps.length → w.cell? ⟨g, k, none⟩ = some (.pointer (ps.getD k none))) : ZPs w g 0 (zpl ps os) := fun k hk => by
  rw [zpl_len] at hk
  rw [zpl_get ps os hk, Nat.zero_add]
  have c0 := hc k (by rw [h.1]; exact hk)
  have := h.2 k hk
  generalize ps.getD k none = p at *
  generalize os.getD k none = o at *
  cases o with
  | none => obtain rfl := this; exact ⟨c0, fun b m e => by cases e⟩
  | some x =>
    obtain ⟨n', c⟩ := x
    obtain ⟨-, r, B, rfl, hz⟩ := this
    exact ⟨c0, fun b' m e => by cases e; obtain ⟨g0, cp, h0, -⟩ := hz; exact h0⟩
/-- joinable, of whatever row. -/
theorem join_row {w : World} {b n : Nat} {v : Value} {ps : List (Option Addr)} {os : List OZ} (h0 : w.cell? ⟨b, 0, none⟩ = some (.int .i64 (n : Int))) (hp : Rowp w v ps) (hP : PZs w ps os) (hl : os.length ≤ 9223372036854775807) :
    Calls Tryd.prog 98 #[.pointer (some ⟨b, 0, none⟩), v] w fun e w' => e = .returned (.int .i64 (oE n os)) ∧ w' = w := by
  obtain ⟨ad, cap, rfl, -, hc⟩ := hp
  by_cases z : ps.length = 0
  · rw [z]
    have e0 : os = [] := List.eq_nil_of_length_eq_zero (by rw [← hP.1]; exact z)
    subst e0
    exact join_none b n cap ad w
  · obtain ⟨g, rfl, -⟩ := hc 0 (by omega)
    have hc' : ∀ k, k < ps.length → w.cell? ⟨g, k, none⟩ = some (.pointer (ps.getD k none)) := fun k hk => by obtain ⟨g', e, h⟩ := hc k hk; cases e; exact h
    have := join_main b n g 0 cap ps.length (zpl ps os) w h0 (by rw [zpl_len, hP.1]) (by rw [hP.1]; exact hl) (zps_P hP hc')
    rw [zpl_P hP] at this
    exact this
theorem nils_row {w : World} {b n : Nat} {v : Value} {ps : List (Option Addr)} {os : List OZ} (h0 : w.cell? ⟨b, 0, none⟩ = some (.int .i64 (n : Int))) (hp : Rowp w v ps) (hP : RZs w ps os) (hl : os.length ≤ 9223372036854775807) :
    Calls Tryd.prog 100 #[.pointer (some ⟨b, 0, none⟩), v] w fun e w' => e = .returned (.int .i64 (oE n os)) ∧ w' = w := by
  obtain ⟨ad, cap, rfl, -, hc⟩ := hp
  by_cases z : ps.length = 0
  · rw [z]
    have e0 : os = [] := List.eq_nil_of_length_eq_zero (by rw [← hP.1]; exact z)
    subst e0
    exact rnils_none b n cap ad w
  · obtain ⟨g, rfl, -⟩ := hc 0 (by omega)
    have hc' : ∀ k, k < ps.length → w.cell? ⟨g, k, none⟩ = some (.pointer (ps.getD k none)) := fun k hk => by obtain ⟨g', e, h⟩ := hc k hk; cases e; exact h
    have := rnils_main b n g 0 cap ps.length (zpl ps os) w h0 (by rw [zpl_len, hP.1]) (by rw [hP.1]; exact hl) (zps_R hP hc')
    rw [zpl_R hP] at this
    exact this
def blkOf (p : Option Addr) : Nat := match p with
  | some a => a.block
  | none => 0
def rowOf (o : OZ) : Row := match o with
  | some x => x.2
  | none => fun _ => 0
def pB (ps : List (Option Addr)) (k : Nat) : Nat := blkOf (ps.getD k none)
def oC (os : List OZ) (k : Nat) : Row := rowOf (os.getD k none)
theorem oC_zc {n m : Nat} {os : List OZ} (hm : m = (n + 1) * (n + 1)) (hz : ∀ k, k < os.length → ZCo (os.getD k none)) (hd : ∀ k, k < os.length → ∃ c, os.getD k none = some (n, c)) (k : Nat) : ZC n m (oC os k) := by
  by_cases hk : k < os.length
  · obtain ⟨c, e⟩ := hd k hk
    have := hz k hk n c e
    unfold oC
    rw [e, hm]
    exact this
  · have e : os.getD k none = none := by simp [List.getD, hk]
    unfold oC
    rw [e]
    exact .inl rfl
theorem pzs_at {w : World} {n : Nat} {ps : List (Option Addr)} {os : List OZ} (h : PZs w ps os) (hd : ∀ k, k < os.length → ∃ c, os.getD k none = some (n, c)) {k : Nat} (hk : k < os.length) : ps.getD k none = some ⟨pB ps k, 0, none⟩ ∧ ZoneAt w (pB ps k) n (oC os k) := by
  obtain ⟨c, e⟩ := hd k hk
  have := h.2 k hk
  rw [e] at this
  obtain ⟨-, -, b, e2, hz⟩ := this
  unfold pB oC
  rw [e, e2]
  exact ⟨rfl, hz⟩
theorem rzs_at {w : World} {n m : Nat} {ps : List (Option Addr)} {os : List OZ} (hm : m = (n + 1) * (n + 1)) (h : RZs w ps os) (hd : ∀ k, k < os.length → ∃ c, os.getD k none = some (n, c)) {k : Nat} (hk : k < os.length) : ps.getD k none = some ⟨pB ps k, 0, none⟩ ∧ ∃ B, RZone w B (pB ps k) n (listOf (oC os k) m) := by
  obtain ⟨c, e⟩ := hd k hk
  have := h.2 k hk
  rw [e] at this
  obtain ⟨-, b, B, e2, hz⟩ := this
  unfold pB oC
  rw [e, e2, hm]
  exact ⟨rfl, B, hz⟩
theorem rzs_all {w : World} {n m : Nat} {ps : List (Option Addr)} {os : List OZ} (hm : m = (n + 1) * (n + 1)) (h : RZs w ps os) (hd : ∀ k, k < os.length → ∃ c, os.getD k none = some (n, c)) : ∃ B : Nat → Nat, ∀ k, k < os.length → RZone w (B k) (pB ps k) n (listOf (oC os k) m) := by
  refine ⟨fun k => if hk : k < os.length then (rzs_at hm h hd hk).2.choose else 0, fun k hk => ?_⟩
  simp only [dif_pos hk]
  exact (rzs_at hm h hd hk).2.choose_spec
/-- And by both. -/
theorem two_and {w : World} {p q : Option Addr} {o : OZ} {v u : Value} {ps qs : List (Option Addr)} {os : List OZ} (h1 : PZ w p o) (h2 : RZ w q o) (h3 : ZCo o) (hp : Rowp w v ps) (hq : Rowp w u qs) (hP : PZs w ps os) (hR : RZs w qs os) (hZ : ∀ k, k < os.length → ZCo (os.getD k none)) (hl : os.length ≤ 9223372036854775807) :
    Two w 37 #[.pointer p, v] 38 #[.pointer q, u] := by
  cases o with
  | none =>
    obtain rfl := h1
    obtain rfl := h2
    exact two_err 1 (fun w' _ => same_w (and_err _ _ 1 w' rfl (join_nil v w'))) (fun w' _ => same_w (rand_e _ _ 1 w' (by decide) (rnils_nil u w')))
  | some x =>
    obtain ⟨n, c⟩ := x
    obtain ⟨hn, h32, b, rfl, hz⟩ := h1
    obtain ⟨-, r, B, rfl, hr⟩ := h2
    have zc := h3 n c rfl
    have d0 : ∀ {w'}, RZone w' B r n (listOf c ((n + 1) * (n + 1))) → w'.cell? ⟨r, 0, none⟩ = some (.int .i64 (n : Int)) := fun {w'} h => by obtain ⟨g, cap, h0, -⟩ := h; exact h0
    by_cases e : oE n os = 0
    · have hd := oE_zero e
      obtain ⟨m, hm⟩ : ∃ m, m = (n + 1) * (n + 1) := ⟨_, rfl⟩
      have zck := oC_zc hm hZ hd
      rw [← hm] at zc hr
      obtain ⟨f1, f2⟩ := and_both (q := os.length) hn hm zc zck
      refine two_zone hn hm (M := andK n m (oC os) os.length (oR n c m)) (and_right hm zc _ (fun k _ => zck k)) rfl (fun w' hb => ?_) (fun w' hb => ?_)
      · obtain ⟨ad, cap, rfl, -, hc⟩ := hp
        by_cases z : ps.length = 0
        · have e0 : os = [] := List.eq_nil_of_length_eq_zero (by rw [← hP.1]; exact z)
          subst e0
          rw [z, hm]
          exact and_zero b n cap ad c w' hn (hz.past hb) h32
        · obtain ⟨g, rfl, -⟩ := hc 0 (by omega)
          rw [hP.1, hm]
          exact and_main b n g 0 cap os.length c (pB ps) (oC os) w' hn (hz.past hb) h32 hl (fun k hk => by
            obtain ⟨g', eg, hcell⟩ := hc k (by rw [hP.1]; exact hk)
            cases eg
            rw [(pzs_at hP hd hk).1] at hcell
            rw [Nat.zero_add]
            exact kc _ _ hb hcell) (fun k hk => (pzs_at hP hd hk).2.past hb) (fun k => zc_32 hm (zck k))
      · obtain ⟨ad, cap, rfl, -, hc⟩ := hq
        by_cases z : qs.length = 0
        · have e0 : os = [] := List.eq_nil_of_length_eq_zero (by rw [← hR.1]; exact z)
          subst e0
          rw [z]
          exact rand_none r n m B cap ad c _ w' hn hm (hr.past hb) h32 (zc01 hm zc) (fun h => f1 (.inl h)) (fun h => f2 h (fun k hk => by cases hk))
        · obtain ⟨g, rfl, -⟩ := hc 0 (by omega)
          rw [hR.1]
          obtain ⟨Bs, hBs⟩ := rzs_all hm hR hd
          exact rand_main r n m B cap os.length g 0 c (pB qs) Bs (oC os) _ w' hn hm (hr.past hb) h32 hl (fun k hk => by
            obtain ⟨g', eg, hcell⟩ := hc k (by rw [hR.1]; exact hk)
            cases eg
            rw [(rzs_at hm hR hd hk).1] at hcell
            rw [Nat.zero_add]
            exact kc _ _ hb hcell) (fun k hk => (hBs k hk).past hb) (fun k => zc_32 hm (zck k)) (zc01 hm zc) (fun k => zc01 hm (zck k)) f1 f2
    · exact two_err (oE n os) (fun w' hb => same_w (and_err _ _ _ w' (by simpa using e) (join_row (hz.past hb).clocks (hp.past hb) (hP.past hb) hl))) (fun w' hb => same_w (rand_e _ _ _ w' e (nils_row (d0 (hr.past hb)) (hq.past hb) (hR.past hb) hl)))
theorem hull_right {n m : Nat} {c : Row} {zc : Nat → Row} (hm : m = (n + 1) * (n + 1)) (h : ZC n m c) (hz : ∀ k, ZC n m (zc k)) (q : Nat) : RightM n (hullK n m c zc q) := fun i j hi hj => by
  have := zc_right hm (zc_hr hm h hz q) (i * (n + 1) + j)
  rw [← hull_at hm q i j hi hj] at this
  simpa only [rightB, decide_eq_true_eq] using this
/-- The first one ahead of a row. -/
def headed {α : Type} (a : α) (f : Nat → α) : Nat → α
  | 0 => a
  | k + 1 => f k
/-- Hull by both. -/
theorem two_hull {w : World} {p q : Option Addr} {o : OZ} {v u : Value} {ps qs : List (Option Addr)} {os : List OZ} (h1 : PZ w p o) (h2 : RZ w q o) (h3 : ZCo o) (hp : Rowp w v ps) (hq : Rowp w u qs) (hP : PZs w ps os) (hR : RZs w qs os) (hZ : ∀ k, k < os.length → ZCo (os.getD k none)) (hl : (os.length + 1) * 8 ≤ 140737488355328) :
    Two w 39 #[.pointer p, v] 40 #[.pointer q, u] := by
  have hl' : os.length ≤ 9223372036854775807 := by omega
  cases o with
  | none =>
    obtain rfl := h1
    obtain rfl := h2
    exact two_err 1 (fun w' _ => same_w (hull_err _ _ 1 w' rfl (join_nil v w'))) (fun w' _ => same_w (rhull_e _ _ 1 w' (by decide) (rnils_nil u w')))
  | some x =>
    obtain ⟨n, c⟩ := x
    obtain ⟨hn, h32, b, rfl, hz⟩ := h1
    obtain ⟨-, r, B, rfl, hr⟩ := h2
    have zc := h3 n c rfl
    have d0 : ∀ {w'}, RZone w' B r n (listOf c ((n + 1) * (n + 1))) → w'.cell? ⟨r, 0, none⟩ = some (.int .i64 (n : Int)) := fun {w'} h => by obtain ⟨g, cap, h0, -⟩ := h; exact h0
    by_cases e : oE n os = 0
    · have hd := oE_zero e
      have HJ : ∀ w', Below w.heap.size w w' → _ := fun w' hb => nils_row (d0 (hr.past hb)) (hq.past hb) (hR.past hb) hl'
      rw [e] at HJ
      obtain ⟨m, hm⟩ : ∃ m, m = (n + 1) * (n + 1) := ⟨_, rfl⟩
      have zck := oC_zc hm hZ hd
      rw [← hm] at zc hr
      have zch : ∀ k, ZC n m (headed c (oC os) k) := fun k => by
        cases k with
        | zero => exact zc
        | succ k => exact zck k
      obtain ⟨f1, f2⟩ := hull_both (q := os.length) hn hm zch
      refine two_zone hn hm (M := hullK n m c (oC os) os.length) (hull_right hm zc zck _) (by rw [hull_rows hm, zc_zone hn hm (zc_hr hm zc zck _)]) (fun w' hb => ?_) (fun w' hb => ?_)
      · obtain ⟨ad, cap, rfl, -, hc⟩ := hp
        rw [hP.1, hm]
        exact hull_main b n cap os.length ad c (pB ps) (oC os) w' hn (hz.past hb) h32 hl' (fun k hk => by
          obtain ⟨g, eg, hcell⟩ := hc k (by rw [hP.1]; exact hk)
          rw [(pzs_at hP hd hk).1] at hcell
          exact ⟨g, eg, kc _ _ hb hcell⟩) (fun k hk => (pzs_at hP hd hk).2.past hb) (fun k => zc_32 hm (zck k))
      · have HJ' := HJ w' hb
        obtain ⟨ad, cap, rfl, hnil, hc⟩ := hq
        rw [hR.1] at hnil HJ' ⊢
        obtain ⟨Bs, hBs⟩ := rzs_all hm hR hd
        exact rhull_main r n m cap os.length ad (headed r (pB qs)) (headed B Bs) (headed c (oC os)) _ w' hn hm hl rfl hnil (fun a ea k hk => by
          obtain ⟨g, eg, hcell⟩ := hc k (by rw [hR.1]; exact hk)
          rw [ea] at eg
          cases eg
          rw [(rzs_at hm hR hd hk).1] at hcell
          rw [Addr.add_lit, Nat.zero_add]
          exact kc _ _ hb hcell) (fun k hk => by
            cases k with
            | zero => exact hr.past hb
            | succ k => exact (hBs k (by omega)).past hb) (fun k => zc_32 hm (zch k)) (fun k => zc01 hm (zch k)) HJ' f1 f2
    · exact two_err (oE n os) (fun w' hb => same_w (hull_err _ _ _ w' (by simpa using e) (join_row (hz.past hb).clocks (hp.past hb) (hP.past hb) hl'))) (fun w' hb => same_w (rhull_e _ _ _ w' e (nils_row (d0 (hr.past hb)) (hq.past hb) (hR.past hb) hl')))
end Go.Proofs.YtjmgkbcgaloipaaDoor
