/- Parts of rows, lists by what is read of them; what is turned round. -/
import Derived.Test.YtbimapbcpmeooaaApp
namespace Go.Proofs.Ytbimapbcpmeooaa
open Go Go.Proofs.Ytbimapbcpmeooaa.AX

/-- Seats: a part of a row, with or without room behind it. -/
def SV (b : Bool) (r off len ver : Nat) : AV := bif b then .clip r off len ver 1 else .slice (some r) off len ver 1 false
theorem und22 : Try.prog.underlying 22 = some (.slice 3) := by kernel_rfl
theorem inf3 : ∃ i, Try.prog.info? 3 = some i ∧ i.size = 1 := by
  have h := slz22
  unfold slSz at h
  rw [und22] at h
  simp only [Option.map_eq_some_iff] at h
  exact h
@[simp] theorem lenS (b : Bool) (r off len ver : Nat) : aLen Try.prog 22 (SV b r off len ver) = some (.int .i64 len) := by
  cases b
  · exact len22 ..
  · unfold aLen SV; rw [und22]; rfl
@[simp] theorem ixaS (b : Bool) (r off len ver : Nat) (k : IntKind) (i : Int) : aIndexAddr Try.prog 22 (SV b r off len ver) (.int k i) = if 0 ≤ i ∧ i < len then some (.ptr r (off + i.toNat) ver) else none := by
  cases b
  · have := ixa22 r off len ver false k i
    rw [Nat.mul_one] at this
    exact this
  · obtain ⟨ie, h1, h2⟩ := inf3
    unfold aIndexAddr SV
    rw [und22]
    simp [h1, h2]
set_option maxRecDepth 100000 in
/-- slices.Reverse turns a part of a row round. -/
theorem Reverse_ac (b : Bool) (r off n ver : Nat) (c : List Int) (H : AH) (Q : AV → AH → Prop) (hr : Rw r ver H c) (hl : c.length ≤ 1000000) (hc : off + n ≤ c.length)
    (h : ∀ (H' : AH) (d : List Int), d.length = c.length → (∀ x, x < c.length → g d x = if off ≤ x ∧ x < off + n then g c (2 * off + n - 1 - x) else g c x) → Rw r ver H' d → KeepX r H H' → Q (.tuple []) H') : AC Try.prog 81 [SV b r off n ver] H Q := by
  refine L_body 28 Try.func81 rfl rfl ?_
  have hw : IntKind.i64.wrap ((n : Int) - 1) = (n : Int) - 1 := wrap_i64 (by omega)
  refine L_reg [0, 2, 3] (fun K hK => ?_)
  simp [hw]
  apply hK; clear hK K
  refine L_block (L_loopV [2, 3] (fun k vs H' => ∃ (i : Nat) (d : List Int), k = n - i ∧ 2 * i ≤ n + 1 ∧ i ≤ n ∧ d.length = c.length ∧ (∀ x, x < c.length → g d x = if off ≤ x ∧ x < off + n ∧ (x < off + i ∨ off + n ≤ x + i) then g c (2 * off + n - 1 - x) else g c x) ∧ vs = [.int .i64 i, .int .i64 ((n : Int) - 1 - i)] ∧ Rw r ver H' d ∧ KeepX r H H') _ [.int .i64 0, .int .i64 ((n : Int) - 1)] rfl ⟨0, c, rfl, by omega, by omega, rfl, fun x hx => by rw [if_neg (by omega)], by simp, hr, .refl r H⟩ ?_)
  rintro k _ H1 ⟨i, d, rfl, hi, hin, hdl, hd, rfl, hrow, hK⟩
  refine L_reg [0, 2, 3, 9] (fun K hK => ?_)
  simp
  apply hK; clear hK K
  refine L_dec ((i : Int) < (n : Int) - 1 - i) (by simp) (fun hlt => ?_) (fun hge => L_exit ?_)
  · obtain ⟨j, hj⟩ : ∃ j : Nat, n = i + 1 + j := ⟨n - i - 1, by omega⟩
    have hji : (n : Int) - 1 - i = (j : Int) := by omega
    have hx := hrow.ld (i := off + i) (by omega)
    have hy := hrow.ld (i := off + j) (by omega)
    obtain ⟨H2, H3, e1, e2, e3, e4⟩ := hrow.swap (i := off + i) (j := off + j) (by omega) (by omega)
    have g1 : i < n := by omega
    have g2 : j < n := by omega
    refine L_block ?_
    rw [hji]
    refine L_regT mixed [0, 2, 3] (by kernel_rfl) (fun K hK => ?_)
    simp [g1, g2, hx, hy, e1, e2]
    apply hK; clear hK K
    refine L_reg [0, 2, 3] (fun K hK => ?_)
    simp [wrap_i64 (a := (i : Int) + 1) (by omega), wrap_i64 (a := (j : Int) - 1) (by omega)]
    apply hK; clear hK K
    refine ⟨n - (i + 1), [.int .i64 (i + 1 : Nat), .int .i64 ((n : Int) - 1 - (i + 1 : Nat))], by omega, by simp; omega, i + 1, _, rfl, by omega, by omega, by rw [sw_len]; exact hdl, fun x hx => ?_, rfl, e3, hK.trans e4⟩
    rw [g_sw (by omega) (by omega)]
    have d1 := hd (off + i) (by omega)
    have d2 := hd (off + j) (by omega)
    have d3 := hd x hx
    rw [if_neg (by omega)] at d1 d2
    by_cases x1 : x = off + j
    · subst x1
      rw [if_pos rfl, d1, if_pos (by omega)]
      congr 1; omega
    · rw [if_neg x1]
      by_cases x2 : x = off + i
      · subst x2
        rw [if_pos rfl, d2, if_pos (by omega)]
        congr 1; omega
      · rw [if_neg x2, d3]
        by_cases x3 : off ≤ x ∧ x < off + n ∧ (x < off + i ∨ off + n ≤ x + i)
        · rw [if_pos x3, if_pos (by omega)]
        · rw [if_neg x3, if_neg (by omega)]
  · refine ⟨.inl rfl, _, rfl, h _ d hdl (fun x hx => ?_) hrow hK⟩
    rw [hd x hx]
    by_cases x1 : off ≤ x ∧ x < off + n ∧ (x < off + i ∨ off + n ≤ x + i)
    · rw [if_pos x1, if_pos (by omega)]
    · rw [if_neg x1]
      by_cases x2 : off ≤ x ∧ x < off + n
      · rw [if_pos x2]; congr 1; omega
      · rw [if_neg x2]

theorem g_app (a b : List Int) (i : Nat) : g (a ++ b) i = if i < a.length then g a i else g b (i - a.length) := by
  unfold g
  simp only [List.getD_eq_getElem?_getD]
  split
  · rename_i h; rw [List.getElem?_append_left h]
  · rename_i h; rw [List.getElem?_append_right (by omega)]
theorem g_drop (l : List Int) (a i : Nat) : g (l.drop a) i = g l (a + i) := by simp [g, List.getD_eq_getElem?_getD]
theorem g_take {l : List Int} {a i : Nat} (h : i < a) : g (l.take a) i = g l i := by simp [g, List.getD_eq_getElem?_getD, List.getElem?_take_of_lt h]
theorem g_ext {a b : List Int} (h1 : a.length = b.length) (h2 : ∀ i, i < a.length → g a i = g b i) : a = b := by
  apply List.ext_getElem h1
  intro i ha hb
  have := h2 i ha
  rwa [g_lt ha, g_lt hb] at this
theorem ls_len {H : AH} {v : AV} {l : List Int} (h : Ls H v l) : aLen Try.prog 22 v = some (.int .i64 l.length) := by
  obtain ⟨r, off, ver, sz, full, rfl, -⟩ := h
  exact len22 ..
theorem ls_ix {H : AH} {v : AV} {l : List Int} (h : Ls H v l) {i : Nat} (hi : i < l.length) : ∃ r p ver, (∀ k, aIndexAddr Try.prog 22 v (.int k (i : Int)) = some (.ptr r p ver)) ∧ ld H r p ver = some (.int .i64 (g l i)) := by
  obtain ⟨r, off, ver, sz, full, rfl, hld⟩ := h
  obtain ⟨r', rfl, rfl, hx⟩ := hld i hi
  rw [← g_lt hi] at hx
  exact ⟨r', off + i, ver, fun k => by simp [hi], hx⟩
theorem ls_hi {H : AH} {v : AV} {l : List Int} (h : Ls H v l) (h0 : 0 < l.length) {m : Nat} (hm : m ≤ l.length) : ∃ u, aSlice Try.prog 22 v none (some (.int .i64 (m : Int))) none = some u ∧ Ls H u (l.take m) := by
  obtain ⟨r, off, ver, sz, full, rfl, hsz, hsub⟩ := h.sub
  obtain rfl := hsz (by intro e; rw [e] at h0; simp at h0)
  have h2 := hsub 0 m (full && m == l.length) (by omega) hm
  rw [Nat.sub_zero, List.drop_zero] at h2
  exact ⟨_, slice_hi slz22 r off _ ver full hm, h2⟩
section
variable {P : Program} {nt : Nat} {e : Env} {H : AH}
theorem L_loopK (ks : List Nat) {c : Code} {cs : List Code} {Q : Ex → Env → AH → Prop} (ts : List Nat) (I : Nat → List AV → AH → Prop) (n0 : Nat) (vs0 : List AV) (hk : ekeep ks e = e) (he : esets e ts vs0 = e) (h0 : I n0 vs0 H)
    (round : ∀ n vs H, I n vs H → AWL P nt (flat c) (esets e ts vs) H fun x e' H' => match x with | .normal => ∃ n' vs', n' < n ∧ ekeep ks e' = esets e ts vs' ∧ I n' vs' H' | x => More P nt cs Q x e' H') : AWL P nt (.loop c :: cs) e H Q := by
  refine AWL_cons (AW_loop (fun n e1 H1 => ∃ vs, ekeep ks e1 = esets e ts vs ∧ I n vs H1) n0 ⟨vs0, by rw [hk, he], h0⟩ ?_)
  rintro n e1 H1 ⟨vs, he1, hI⟩
  refine AW.keepE ks ?_
  rw [he1]
  refine AW_of_flat (AWL_mono (fun x e' H' hx => ?_) (round n vs H1 hI))
  cases x with
  | normal => obtain ⟨n', vs', h1, h2, h3⟩ := hx; exact ⟨n', h1, vs', h2, h3⟩
  | exit i => exact hx
  | goto i => exact hx
  | ret => exact hx
end
end Go.Proofs.Ytbimapbcpmeooaa
