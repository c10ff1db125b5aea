/- Orders are checked, and have codes. -/
import Derived.Test.YtbhdddifpgfemaaDealt
namespace Go.Proofs.Ytbhdddifpgfemaa
open Go Go.Proofs.Ytbhdddifpgfemaa.AX

@[simp] theorem ixa82 (r off ver : Nat) (k : IntKind) (i : Int) : aIndexAddr Try.prog 82 (.ptr r off ver) (.int k i) = if 0 ≤ i ∧ i < (7 : Nat) then some (.ptr r (off + i.toNat * 1) ver) else none := ixa_ar (by kernel_rfl) ..
def sn (done : List Int) : List AV := (List.range 7).map fun j : Nat => .bool (decide ((j : Int) ∈ done))
theorem zt82 : zeroT Try.prog 82 = some (sn []) := by kernel_rfl
def chkS (n : Int) : List Int → List Int → Int
  | done, x :: l => if x < 0 ∨ n ≤ x then 2 else if x ∈ done then 6 else chkS n (done ++ [x]) l
  | _, [] => 0
def checkS (l : List Int) : Int := if l.length = 0 then 4 else if 7 < l.length then 3 else chkS l.length [] l
theorem get_set {H : AH} {r : Nat} {o o' : AObj} (h : H[r]? = some o) : (H.set r o')[r]? = some o' := by
  have := (List.getElem?_eq_some_iff.1 h).1
  simp [this]
theorem Ls.flat {H : AH} {v : AV} {l : List Int} (h : Ls H v l) (hne : 0 < l.length) : ∃ r off ver full, v = .slice (some r) off l.length ver 1 full ∧ ∀ i (hi : i < l.length), ld H r (off + i) ver = some (.int .i64 l[i]) := by
  obtain ⟨r, off, ver, sz, full, rfl, hl⟩ := h
  obtain ⟨r', rfl, rfl, -⟩ := hl 0 hne
  refine ⟨r', off, ver, full, rfl, fun i hi => ?_⟩
  obtain ⟨r2, h1, -, h3⟩ := hl i hi
  obtain rfl := Option.some.inj h1
  exact h3

set_option maxRecDepth 100000 in
theorem Check_ac (v : AV) (l : List Int) (H : AH) (Q : AV → AH → Prop) (hl : l.length ≤ 1000000) (hv : Ls H v l) (h : ∀ H', Ext H H' → Q (.int .i64 (checkS l)) H') : AC Try.prog 25 [v] H Q := by
  obtain ⟨I, hI, hz⟩ := zeroT_some zt82
  obtain ⟨r0, off0, ver0, sz0, full0, hv0, -⟩ := id hv
  refine L_body 32 Try.func25 rfl rfl ?_
  refine L_reg [0] (fun K hK => ?_)
  simp
  apply hK; clear hK K
  refine L_reg [0, 8] (fun K hK => ?_)
  simp [hv0]
  apply hK; clear hK K
  rw [← hv0]
  unfold checkS at h
  refine L_dec ((l.length : Int) = 0) rfl (fun h0 => ?_) (fun h0 => ?_)
  · rw [if_pos (by omega)] at h
    refine L_reg [2] (fun K hK => ?_)
    simp
    apply hK; clear hK K
    exact L_ret ⟨.inr rfl, _, rfl, h _ (.refl _)⟩
  · rw [if_neg (by omega)] at h
    refine L_reg [0, 11] (fun K hK => ?_)
    simp [hv0]
    apply hK; clear hK K
    rw [← hv0]
    refine L_dec (7 < l.length) (by simp; omega) (fun h7 => ?_) (fun h7 => ?_)
    · rw [if_pos h7] at h
      refine L_reg [2] (fun K hK => ?_)
      simp
      apply hK; clear hK K
      exact L_ret ⟨.inr rfl, _, rfl, h _ (.refl _)⟩
    · rw [if_neg h7] at h
      obtain ⟨r, off, ver, full, rfl, hld⟩ := Ls.flat hv (by omega)
      clear hv0
      refine L_reg [0, 3] (fun K hK => ?_)
      simp [hI, hz]
      apply hK; clear hK K
      have hE0 : Ext H (H ++ [AObj.row (sn []) 0 0 false]) := .push _ _
      have h1 : (H ++ [AObj.row (sn []) 0 0 false])[H.length]? = some (.row (sn []) 0 0 false) := by simp
      generalize H ++ [AObj.row (sn []) 0 0 false] = H1 at hE0 h1 ⊢
      generalize hw : H.length = w at h1 ⊢
      refine L_reg [0, 3, 12, 13, 14] (fun K hK => ?_)
      simp
      apply hK; clear hK K
      refine L_block (L_loopV [14] (fun m vs H' => ∃ i : Nat, m = l.length - i ∧ i ≤ l.length ∧ chkS l.length [] l = chkS l.length (l.take i) (l.drop i) ∧ vs = [.int .i64 i] ∧ Ext H H' ∧ H'[w]? = some (.row (sn (l.take i)) 0 0 false)) _ [.int .i64 (0 : Nat)] rfl ⟨0, rfl, by omega, rfl, rfl, hE0, h1⟩ ?_)
      rintro m _ H2 ⟨i, rfl, hi, hvs, rfl, hE, hrow⟩
      refine L_reg [0, 3, 12, 13, 14, 15] (fun K hK => ?_)
      simp
      apply hK; clear hK K
      refine L_dec (i < l.length) (by simp) (fun hlt => ?_) (fun hge => L_exit ?_)
      · have hrd := hE.ld (hld i hlt)
        have htk : l.take (i + 1) = l.take i ++ [l[i]] := List.take_succ_eq_append_getElem hlt
        rw [List.drop_eq_getElem_cons hlt] at hvs
        simp only [chkS] at hvs
        generalize l[i] = x at hrd hvs htk
        refine L_block ?_
        refine L_reg [0, 3, 5, 12, 13, 14] (fun K hK => ?_)
        simp [hlt, hrd]
        apply hK; clear hK K
        by_cases hx0 : x < 0
        · rw [if_pos (.inl hx0)] at hvs
          refine L_reg [0, 3, 5, 12, 13, 14, 25] (fun K hK => ?_)
          simp [hx0, pickV]
          apply hK; clear hK K
          refine L_true (by simp) ?_
          refine L_reg [2] (fun K hK => ?_)
          simp
          apply hK; clear hK K
          exact L_ret ⟨.inr rfl, _, rfl, by simpa [hvs] using h _ hE⟩
        · refine L_reg [0, 3, 5, 12, 13, 14, 25] (fun K hK => ?_)
          simp [hx0, pickV]
          apply hK; clear hK K
          refine L_dec ((l.length : Int) ≤ x) (by simp) (fun hxn => ?_) (fun hxn => ?_)
          · rw [if_pos (.inr hxn)] at hvs
            refine L_reg [2] (fun K hK => ?_)
            simp
            apply hK; clear hK K
            exact L_ret ⟨.inr rfl, _, rfl, by simpa [hvs] using h _ hE⟩
          · rw [if_neg (by omega)] at hvs
            obtain ⟨z, rfl⟩ := Int.eq_ofNat_of_zero_le (show 0 ≤ x by omega)
            have hz7 : z < 7 := by omega
            have hz7i : (z : Int) < 7 := by omega
            have hcell : (sn (l.take i))[z]? = some (.bool (decide ((z : Int) ∈ l.take i))) := by simp [sn, hz7]
            have l2 : ld H2 w z 0 = some (.bool (decide ((z : Int) ∈ l.take i))) := by rw [ld_row hrow, hcell]; rfl
            have hst := store_row (P := Try.prog) (u := 4) (p := z) sc4 (x := .bool true) (y := .bool (decide ((z : Int) ∈ l.take i))) rfl hrow (by rw [hcell]; rfl)
            have hset : (sn (l.take i)).set z (.bool true) = sn (l.take (i + 1)) := by
              rw [htk]
              apply List.ext_getElem
              · simp [sn]
              · intro q h1 h2
                rw [List.getElem_set]
                simp only [sn, List.getElem_map, List.getElem_range]
                by_cases hq : z = q
                · subst hq; simp
                · rw [if_neg hq]
                  have : ¬ ((q : Int) = (z : Int)) := by omega
                  simp [this]
            rw [hset, Nat.zero_min] at hst
            refine L_reg [0, 3, 5, 12, 13, 14, 28] (fun K hK => ?_)
            simp [hz7i, l2]
            apply hK; clear hK K
            refine L_dec ((z : Int) ∈ l.take i) (by simp) (fun hm => ?_) (fun hm => ?_)
            · rw [if_pos hm] at hvs
              refine L_reg [2] (fun K hK => ?_)
              simp
              apply hK; clear hK K
              exact L_ret ⟨.inr rfl, _, rfl, by simpa [hvs] using h _ hE⟩
            · rw [if_neg hm] at hvs
              refine L_reg [0, 3, 12, 13, 14] (fun K hK => ?_)
              simp [hz7i, hst]
              apply hK; clear hK K
              refine L_reg [0, 3, 12, 13, 14] (fun K hK => ?_)
              simp [wrap_i64 (a := (i : Int) + 1) (by omega)]
              apply hK; clear hK K
              exact ⟨l.length - (i + 1), [.int .i64 (i + 1 : Nat)], by omega, by simp, i + 1, rfl, by omega, by rw [hvs, htk], rfl, hE.set _ (by omega), get_set hrow⟩
      · have : i = l.length := by omega
        subst this
        rw [List.drop_length] at hvs
        refine L_reg [2] (fun K hK => ?_)
        simp
        apply hK; clear hK K
        exact L_ret ⟨.inr rfl, _, rfl, by simpa [hvs, chkS] using h _ hE⟩
theorem Check_q (v : AV) (l : List Int) (H : AH) (hl : l.length ≤ 1000000) (hv : Ls H v l) (Q : AV → AH → Prop) (h : Q (.int .i64 (checkS l)) H) : AC Try.prog 25 [v] H Q :=
  AC.quiet (belB_int _ _ _ _) (fun Q h => Check_ac v l H Q hl hv h) Q h
end Go.Proofs.Ytbhdddifpgfemaa
