/- What is lacking: struck from a row of the call's own. -/
import Derived.Test.YtpdcmdmhamnndaaLack
import Derived.Test.YtpdcmdmhamnndaaAxR
namespace Go.Proofs.Ytpdcmdmhamnndaa
open Go Go.Proofs.Ytpdcmdmhamnndaa.AX

theorem clear_tail {H : AH} {t : TypeId} {z : AV} (hz : elZ Try.prog t = some z) {r ver stale i : Nat} {c : List AV} (hr : H[r]? = some (.row c ver stale false)) (hone : ∀ x ∈ c, x.one = true) (hz1 : z.one = true) (hi : i < c.length) (f : Bool) :
    aClear Try.prog H t (.slice (some r) i (c.length - i) ver 1 f) = some (H.set r (.row (c.take i ++ List.replicate (c.length - i) z) ver (min stale i) false)) := by
  unfold elZ at hz
  split at hz
  case h_2 => cases hz
  rename_i e he
  split at hz
  case h_2 => cases hz
  rename_i I hI
  split at hz
  case isFalse => cases hz
  rename_i hc
  split at hz
  case h_2 => cases hz
  rename_i z' hz'
  obtain rfl := Option.some.inj hz
  obtain ⟨n, hn⟩ : ∃ n, c.length - i = n + 1 := ⟨c.length - i - 1, by omega⟩
  have hdl : (c.drop i).length = n + 1 := by simp [hn]
  have hk : (takeKnown (n + 1) (c.drop i)).isSome = true := by
    have := takeKnown_row (l := c.drop i) (fun x hx => one_known (hone x (List.mem_of_mem_drop hx))) []
    rw [List.append_nil, hdl] at this
    rw [this]; rfl
  have hvs : ((List.range ((n + 1) * 1)).map fun i => (I.zero[i % I.zero.length]?).getD .undef) = z' :: List.replicate n z' := by
    rw [← List.replicate_succ, hz']
    apply List.ext_getElem
    · simp
    · intro j h1 h2
      simp [Nat.mod_one]
  have hall : (z' :: List.replicate n z').all AV.one = true := by
    rw [List.all_eq_true]
    intro x hx
    rw [← List.replicate_succ] at hx
    rw [List.eq_of_mem_replicate hx]; exact hz1
  unfold aClear
  simp only [he, hI, isNilSl, slParts, hc.1, hn, Bool.false_eq_true, if_false]
  rw [if_neg (Nat.succ_ne_zero n), if_pos ⟨trivial, Nat.one_pos⟩, hvs]
  simp only [stn, hr, List.length_cons, List.length_replicate]
  rw [if_pos ⟨trivial, trivial, hall, hk⟩, List.drop_eq_nil_of_le (by omega)]
  simp [List.replicate_succ]

theorem ixS_spec (p : Int → Bool) : ∀ (l : List Int) (i : Nat), (ixS p l i = -1 ∧ ∀ x ∈ l, p x = false) ∨ ∃ k, ∃ h : k < l.length, ixS p l i = ((i + k : Nat) : Int) ∧ p l[k] = true ∧ ∀ x ∈ l.take k, p x = false
  | [], i => .inl ⟨rfl, by simp⟩
  | y :: l, i => by
    simp only [ixS]
    by_cases hy : p y = true
    · exact .inr ⟨0, by simp, by simp [hy], by simpa using hy, by simp⟩
    · rw [if_neg hy]
      rcases ixS_spec p l (i + 1) with ⟨h1, h2⟩ | ⟨k, h, h1, h2, h3⟩
      · exact .inl ⟨h1, by simpa using ⟨by simpa using hy, h2⟩⟩
      · refine .inr ⟨k + 1, by simp; omega, by rw [h1]; congr 1; omega, by simpa using h2, ?_⟩
        simpa using ⟨by simpa using hy, h3⟩
def lack (l o : List Int) : List Int := l.filter fun y => decide (y ∉ o)
theorem lack_take {l o : List Int} {j : Nat} (hj : j < l.length) : lack (l.take (j + 1)) o = lack (l.take j) o ++ if l[j] ∈ o then [] else [l[j]] := by
  unfold lack
  rw [List.take_add_one, List.getElem?_eq_getElem hj, List.filter_append]
  by_cases h : l[j] ∈ o <;> simp [h]
def OwnG (N : Nat) (H : AH) (v : AV) (l : List Int) : Prop := OwnF N H v (l.map (.int .i64)) ∨ OwnT N H v (l.map (.int .i64))

set_option maxRecDepth 100000 in
theorem DeleteFunc_ac (v : AV) (l : List Int) (q s : Nat) (ov : AV) (o : List Int) (H0 H : AH) (Q : AV → AH → Prop) (hE : Ext H0 H) (hl : l.length ≤ 1000000) (hv : OwnF H0.length H v (l.map (.int .i64))) (ho : o.length ≤ 1000000) (hq : H0[q]? = some (.row [ov] 0 s false)) (hone : ov.one = true) (hov : Ls H0 ov o)
    (h : ∀ v' H', OwnG H0.length H' v' (lack l o) → Ext H0 H' → Q v' H') : AC Try.prog 94 [v, .func (.func 95) [] [.ptr q 0 0]] H Q := by
  have hls : Ls H v l := by
    rcases hv with ⟨h1, rfl⟩ | ⟨r, ver, stale, h1, rfl, h3⟩
    · obtain rfl : l = [] := by simpa using h1
      exact ⟨none, 0, 0, 1, false, rfl, fun i hi => by simp at hi⟩
    · have := Ls.row h3 false
      simpa using this
  refine L_body 42 Try.func94 rfl rfl ?_
  refine L_reg [0, 1] (fun K hK => ?_)
  simp
  apply hK; clear hK K
  refine L_reg [0, 1, 5] (fun K hK => ?_)
  simp [okFn_low]
  refine IndexFunc_ac v l q s ov o _ _ hl hls ho (hE.row hq) hone (hov.ext hE) ?_
  simp
  apply hK; clear hK K
  refine L_reg [0, 1, 5, 12] (fun K hK => ?_)
  simp
  apply hK; clear hK K
  rcases ixS_spec (fun y => decide (y ∈ o)) l 0 with ⟨h1, h2⟩ | ⟨k0, hk0, h1, h2, h3⟩
  · refine L_true (by simp [h1]) ?_
    refine L_reg [4] (fun K hK => ?_)
    simp
    apply hK; clear hK K
    have : lack l o = l := by
      unfold lack
      rw [List.filter_eq_self]
      intro x hx
      simpa using h2 x hx
    exact L_ret ⟨.inr rfl, _, rfl, h v H (by rw [this]; exact .inl hv) hE⟩
  · refine L_false (by simp [h1]) ?_
    rw [h1]
    rcases hv with ⟨g1, -⟩ | ⟨r, ver, stale, g1, rfl, g3⟩
    · obtain rfl : l = [] := by simpa using g1
      simp at hk0
    simp only [List.length_map, Nat.zero_add]
    have h2' : l[k0] ∈ o := by simpa using h2
    have hk1 : lack (l.take k0) o = l.take k0 := by
      unfold lack
      rw [List.filter_eq_self]
      intro x hx
      simpa using h3 x hx
    refine L_reg [0, 1, 5, 6] (fun K hK => ?_)
    simp [wrap_i64 (a := (k0 : Int) + 1) (by omega)]
    apply hK; clear hK K
    refine L_block (L_loopV [5, 6] (fun k vs H' => ∃ (i j : Nat) (c : List Int) (st : Nat), k = l.length - j ∧ i < j ∧ j ≤ l.length ∧ c.length = l.length ∧ c.take i = lack (l.take j) o ∧ c.drop j = l.drop j ∧ vs = [.int .i64 i, .int .i64 j] ∧ H'[r]? = some (.row (c.map (.int .i64)) ver st false) ∧ Ext H0 H') _ [.int .i64 k0, .int .i64 (k0 + 1 : Nat)] rfl ⟨k0, k0 + 1, l, stale, rfl, by omega, by omega, rfl, by rw [lack_take hk0, hk1]; simp [h2'], rfl, rfl, g3, hE⟩ ?_)
    rintro k _ H1 ⟨i, j, c, st, rfl, hij, hj, hcl, hct, hcd, rfl, hrow, hE1⟩
    refine L_reg [0, 1, 5, 6, 19] (fun K hK => ?_)
    simp
    apply hK; clear hK K
    refine L_dec (j < l.length) (by simp) (fun hlt => ?_) (fun hge => L_exit ?_)
    · have hcj : c[j]'(by omega) = l[j] := by
        rw [List.drop_eq_getElem_cons (by omega), List.drop_eq_getElem_cons hlt] at hcd
        exact (List.cons.inj hcd).1
      have hcd' : c.drop (j + 1) = l.drop (j + 1) := by
        rw [List.drop_eq_getElem_cons (by omega), List.drop_eq_getElem_cons hlt] at hcd
        exact (List.cons.inj hcd).2
      have hrd : ld H1 r j ver = some (.int .i64 l[j]) := by rw [ld_row hrow, ← hcj]; simp [show j < c.length by omega]
      refine L_block ?_
      refine L_reg [0, 1, 5, 6, 7] (fun K hK => ?_)
      simp [hlt, hrd]
      apply hK; clear hK K
      refine L_reg [0, 1, 5, 6, 7, 29] (fun K hK => ?_)
      simp [okFn_low]
      refine lack1_ac _ q s ov o _ _ ho (hE1.row hq) hone (hov.ext hE1) ?_
      simp
      apply hK; clear hK K
      by_cases hm : l[j] ∈ o
      · refine L_false (by simp [hm]) ?_
        refine L_reg [0, 1, 5, 6] (fun K hK => ?_)
        simp [wrap_i64 (a := (j : Int) + 1) (by omega)]
        apply hK; clear hK K
        exact ⟨l.length - (j + 1), [.int .i64 i, .int .i64 (j + 1 : Nat)], by omega, by simp, i, j + 1, c, st, rfl, by omega, by omega, hcl, by rw [hct, lack_take hlt]; simp [hm], hcd', rfl, hrow, hE1⟩
      · refine L_true (by simp [hm]) ?_
        have hst := store_row (P := Try.prog) (u := 3) (p := i) sc3 (x := .int .i64 l[j]) (y := .int .i64 (c[i]'(by omega))) rfl hrow (by simp [show i < c.length by omega])
        rw [← List.map_set] at hst
        refine L_reg [0, 1, 5, 6, 7] (fun K hK => ?_)
        simp [show i < l.length by omega, hst]
        apply hK; clear hK K
        refine L_reg [0, 1, 5, 6] (fun K hK => ?_)
        simp [wrap_i64 (a := (i : Int) + 1) (by omega)]
        apply hK; clear hK K
        refine L_reg [0, 1, 5, 6] (fun K hK => ?_)
        simp [wrap_i64 (a := (j : Int) + 1) (by omega)]
        apply hK; clear hK K
        refine ⟨l.length - (j + 1), [.int .i64 (i + 1 : Nat), .int .i64 (j + 1 : Nat)], by omega, by simp, i + 1, j + 1, c.set i l[j], min st i, rfl, by omega, by omega, by simpa using hcl, ?_, ?_, rfl, by rw [get_set hrow, List.map_set], hE1.set _ (by omega)⟩
        · rw [lack_take hlt, if_neg hm, ← hct, List.take_add_one, List.take_set_of_le (by omega)]
          simp [show i < c.length by omega]
        · rw [List.drop_set_of_lt (by omega)]; exact hcd'
    · obtain rfl : j = l.length := by omega
      rw [List.take_length] at hct
      have e2 : aSlice Try.prog 22 (.slice (some r) 0 l.length ver 1 false) (some (.int .i64 (i : Int))) none none = some (.slice (some r) i (l.length - i) ver 1 false) := by
        have := slice_lo slz22 (some r) 0 l.length ver false (k := .i64) (i := i) (by omega)
        simpa using this
      have e1 : aSlice Try.prog 22 (.slice (some r) 0 l.length ver 1 false) none (some (.int .i64 (i : Int))) none = some (.slice (some r) 0 i ver 1 false) := by
        have := slice_hi slz22 (some r) 0 l.length ver false (k := .i64) (i := i) (by omega)
        simpa using this
      have hint : ∀ x ∈ c.map (AV.int .i64), x.one = true := by
        intro x hx
        obtain ⟨y, -, rfl⟩ := List.mem_map.1 hx; rfl
      have e3 := clear_tail elz22 hrow hint rfl (i := i) (by simp; omega) false
      simp only [List.length_map, hcl] at e3
      refine L_reg [0, 5] (fun K hK => ?_)
      simp [e2, e3]
      apply hK; clear hK K
      refine L_reg [4] (fun K hK => ?_)
      simp [e1]
      apply hK; clear hK K
      have hil : i = (lack l o).length := by rw [← hct]; simp; omega
      refine L_ret ⟨.inr rfl, _, rfl, h _ _ (.inr ⟨r, ver, min st i, List.replicate (l.length - i) (.int .i64 0), g1, by rw [hil]; simp, ?_, ?_⟩) (hE1.set _ g1)⟩
      · rw [get_set hrow, ← hct, List.map_take]
      · intro x hx
        rcases List.mem_append.1 hx with hx | hx
        · obtain ⟨y, -, rfl⟩ := List.mem_map.1 hx; rfl
        · rw [List.eq_of_mem_replicate hx]; rfl
set_option maxRecDepth 100000 in
theorem lacking_ac (u v : AV) (l o : List Int) (H : AH) (Q : AV → AH → Prop) (hl : l.length ≤ 1000000) (ho : o.length ≤ 1000000) (hu : Ls H u l) (hv : Ls H v o) (h : ∀ v' H', OwnG H.length H' v' (lack l o) → Ext H H' → Q v' H') : AC Try.prog 67 [u, v] H Q := by
  obtain ⟨r0, off0, ver0, sz0, full0, hv0, -⟩ := id hv
  refine L_body 9 Try.func67 rfl rfl ?_
  refine L_reg [0, 3] (fun K hK => ?_)
  simp [hv0, AV.isU, acells]
  apply hK; clear hK K
  have hE1 : Ext H (H ++ [AObj.row [.slice r0 off0 o.length ver0 sz0 full0] 0 0 false]) := .push _ _
  have hq : (H ++ [AObj.row [.slice r0 off0 o.length ver0 sz0 full0] 0 0 false])[H.length]? = some (.row [.slice r0 off0 o.length ver0 sz0 full0] 0 0 false) := by simp
  generalize H ++ [AObj.row [.slice r0 off0 o.length ver0 sz0 full0] 0 0 false] = H1 at hE1 hq ⊢
  have hov : Ls H1 (.slice r0 off0 o.length ver0 sz0 full0) o := hv0 ▸ hv.ext hE1
  refine L_reg [4] (fun K hK => ?_)
  simp [okFn_low]
  refine kept_ac u l H1 _ hl (hu.ext hE1) (fun w H2 hw hE2 => ?_)
  simp [okFn_low]
  refine DeleteFunc_ac w l H.length 0 (.slice r0 off0 o.length ver0 sz0 full0) o H1 H2 _ hE2 hl hw ho hq rfl hov (fun v' H3 hv' hE3 => ?_)
  simp
  apply hK; clear hK K
  have hle := hE1.1
  refine L_ret ⟨.inr rfl, _, rfl, h v' H3 ?_ (hE1.trans hE3)⟩
  rcases hv' with g | ⟨r, ver, stale, tl, g1, g2⟩
  · exact .inl (ownF_less g hle)
  · exact .inr ⟨r, ver, stale, tl, by omega, g2⟩
/-- The exact form, where something is lacking. -/
theorem lacking_q (u v : AV) (l o : List Int) (H : AH) (hl : l.length ≤ 1000000) (ho : o.length ≤ 1000000) (hu : Ls H u l) (hv : Ls H v o) (hne : lack l o ≠ []) (Q : AV → AH → Prop)
    (hq : Q (.slice (some H.length) 0 (lack l o).length 0 1 false) (H ++ [.row ((lack l o).map (.int .i64)) 0 (lack l o).length false])) : AC Try.prog 67 [u, v] H Q := by
  refine AC_fin (lacking_ac u v l o H _ hl ho hu hv fun v' H' hO hE => ?_)
  refine ⟨⟨hE.1, fun r o hr ho => .inl (by rw [← hE.2 r hr]; exact ho)⟩, ?_⟩
  have ht : H'.take H.length = H := by
    obtain ⟨T, rfl⟩ := hE.app
    simp
  have hO' : OwnT H.length H' v' ((lack l o).map (.int .i64)) := by
    rcases hO with g | g
    · exact g.more (by simpa using hne) (fun x hx => by obtain ⟨y, -, rfl⟩ := List.mem_map.1 hx; rfl)
    · exact g
  have hb := belB_ints H.length (lack l o)
  obtain ⟨r, ver, stale, tl, hr, rfl, hrow, -⟩ := hO'
  have hlm : ((lack l o).map (AV.int .i64)).length = (lack l o).length := by simp
  rw [hlm] at *
  have hlm2 : ((lack l o).map (AV.int .i64)).length = (lack l o).length := by simp
  have h1 : belB H.length 4 (.slice (some r) 0 (lack l o).length ver 1 false) = false := by simp [belB]; omega
  have htk : ((lack l o).map (AV.int .i64) ++ tl).take (lack l o).length = (lack l o).map (AV.int .i64) := List.take_left' hlm2
  have h2 : finSlice H.length H' (.slice (some r) 0 (lack l o).length ver 1 false) = some (.slice (some H.length) 0 (lack l o).length 0 1 false, .row ((lack l o).map (.int .i64)) 0 (lack l o).length false) := by
    simp only [finSlice, hrow, if_pos hr, Nat.mul_one, Nat.zero_add, List.drop_zero]
    rw [htk, if_pos ⟨trivial, by simp, hb⟩]
  have hf : finish H.length H' (.slice (some r) 0 (lack l o).length ver 1 false) = (.slice (some H.length) 0 (lack l o).length 0 1 false, H ++ [.row ((lack l o).map (.int .i64)) 0 (lack l o).length false]) := by
    unfold finish
    rw [h1]
    simp only [Bool.false_eq_true, if_false, h2, ht]
  rw [hf]; exact hq
end Go.Proofs.Ytpdcmdmhamnndaa
