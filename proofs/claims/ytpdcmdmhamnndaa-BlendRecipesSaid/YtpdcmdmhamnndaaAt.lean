/- The blend at a place of its round. -/
import Derived.Test.YtpdcmdmhamnndaaPlace
namespace Go.Proofs.Ytpdcmdmhamnndaa
open Go Go.Proofs.Ytpdcmdmhamnndaa.AX
theorem st22_last (H : AH) (v : AV) (hv : v.one = true) : storeV Try.prog 22 (H ++ [AObj.row [.slice none 0 0 0 1 false] 0 0 false]) (.ptr H.length 0 0) v = some (none, H ++ [.row [v] 0 0 false]) := store_last sc22 (y := .slice none 0 0 0 1 false) hv rfl
theorem ownF_keep {N : Nat} {H H' : AH} {v : AV} {l : List AV} (h : OwnF N H v l) (hE : ∀ (j : Nat) (o : AObj), N ≤ j → H[j]? = some o → H'[j]? = some o) : OwnF N H' v l := by
  rcases h with h | ⟨r, ver, stale, h1, h2, h3⟩
  · exact .inl h
  · exact .inr ⟨r, ver, stale, h1, h2, hE r _ h1 h3⟩
theorem ownF_less {N M : Nat} {H : AH} {v : AV} {l : List AV} (h : OwnF N H v l) (hM : M ≤ N) : OwnF M H v l := by
  rcases h with h | ⟨r, ver, stale, h1, h2, h3⟩
  · exact .inl h
  · exact .inr ⟨r, ver, stale, by omega, h2, h3⟩
theorem ownF_one {N : Nat} {H : AH} {v : AV} {l : List AV} (h : OwnF N H v l) : v.one = true := by
  rcases h with ⟨-, rfl⟩ | ⟨r, ver, stale, -, rfl, -⟩ <;> rfl

theorem alloc22_2 (H : AH) (a : AObj) : (tiOf Try.prog 22).map (fun I => ((some (AV.ptr (H.length + 1) 0 0) : Option AV), H ++ [a, AObj.row I.zero 0 0 false])) = some (some (.ptr (H.length + 1) 0 0), H ++ [a, .row [.slice none 0 0 0 1 false] 0 0 false]) := by
  have := alloc_z (H := H ++ [a]) zt22
  simpa using this

set_option maxRecDepth 100000 in
theorem at_ac (n k i : Nat) (hk : k ≤ n) (hn : n ≤ 10) (H : AH) (Q : AV → AH → Prop) (F : List (List Int)) (hF : roundS n k = F) (hi : i < F.length) (hi2 : i ≤ 1000000)
    (h : ∀ v' H', OwnF H.length H' v' (F[i].map (.int .i64)) → Ext H H' → Q v' H') : AC Try.prog 65 [.int .i64 n, .int .i64 k, .int .i64 i] H Q := by
  refine L_body 18 Try.func65 rfl rfl ?_
  refine L_reg [0, 1, 5, 6] (fun K hK => ?_)
  simp [AV.isU, acells, alloc22_2]
  apply hK; clear hK K
  have z0 : (H ++ [AObj.row [.int .i64 (i : Int)] 0 0 false, .row [.slice none 0 0 0 1 false] 0 0 false])[H.length]? = some (.row [.int .i64 (i : Int)] 0 0 false) := by simp
  have z1 : (H ++ [AObj.row [.int .i64 (i : Int)] 0 0 false, .row [.slice none 0 0 0 1 false] 0 0 false])[H.length + 1]? = some (.row [.slice none 0 0 0 1 false] 0 0 false) := by simp
  have zl : (H ++ [AObj.row [.int .i64 (i : Int)] 0 0 false, .row [.slice none 0 0 0 1 false] 0 0 false]).length = H.length + 2 := by simp
  have zE : Ext H (H ++ [AObj.row [.int .i64 (i : Int)] 0 0 false, .row [.slice none 0 0 0 1 false] 0 0 false]) := .push _ _
  generalize H ++ [AObj.row [.int .i64 (i : Int)] 0 0 false, .row [.slice none 0 0 0 1 false] 0 0 false] = Ha at z0 z1 zl zE ⊢
  generalize hp : H.length = p at z0 z1 zl h ⊢
  refine L_reg [5, 6, 10] (fun K hK => ?_)
  simp [okFn_low]
  refine round_ac n k _ _ ?_
  simp
  apply hK; clear hK K
  have a0 := Ext.row (.push Ha [AObj.row [.int .i64 (n : Int)] 0 0 false, .row [.int .i64 (k : Int)] 0 0 false]) z0
  have a1 := Ext.row (.push Ha [AObj.row [.int .i64 (n : Int)] 0 0 false, .row [.int .i64 (k : Int)] 0 0 false]) z1
  have a2 : (Ha ++ [AObj.row [.int .i64 (n : Int)] 0 0 false, .row [.int .i64 (k : Int)] 0 0 false])[p + 2]? = some (.row [.int .i64 (n : Int)] 0 0 false) := by rw [← zl]; simp
  have a3 : (Ha ++ [AObj.row [.int .i64 (n : Int)] 0 0 false, .row [.int .i64 (k : Int)] 0 0 false])[p + 3]? = some (.row [.int .i64 (k : Int)] 0 0 false) := by rw [show p + 3 = Ha.length + 1 by omega]; simp
  have a4 : (Ha ++ [AObj.row [.int .i64 (n : Int)] 0 0 false, .row [.int .i64 (k : Int)] 0 0 false]).length = p + 4 := by simp [zl]
  have a5 := zE.trans (.push Ha [AObj.row [.int .i64 (n : Int)] 0 0 false, .row [.int .i64 (k : Int)] 0 0 false])
  generalize Ha ++ [AObj.row [.int .i64 (n : Int)] 0 0 false, .row [.int .i64 (k : Int)] 0 0 false] = H1 at a0 a1 a2 a3 a4 a5 ⊢
  simp only [zl]
  refine L_block (L_range [5, 6] rfl (okFn_low (by omega) (by omega)) ?_)
  generalize hL : (⟨18, _, _, _, _⟩ : LR) = L
  have hnt : L.nt = 18 := by rw [← hL]
  have hps : L.ps = #[11] := by rw [← hL]
  have hass := congrArg LR.assign hL.symm
  have he : L.e = [(5, .ptr p 0 0), (6, .ptr (p + 1) 0 0)] := by rw [← hL]; rfl
  have hbody := congrArg LR.body hL.symm
  clear hL
  have hFl := roundS_len n k
  rw [hF] at hFl
  have hr0 : (H1 ++ [AObj.loop .ready .normal L])[H1.length]? = some (.loop .ready .normal L) := by simp
  have hlen : (H1 ++ [AObj.loop .ready .normal L]).length = p + 5 := by simp [a4]
  have hin : ∀ j, j < H1.length → (H1 ++ [AObj.loop .ready .normal L])[j]? = H1[j]? := fun j hj => List.getElem?_append_left hj
  refine round1_ac n k hk hn H1.length (p + 3) (p + 2) 0 0 (fun rest H' => (∀ x ∈ rest, x.length = k) ∧ p + 5 ≤ H'.length ∧ (∃ m s, rest[m]? = F[i]? ∧ m ≤ i ∧ H'[p]? = some (.row [.int .i64 ((m : Nat) : Int)] 0 s false)) ∧
      (∃ s, H'[p + 1]? = some (.row [.slice none 0 0 0 1 false] 0 s false)) ∧ H'[H1.length]? = some (.loop .ready .normal L) ∧ Ext H H')
    (fun H' => p + 5 ≤ H'.length ∧ (∃ s v', H'[p + 1]? = some (.row [v'] 0 s false) ∧ v'.one = true ∧ OwnF (p + 5) H' v' (F[i].map (.int .i64))) ∧ H'[H1.length]? = some (.loop .done .ret L) ∧ Ext H H') _ _ (by rw [hin _ (by omega)]; exact a3) (by rw [hin _ (by omega)]; exact a2) (by simp) ?_ ?_ ?_ ?_
  · rw [hlen]
    refine ⟨fun rest H2 H3 hsame ⟨gm, g0, ⟨m, s, g1, g1', g2⟩, ⟨s3, g3⟩, g4, g5⟩ => ?_, fun l rest H2 st ⟨gm, g0, ⟨m, s, g1, g1', g2⟩, ⟨s3, g3⟩, g4, g5⟩ hrow => ?_⟩
    · have e2 : H3[p]? = _ := (hsame.2 _ (by omega) (by omega)).trans g2
      have e3 : H3[p + 1]? = _ := (hsame.2 _ (by omega) (by omega)).trans g3
      have e4 : H3[H1.length]? = _ := (hsame.2 _ (by omega) (by omega)).trans g4
      have hl3 : H1.length < H3.length := (List.getElem?_eq_some_iff.1 e4).1
      exact ⟨gm, by omega, ⟨m, s, g1, g1', e2⟩, ⟨s3, e3⟩, e4, below_ext (w := p) g5 (by omega) (by omega) (fun j hj => hsame.2 j (by omega) (by omega))⟩
    · have hwl := lt_of_row hrow
      refine AYld_mkA g4 (by rw [hps]; rfl) (by rw [hps, hnt]; simp) ?_
      rw [hnt, hps, he, hass]
      refine L_reg [5, 6, 7] (fun K hK => ?_)
      simp [psEnv]
      apply hK; clear hK K
      refine ⟨rfl, .normal, L, g4, ?_⟩
      rw [hbody]
      generalize hH2b : H2.set H1.length (.loop .busy .normal L) = H2b
      have b2 : H2b[p]? = some (.row [.int .i64 ((m : Nat) : Int)] 0 s false) := by rw [← hH2b, set_ne (by omega)]; exact g2
      have b3 : H2b[p + 1]? = some (.row [.slice none 0 0 0 1 false] 0 s3 false) := by rw [← hH2b, set_ne (by omega)]; exact g3
      have bw : H2b[p + 5]? = some (.row (l.map (.int .i64)) 0 st false) := by rw [← hH2b, set_ne (by omega)]; exact hrow
      have br : H2b[H1.length]? = some (.loop .busy .normal L) := by rw [← hH2b, List.getElem?_set_self (by omega)]
      have bE : Ext H H2b := by rw [← hH2b]; exact g5.set _ (by omega)
      have bl : H2b.length = H2.length := by rw [← hH2b]; simp
      have e2 : ld H2b p 0 0 = some (.int .i64 ((m : Nat) : Int)) := by rw [ld_row b2]; rfl
      have hlb : l.length = k := gm l (by simp)
      have hLw : Ls H2b (.slice (some (p + 5)) 0 k 0 1 false) l := by
        have := Ls.row bw false
        rwa [hlb] at this
      refine L_block ?_
      refine L_reg [5, 6, 7, 13] (fun K hK => ?_)
      simp [e2]
      apply hK; clear hK K
      refine L_dec ((m : Int) = 0) rfl (fun hm => ?_) (fun hm => ?_)
      · obtain rfl : m = 0 := by omega
        have hFi : l = F[i] := by rw [List.getElem?_eq_getElem hi] at g1; simpa using g1
        refine L_reg [6] (fun K hK => ?_)
        simp [okFn_low]
        refine kept_ac _ l H2b _ (by omega) hLw (fun v' H3 hv' hE3 => ?_)
        have b3' := hE3.row b3
        have hone := ownF_one hv'
        have hst := store_row (P := Try.prog) (u := 22) (p := 0) sc22 (x := v') (y := .slice none 0 0 0 1 false) hone b3' rfl
        simp [hst]
        apply hK; clear hK K
        have hl3 := hE3.1
        have br' := hE3.row br
        refine L_ret ⟨.busy, .normal, L, by rw [set_ne (by omega)]; exact br', false, rfl, ?_⟩
        refine ⟨by simp; omega, ⟨0, v', ?_, hone, ?_⟩, ?_, ?_⟩
        · rw [set_ne (by omega), get_set b3']
        · rw [← hFi]
          exact ownF_keep (ownF_less hv' (by omega)) fun j o hj ho => by rw [set_ne (by omega), set_ne (by omega)]; exact ho
        · rw [List.getElem?_set_self (by simp; omega)]; rfl
        · exact ((bE.trans hE3).set _ (by omega)).set _ (by omega)
      · obtain ⟨m, rfl⟩ : ∃ m', m = m' + 1 := ⟨m - 1, by omega⟩
        have hst := store_row (P := Try.prog) (u := 3) (p := 0) sc3 (x := .int .i64 ((m : Nat) : Int)) (y := .int .i64 ((m + 1 : Nat) : Int)) rfl b2 rfl
        refine L_reg [] (fun K hK => ?_)
        simp [e2, wrap_i64 (a := (m : Int)) (by omega), hst]
        apply hK; clear hK K
        refine ⟨.busy, .normal, L, by rw [set_ne (by omega)]; exact br, true, rfl, ?_⟩
        simp only [if_true]
        refine ⟨⟨fun x hx => gm x (by simp [hx]), by simp; omega, ⟨m, 0, by simpa using g1, by omega, ?_⟩, ⟨s3, ?_⟩, ?_, ?_⟩, ⟨by simp; omega, fun j N0 r0 s0 h1 h2 => ?_⟩, st, ?_⟩
        · rw [set_ne (by omega), get_set b2]
        · rw [set_ne (by omega), set_ne (by omega)]; exact b3
        · rw [List.getElem?_set_self (by simp; omega)]
        · exact (bE.set _ (by omega)).set _ (by omega)
        · rw [set_ne (by omega), set_ne (by omega), ← hH2b, set_ne (by omega)]; exact h2
        · rw [set_ne (by omega), set_ne (by omega)]; exact bw
  · refine ⟨fun x hx => hFl x (by rw [← hF]; exact hx), by omega, ⟨i, 0, by rw [hF], Nat.le_refl _, ?_⟩, ⟨0, ?_⟩, hr0, a5.trans (.push _ _)⟩
    · rw [hin _ (by omega)]; exact a0
    · rw [hin _ (by omega)]; exact a1
  · rintro H' ⟨-, g0, ⟨m, s, g1, g1', g2⟩, g3, g4, g5⟩
    rw [List.getElem?_eq_getElem hi] at g1
    simp at g1
  · rintro H' ⟨g0, ⟨s, v', g2, hone, g3⟩, g4, g5⟩
    refine ⟨.done, .ret, L, g4, by simp, ?_⟩
    have b2 : (H'.set H1.length (.loop .exhausted .ret L))[p + 1]? = some (.row [v'] 0 s false) := by rw [set_ne (by omega)]; exact g2
    have e2 : ld (H'.set H1.length (.loop .exhausted .ret L)) (p + 1) 0 0 = some v' := by
      rw [ld_row b2]
      cases v' <;> first | rfl | (simp [AV.one] at hone)
    refine ⟨.inr rfl, v', ?_, h v' _ ?_ (g5.set _ (by omega))⟩
    · have h1 : aRes1 Try.prog (ekeep [5, 6] [(5, AV.ptr p 0 0), (6, .ptr (p + 1) 0 0), (10, AV.func (Fn.func 99) [] [AV.ptr (p + 2 + 1) 0 0, AV.ptr (p + 2) 0 0])]) (H'.set H1.length (.loop .exhausted .ret L)) (.cell 6 22) = some v' := by
        show loadV Try.prog 22 _ (.ptr (p + 1) 0 0) = _
        rw [ld22]; exact e2
      show (aResList Try.prog _ _ [.cell 6 22]).map _ = some v'
      simp only [aResList]
      rw [h1]; rfl
    · exact ownF_less (ownF_keep g3 fun j o hj ho => by rw [set_ne (by omega)]; exact ho) (by omega)
end Go.Proofs.Ytpdcmdmhamnndaa
