/- The law of codes. -/
import Derived.Test.YtbhdddifpgfemaaPop
import Derived.Test.YtbhdddifpgfemaaMadeb
import Derived.Test.YtbhdddifpgfemaaWorks
namespace Go.Proofs.Ytbhdddifpgfemaa
open Go Go.Proofs.Ytbhdddifpgfemaa.AX

theorem code_get (a : List Int) {i : Nat} (hi : i < a.length) : ∃ c : Nat, (codeS a)[i]? = some (c : Int) ∧ c + i + 1 ≤ a.length := by
  refine ⟨cnt a i a.length, by simp [codeS, hi], ?_⟩
  unfold cnt
  have := List.countP_le_length (p := fun e => decide (e < a[i]?.getD 0)) (l := (a.drop (i + 1)).take a.length)
  simp at this ⊢
  omega
theorem codeE_bad {l : List Int} {k : Nat} {v : Int} (hk : k < l.length) (hl : l.length ≤ 7) (h : v < 0 ∨ (l.length : Int) - k ≤ v) : codeE (l.set k v) = 1 := by
  unfold codeE
  rw [List.length_set, if_neg (by omega), if_neg (by omega)]
  exact chkC_bad hk h
theorem u8s_ldn15 {H : AH} {r : Nat} {ns : List Nat} {s : Nat} {ro : Bool} (hr : H[r]? = some (.row (u8s ns) 0 s ro)) (hl : ns.length = 15) : ldn H r 0 15 0 = some (u8s ns) := by
  rw [ldn_row hr, List.drop_zero]
  have := takeKnown_row (u8s_known ns) []
  rw [List.append_nil] at this
  rwa [show (u8s ns).length = 15 by simp [u8s, hl]] at this

set_option maxRecDepth 100000 in
theorem gradeCodes_ac (ns : List Nat) (at_ : Nat) (H : AH) (hns : ns.length = 15) (hb : ∀ x ∈ ns, x < 256) (hat : at_ < 256) : AC Try.prog 11 [.agg (u8s ns), .int .u8 at_] H fun u _ => u = .bool true := by
  refine L_body 112 Try.func11 rfl rfl ?_
  refine L_reg [1, 2] (fun K hK => ?_)
  simp [AV.isU, acells]
  apply hK; clear hK K
  have hb1 : (H ++ [AObj.row (u8s ns) 0 0 false])[H.length]? = some (.row (u8s ns) 0 0 false) := by simp
  generalize H ++ [AObj.row (u8s ns) 0 0 false] = H1 at hb1 ⊢
  generalize H.length = b at hb1 ⊢
  have hl15 := u8s_ldn15 hb1 hns
  refine L_reg [1, 5] (fun K hK => ?_)
  simp [hl15, okFn_low]
  refine made_ac ns 7 H1 _ hns hb (by omega) (fun u v H2 n hn hu _ hE2 => ?_)
  simp
  apply hK; clear hK K
  have hmod : ns[0]?.getD 0 % 7 < 7 := Nat.mod_lt _ (by decide)
  have hn17 : 1 ≤ n ∧ n ≤ 7 := by omega
  have hks : (((ns.drop 1).take 7).take n).length = n := by rw [List.length_take, List.length_take, List.length_drop]; omega
  have hp : (aOf n ns).Perm (iota n) := dealS_perm (by rw [hks]; simp)
  generalize aOf n ns = a at hu hp
  have hal : a.length = n := by rw [hp.length_eq]; simp
  have hnd : a.Nodup := hp.nodup_iff.2 ((iota_sorted n).imp fun h => by omega)
  have hrg : ∀ x ∈ a, 0 ≤ x ∧ x < n := fun x hx => iota_mem (hp.subset hx)
  have hck : checkS a = 0 := by
    unfold checkS
    rw [if_neg (by omega), if_neg (by omega)]
    exact chkS_zero (by simpa using hnd) fun x hx => by rw [hal]; exact hrg x hx
  have hcd : codeE (codeS a) = 0 := by
    unfold codeE
    rw [if_neg (by simp; intro h; subst h; simp at hal; omega), if_neg (by simp; omega), chkC_code]
  have hfr : fromR (codeS a) = a := by
    unfold fromR
    rw [if_pos hcd, codeS_len, hal]
    exact fromS_code (iota_sorted n) hp
  have hcr : codeR a = codeS a := by unfold codeR; rw [if_pos hck]
  have hpop := turned_pop hnd fun x hx => by have := hrg x hx; omega
  have htl := turnS_lt a 0 (by decide)
  have hinv := invS_codes a
  have huL := hu.own.ls
  obtain ⟨ur, uv, hu'⟩ := hu.len
  rw [List.length_map, hal] at hu'
  refine L_reg [1, 5, 7, 8] (fun K hK => ?_)
  simp [okFn_low]
  refine Code_ac u a H2 _ (by omega) huL (fun c H3 hc hE3 => ?_)
  rw [hck]
  rw [hcr] at hc
  simp
  apply hK; clear hK K
  obtain ⟨w, cv, cs, hw, rfl, hrow⟩ : ∃ w cv cs, H2.length ≤ w ∧ c = .slice (some w) 0 n cv 1 false ∧ H3[w]? = some (.row ((codeS a).map (.int .i64)) cv cs false) := by
    rcases hc with ⟨h0, -⟩ | ⟨w, cv, cs, h1, h2, h3⟩
    · have := congrArg List.length h0
      simp at this
      subst this
      simp at hal; omega
    · exact ⟨w, cv, cs, h1, by simpa [hal] using h2, h3⟩
  have hcl : (codeS a).length = n := by simp [hal]
  have hcL : Ls H3 (.slice (some w) 0 n cv 1 false) (codeS a) := by
    have := Ls.row hrow false
    rwa [hcl] at this
  refine L_reg [1, 5, 7, 35] (fun K hK => ?_)
  simp [hu', pickV]
  apply hK; clear hK K
  rw [← hu']
  refine L_false (by simp) ?_
  refine L_reg [1, 5, 7, 9] (fun K hK => ?_)
  simp
  apply hK; clear hK K
  refine L_reg [1, 5, 7, 9, 36, 37, 38] (fun K hK => ?_)
  simp
  apply hK; clear hK K
  refine L_block (L_loopV [9, 38] (fun m vs H' => ∃ (i s : Nat), m = n - i ∧ i ≤ n ∧ s ≤ 7 * i ∧ ((codeS a).take i).sum = (s : Int) ∧ vs = [.int .i64 s, .int .i64 i] ∧ H3 = H') _ [.int .i64 (0 : Nat), .int .i64 (0 : Nat)] rfl ⟨0, 0, rfl, by omega, by omega, by simp, rfl, rfl⟩ ?_)
  rintro m _ _ ⟨i, s, rfl, hi, hs, hsum, rfl, rfl⟩
  refine L_reg [1, 5, 7, 9, 36, 37, 38, 39] (fun K hK => ?_)
  simp
  apply hK; clear hK K
  refine L_dec (i < n) (by simp) (fun hlt => ?_) (fun hge => L_exit ?_)
  · obtain ⟨c, hgc, hcb⟩ := code_get a (show i < a.length by omega)
    have hld : ld H3 w i cv = some (.int .i64 c) := by
      rw [ld_row hrow, List.getElem?_map, hgc]; rfl
    have hsum' : ((codeS a).take (i + 1)).sum = ((s + c : Nat) : Int) := by
      rw [List.take_add_one, hgc, List.sum_append, hsum]
      simp
    refine L_block ?_
    refine L_reg [1, 5, 7, 9, 10, 11, 36, 37, 38] (fun K hK => ?_)
    simp [hlt, hld]
    apply hK; clear hK K
    refine L_reg [1, 5, 7, 9, 11, 36, 37, 38, 53] (fun K hK => ?_)
    simp [hu', pickV, wrap_i64 (a := (n : Int) - 1) (by omega), wrap_i64 (a := (n : Int) - 1 - (i : Int)) (by omega), show ¬ ((c : Int) < 0) by omega]
    apply hK; clear hK K
    rw [← hu']
    refine L_false (by simp; omega) ?_
    refine L_reg [1, 5, 7, 9, 36, 37, 38] (fun K hK => ?_)
    simp [wrap_i64 (a := (s : Int) + (c : Int)) (by omega)]
    apply hK; clear hK K
    refine L_reg [1, 5, 7, 9, 36, 37, 38] (fun K hK => ?_)
    simp [wrap_i64 (a := (i : Int) + 1) (by omega)]
    apply hK; clear hK K
    exact ⟨n - (i + 1), [.int .i64 (s + c : Nat), .int .i64 (i + 1 : Nat)], by omega, by simp, i + 1, s + c, rfl, by omega, by omega, hsum', rfl, rfl⟩
  · have : i = n := by omega
    subst this
    rw [List.take_of_length_le (by omega), hinv] at hsum
    have hsi : invS a = s := by omega
    rw [hsi] at hpop
    refine L_reg [1, 5, 7, 9, 12, 13] (fun K hK => ?_)
    simp [okFn_low]
    refine From_ac _ (codeS a) H3 _ (by omega) hcL (fun v3 H4 hv3 hE4 => ?_)
    rw [hcd]
    rw [hfr] at hv3
    simp
    apply hK; clear hK K
    have hv3L := hv3.own.ls
    have huL4 := (huL.ext hE3).ext hE4
    have hrow4 := hE4.row hrow
    refine L_reg [1, 5, 7, 77] (fun K hK => ?_)
    simp [okFn_low]
    refine same_ac _ _ a a H4 _ (by omega) hv3L huL4 ?_
    simp [okFn_low]
    refine turned_ac _ a H4 _ (by omega) huL4 ?_
    simp [okFn_low]
    refine size_ac (turnS a 0) s H4 _ htl hpop (by omega) ?_
    simp
    apply hK; clear hK K
    refine L_false (by simp) ?_
    have hr := rem_nat at_ i
    have hkm : at_ % i < i := Nat.mod_lt _ (by omega)
    generalize at_ % i = k at hr hkm
    have hi0 : i ≠ 0 := by omega
    refine L_reg [5, 7, 14] (fun K hK => ?_)
    simp [wrap_i64 (a := (at_ : Int)) (by omega), hi0, hr]
    apply hK; clear hK K
    obtain ⟨c, hgc, hcb⟩ := code_get a (show k < a.length by omega)
    have hset : ∀ (l : List Int) (x : Int), (l.map (AV.int .i64)).set k (.int .i64 x) = (l.set k x).map (.int .i64) := fun l x => by rw [List.map_set]
    have hst := store_row (P := Try.prog) (u := 3) (p := k) sc3 (x := .int .i64 ((i : Int) - (k : Int))) (y := .int .i64 c) rfl hrow4 (by rw [List.getElem?_map, hgc]; rfl)
    rw [hset] at hst
    have hrow5 : (H4.set w (.row (((codeS a).set k ((i : Int) - (k : Int))).map (.int .i64)) cv (min cs k) false))[w]? = some (.row (((codeS a).set k ((i : Int) - (k : Int))).map (.int .i64)) cv (min cs k) false) := get_set hrow4
    have hbad1 := codeE_bad (l := codeS a) (k := k) (v := (i : Int) - (k : Int)) (by omega) (by omega) (.inr (by omega))
    have hl1 : ((codeS a).set k ((i : Int) - (k : Int))).length = i := by simp [hal]
    generalize (codeS a).set k ((i : Int) - (k : Int)) = l1 at hst hrow5 hbad1 hl1
    generalize H4.set w (.row (l1.map (.int .i64)) cv (min cs k) false) = H5 at hst hrow5
    refine L_reg [7, 14] (fun K hK => ?_)
    simp [hu', hkm, wrap_i64 (a := (i : Int) - (k : Int)) (by omega), hst]
    apply hK; clear hK K
    have hL5 : Ls H5 (.slice (some w) 0 i cv 1 false) l1 := by
      have := Ls.row hrow5 false
      rwa [hl1] at this
    refine L_reg [7, 13, 14] (fun K hK => ?_)
    simp [okFn_low]
    refine From_ac _ l1 H5 _ (by omega) hL5 (fun v4 H6 _ hE6 => ?_)
    rw [hbad1]
    simp
    apply hK; clear hK K
    have hrow6 := hE6.row hrow5
    have hst2 := store_row (P := Try.prog) (u := 3) (p := k) sc3 (x := .int .i64 (-1)) (y := .int .i64 l1[k]) rfl hrow6 (by rw [List.getElem?_map, List.getElem?_eq_getElem (by omega)]; rfl)
    rw [hset] at hst2
    have hrow7 : (H6.set w (.row ((l1.set k (-1)).map (.int .i64)) cv (min (min cs k) k) false))[w]? = some (.row ((l1.set k (-1)).map (.int .i64)) cv (min (min cs k) k) false) := get_set hrow6
    have hbad2 := codeE_bad (l := l1) (k := k) (v := -1) (by omega) (by omega) (.inl (by omega))
    have hl2 : (l1.set k (-1)).length = i := by simp [hl1]
    generalize l1.set k (-1) = l2 at hst2 hrow7 hbad2 hl2
    generalize H6.set w (.row (l2.map (.int .i64)) cv (min (min cs k) k) false) = H7 at hst2 hrow7
    refine L_reg [7, 13] (fun K hK => ?_)
    simp [hkm, hst2]
    apply hK; clear hK K
    have hL7 : Ls H7 (.slice (some w) 0 i cv 1 false) l2 := by
      have := Ls.row hrow7 false
      rwa [hl2] at this
    refine L_reg [13, 16] (fun K hK => ?_)
    simp [okFn_low]
    refine From_ac _ l2 H7 _ (by omega) hL7 (fun v5 H8 _ hE8 => ?_)
    rw [hbad2]
    simp
    apply hK; clear hK K
    refine L_reg [4] (fun K hK => ?_)
    simp [okFn_low, pickV]
    refine works_ac _ _ ?_
    simp
    apply hK; clear hK K
    exact L_ret ⟨.inr rfl, _, rfl, by simp⟩
theorem u8_of {a : Int} (h : (Lit.int .u8 a).wf = true) : ∃ n : Nat, a = n ∧ n < 256 := by
  have h1 : 0 ≤ a ∧ a ≤ 255 := by
    simp [Lit.wf, IntKind.min, IntKind.max, IntKind.bits, IntKind.signed] at h
    omega
  exact ⟨a.toNat, by omega, by omega⟩
theorem u8s_of : ∀ {l : List Int}, (∀ x ∈ l, IntKind.u8.min ≤ x ∧ x ≤ IntKind.u8.max) → ∃ ns : List Nat, l = ns.map Int.ofNat ∧ (∀ x ∈ ns, x < 256)
  | [], _ => ⟨[], rfl, by simp⟩
  | x :: l, h => by
    obtain ⟨ns, h1, h2⟩ := u8s_of fun y hy => h y (List.mem_cons_of_mem _ hy)
    have hx : 0 ≤ x ∧ x ≤ 255 := h x List.mem_cons_self
    have e : Int.ofNat x.toNat = x := Int.toNat_of_nonneg hx.1
    refine ⟨x.toNat :: ns, by rw [List.map_cons, e, ← h1], fun y hy => ?_⟩
    rcases List.mem_cons.1 hy with rfl | hy
    · omega
    · exact h2 y hy
theorem gradeCodes_int (n0 : List Int) (e0 : n0.length = 15) (b0 : ∀ x ∈ n0, IntKind.u8.min ≤ x ∧ x ≤ IntKind.u8.max) (a1 : Int) (w1 : (Lit.int .u8 a1).wf = true) (H : AH) :
    AC Try.prog 11 [.agg (n0.map (.int .u8)), .int .u8 a1] H fun u _ => u = .bool true := by
  obtain ⟨ns, rfl, hb⟩ := u8s_of b0
  obtain ⟨m, rfl, h1⟩ := u8_of w1
  simp only [List.length_map] at e0
  have := gradeCodes_ac ns m H e0 hb h1
  simpa [u8s, Function.comp_def] using this
end Go.Proofs.Ytbhdddifpgfemaa
