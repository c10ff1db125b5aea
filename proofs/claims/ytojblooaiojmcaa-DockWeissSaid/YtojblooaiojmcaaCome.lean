/- Carts come to bays; wishes by numbers. -/
import Derived.Test.YtojblooaiojmcaaTurning
namespace Go.Proofs.Ytojblooaiojmcaa
open Go Go.Proofs.Ytojblooaiojmcaa.AX

theorem AX.ownF_append' {P : Program} {H : AH} {N : Nat} (hN : N ≤ H.length) {t u : TypeId} (ht : elT P t = true) (hu : elT P u = true) {v x : AV} {l : List AV} {m : Nat} (ho : OwnF N H v l) (hx : x.one = true) (hlen : l.length < 16777216) :
    ∃ v' H', aAppend P (H ++ [.row [x] 0 m false]) t u v (.slice (some H.length) 0 1 0 1 false) = some (v', H') ∧ OwnF N H' v' (l ++ [x]) ∧ N ≤ H'.length ∧ ∀ j, j < N → H'[j]? = H[j]? := by
  have hl : (H.take N).length = N := by simp; omega
  have hE : Ext (H.take N) H := ⟨by simp; omega, fun j hj => by rw [List.getElem?_take_of_lt (by omega)]⟩
  obtain ⟨v', H', h1, h2, h3⟩ := ownF_append hE ht hu (v := v) (x := x) (l := l) (m := m) (by rw [hl]; exact ho) hx hlen
  rw [hl] at h2
  refine ⟨v', H', h1, h2, by have := h3.1; omega, fun j hj => ?_⟩
  rw [h3.2 j (by omega), List.getElem?_take_of_lt hj]

def freeV (f : Nat → Bool) : List AV := (List.range 9).map fun b => .bool (f b)
theorem freeV_get (f : Nat → Bool) {i : Nat} (hi : i < 9) : (freeV f)[i]? = some (.bool (f i)) := by simp [freeV, hi]
theorem freeV_set (f : Nat → Bool) {i : Nat} (x : Bool) : (freeV f).set i (.bool x) = freeV fun b => if b = i then x else f b := by
  apply List.ext_getElem?
  intro j
  rw [List.getElem?_set]
  by_cases hj : j < 9
  · by_cases hij : i = j
    · subst hij; simp [freeV, hj]
    · rw [if_neg hij, freeV_get f hj, freeV_get _ hj, if_neg (fun h => hij h.symm)]
  · have h1 : ∀ f, (freeV f)[j]? = none := fun f => by simp [freeV]; omega
    rw [h1, h1]
    by_cases hij : i = j
    · subst hij; simp [freeV, hj]
    · rw [if_neg hij]
theorem freeV_congr {f g : Nat → Bool} (h : ∀ b, f b = g b) : freeV f = freeV g := by
  simp only [freeV]
  exact List.map_congr_left fun b _ => by rw [h b]

def zeroT (P : Program) (t : TypeId) : Option (List AV) := (tiOf P t).map (·.zero)
theorem alloc_z {P : Program} {t : TypeId} {z : List AV} {H : AH} (h : zeroT P t = some z) : ((tiOf P t).map fun I => ((some (AV.ptr H.length 0 0) : Option AV), H ++ [AObj.row I.zero 0 0 false])) = some (some (.ptr H.length 0 0), H ++ [.row z 0 0 false]) := by
  unfold zeroT at h
  cases ht : tiOf P t with
  | none => rw [ht] at h; cases h
  | some I => rw [ht] at h; cases h; rfl
theorem z88 : zeroT Try.prog 88 = some (freeV fun _ => false) := by kernel_rfl
theorem ixa88 (r off ver : Nat) (k : IntKind) (i : Int) : aIndexAddr Try.prog 88 (.ptr r off ver) (.int k i) = if 0 ≤ i ∧ i < (9 : Nat) then some (.ptr r (off + i.toNat * 1) ver) else none := ixa_ar (by kernel_rfl) ..
theorem sc4 : scal Try.prog 4 = true := by kernel_rfl

def freeS (n s : Nat) : Nat → Bool := fun b => decide (b < n) && !s.testBit b

theorem come_ac (n : Nat) (v : AV) (l : List Nat) (H : AH) (Q : AV → AH → Prop) (hn : n ≤ 8) (hl : l.length ≤ 8) (hw : ∀ w ∈ l, w < n) (hv : Ls H v (l.map Int.ofNat)) (h : ∀ v' H', Ls H' v' (parkS n 0 l) → Ext H H' → Q v' H') : AC Try.prog 46 [.int .i64 n, v] H Q := by
  obtain ⟨r, off, ver, sz, full, rfl, hv⟩ := hv
  simp only [List.length_map] at hv ⊢
  refine L_body 48 Try.func46 rfl rfl ?_
  refine L_reg [0, 1] (fun K hK => ?_)
  simp
  apply hK; clear hK K
  refine L_reg [0, 1, 5] (fun K hK => ?_)
  simp [alloc_z z88]
  apply hK; clear hK K
  refine L_reg [0, 1, 5, 10, 11] (fun K hK => ?_)
  simp
  apply hK; clear hK K
  refine L_block (L_loopV [11] (fun k vs H' => ∃ i : Nat, k = n - i ∧ i ≤ n ∧ vs = [.int .i64 i] ∧ Ext H H' ∧ H'[H.length]? = some (.row (freeV fun b => decide (b < i)) 0 0 false)) _ [.int .i64 (0 : Nat)] rfl ⟨0, rfl, by omega, rfl, .push _ _, by simp⟩ ?_)
  rintro k _ H1 ⟨i, rfl, hi, rfl, hE, hrow⟩
  refine L_reg [0, 1, 5, 10, 11, 12] (fun K hK => ?_)
  simp
  apply hK; clear hK K
  refine L_dec (i < n) (by simp) (fun hlt => ?_) (fun hge => L_exit ?_)
  · refine L_block ?_
    refine L_reg [0, 1, 5, 6, 10, 11] (fun K hK => ?_)
    simp
    apply hK; clear hK K
    have hst := store_row (P := Try.prog) (u := 4) (p := i) sc4 (x := .bool true) (y := .bool (decide (i < i))) rfl hrow (by rw [freeV_get _ (by omega)]; rfl)
    rw [freeV_set, Nat.zero_min] at hst
    refine L_reg [0, 1, 5, 10, 11] (fun K hK => ?_)
    simp [ixa88, show (i : Int) < 9 by omega, hst]
    apply hK; clear hK K
    refine L_reg [0, 1, 5, 10, 11] (fun K hK => ?_)
    simp [wrap_i64 (a := (i : Int) + 1) (by omega)]
    apply hK; clear hK K
    refine ⟨n - (i + 1), [.int .i64 (i + 1 : Nat)], by omega, by simp, i + 1, rfl, by omega, rfl, hE.set _ (Nat.le_refl _), ?_⟩
    rw [get_set hrow, freeV_congr]
    intro b
    by_cases hb : b = i
    · subst hb; simp
    · simp [hb]; omega
  have hin : i = n := by omega
  subst hin
  refine L_reg [0, 1, 5, 7] (fun K hK => ?_)
  simp
  apply hK; clear hK K
  refine L_reg [0, 5, 7, 17, 18, 19] (fun K hK => ?_)
  simp
  apply hK; clear hK K
  refine L_block (L_loopV [7, 19] (fun k vs H' => ∃ (j s : Nat) (u : AV) (done : List Int), k = l.length - j ∧ j ≤ l.length ∧ s < 256 ∧ done.length = j ∧ done ++ parkS i s (l.drop j) = parkS i 0 l ∧ vs = [u, .int .i64 j] ∧
    Ext H H' ∧ H'[H.length]? = some (.row (freeV (freeS i s)) 0 0 false) ∧ OwnF (H.length + 1) H' u (done.map (.int .i64))) _ [.slice none 0 0 0 1 false, .int .i64 (0 : Nat)] rfl
    ⟨0, 0, _, [], rfl, by omega, by omega, rfl, by simp, rfl, hE, by rw [hrow, freeV_congr]; intro b; simp [freeS], .nil _ _⟩ ?_)
  rintro k _ H2 ⟨j, s, u, done, rfl, hj, hs, hd, hp, rfl, hE2, hrow2, hO⟩
  clear hE hrow H1
  have hH2 : H.length < H2.length := (List.getElem?_eq_some_iff.1 hrow2).1
  refine L_reg [0, 5, 7, 17, 18, 19, 20] (fun K hK => ?_)
  simp
  apply hK; clear hK K
  refine L_dec (j < l.length) (by simp) (fun hlt => ?_) (fun hge => L_exit ?_)
  rotate_left
  ·
    refine L_reg [4] (fun K hK => ?_)
    simp
    apply hK; clear hK K
    refine L_ret ⟨.inr rfl, _, rfl, ?_⟩
    have hj' : j = l.length := by omega
    subst hj'
    simp [parkS] at hp
    subst hp
    exact h _ _ hO.own.ls hE2
  obtain ⟨r', rfl, rfl, hld⟩ := hv j hlt
  have hld' := hE2.ld hld
  simp only [List.getElem_map] at hld'
  rw [List.drop_eq_getElem_cons hlt, parkS] at hp
  have hwn := hw l[j] (List.getElem_mem hlt)
  have hnl := nextSet_lt (w := l[j]) hn hs
  generalize l[j] = w0 at *
  refine L_block ?_
  refine L_reg [0, 5, 7, 9, 17, 18, 19] (fun K hK => ?_)
  simp [hlt, hld']
  apply hK; clear hK K
  refine L_block (L_loopV [9] (fun k vs H' => ∃ w : Nat, k = i - w ∧ w ≤ i ∧ ff s (i - w) w = ff s (i - w0) w0 ∧ vs = [.int .i64 w] ∧ H2 = H') _ [.int .i64 (w0 : Nat)] rfl ⟨w0, rfl, by omega, rfl, rfl, rfl⟩ ?_)
  rintro k _ _ ⟨w, rfl, hwi, hff, rfl, rfl⟩
  by_cases hwlt : w < i
  · obtain ⟨m, hm⟩ : ∃ m, i - w = m + 1 := ⟨i - w - 1, by omega⟩
    rw [hm, ff] at hff
    have hldf : ld H2 H.length w 0 = some (.bool (freeS i s w)) := by rw [ld_row hrow2, freeV_get _ (by omega)]; rfl
    refine L_reg [0, 5, 7, 9, 17, 18, 19, 31] (fun K hK => ?_)
    simp [hwlt, ixa88, show (w : Int) < 9 by omega, hldf, pickV]
    apply hK; clear hK K
    cases ht : s.testBit w with
    | true =>
      rw [ht] at hff
      simp only [if_true] at hff
      refine L_true (by simp [freeS, ht]) ?_
      refine L_block ?_
      refine L_reg [0, 5, 7, 9, 17, 18, 19] (fun K hK => ?_)
      simp [wrap_i64 (a := (w : Int) + 1) (by omega)]
      apply hK; clear hK K
      exact ⟨i - (w + 1), [.int .i64 (w + 1 : Nat)], by omega, by simp, w + 1, rfl, by omega, by rw [← hff]; congr 1; omega, rfl, rfl⟩
    | false =>
      rw [ht] at hff
      simp only [Bool.false_eq_true, if_false] at hff
      refine L_false (by simp [freeS, ht, hwlt]) (L_exit ?_)
      rw [← hff, if_pos hwlt] at hp
      rw [nextSet, ← hff, if_pos hwlt] at hp hnl
      refine L_reg [0, 5, 7, 9, 17, 18, 19, 36] (fun K hK => ?_)
      simp
      apply hK; clear hK K
      refine L_false (by simp; omega) ?_
      have hst := store_row (P := Try.prog) (u := 4) (p := w) sc4 (x := .bool false) (y := .bool (freeS i s w)) rfl hrow2 (by rw [freeV_get _ (by omega)]; rfl)
      have hfr : (freeV fun b => if b = w then false else freeS i s b) = freeV (freeS i (s ||| 2 ^ w)) := by
        apply freeV_congr
        intro b
        by_cases hb : b = w
        · subst hb; simp [freeS]
        · have : ¬ w = b := fun e => hb e.symm
          simp [freeS, hb, this]
      rw [freeV_set, Nat.zero_min, hfr] at hst
      have hrow3 := get_set (o' := AObj.row (freeV (freeS i (s ||| 2 ^ w))) 0 0 false) hrow2
      have hE3 := hE2.set (AObj.row (freeV (freeS i (s ||| 2 ^ w))) 0 0 false) (Nat.le_refl H.length)
      have hO3 : OwnF (H.length + 1) (H2.set H.length (AObj.row (freeV (freeS i (s ||| 2 ^ w))) 0 0 false)) u (done.map (.int .i64)) := by
        rcases hO with h1 | ⟨r, ver, st, h1, h2, h3⟩
        · exact .inl h1
        · exact .inr ⟨r, ver, st, h1, h2, by rw [List.getElem?_set_ne (by omega)]; exact h3⟩
      refine L_reg [0, 5, 7, 9, 17, 18, 19] (fun K hK => ?_)
      simp [ixa88, show (w : Int) < 9 by omega, hst]
      apply hK; clear hK K
      revert hrow3 hE3 hO3
      generalize H2.set H.length _ = H3
      intro hrow3 hE3 hO3
      have hH3 : H.length < H3.length := (List.getElem?_eq_some_iff.1 hrow3).1
      obtain ⟨ur, uv, hu⟩ := hO3.len
      obtain ⟨v', H', he, hO', hN', hrest⟩ := ownF_append' (show H.length + 1 ≤ H3.length by omega) el22 el22 (x := .int .i64 (w : Int)) (m := 1) hO3 rfl (by simp; omega)
      refine L_reg [0, 5, 7, 17, 18, 19] (fun K hK => ?_)
      simp [he]
      apply hK; clear hK K
      refine L_reg [0, 5, 7, 17, 18, 19] (fun K hK => ?_)
      simp [wrap_i64 (a := (j : Int) + 1) (by omega)]
      apply hK; clear hK K
      refine ⟨l.length - (j + 1), [v', .int .i64 (j + 1 : Nat)], by omega, by simp, j + 1, s ||| 2 ^ w, v', done ++ [(w : Int)], rfl, by omega, hnl, by simp [hd], by simpa using hp, rfl, ⟨by omega, fun k hk => by rw [hrest k (by omega), hE3.2 k hk]⟩, ?_, by simpa using hO'⟩
      rw [hrest _ (by omega), hrow3]
  · have hwe : w = i := by omega
    subst hwe
    rw [Nat.sub_self, ff] at hff
    rw [← hff, if_neg (by omega)] at hp
    rw [nextSet, ← hff, if_neg (by omega)] at hp hnl
    refine L_reg [0, 5, 7, 9, 17, 18, 19, 31] (fun K hK => ?_)
    simp [pickV]
    apply hK; clear hK K
    refine L_false (by simp) (L_exit ?_)
    refine L_reg [0, 5, 7, 9, 17, 18, 19, 36] (fun K hK => ?_)
    simp
    apply hK; clear hK K
    refine L_true (by simp) ?_
    obtain ⟨ur, uv, hu⟩ := hO.len
    obtain ⟨v', H', he, hO', hN', hrest⟩ := ownF_append' (show H.length + 1 ≤ H2.length by omega) el22 el22 (x := .int .i64 (-1)) (m := 1) hO rfl (by simp; omega)
    refine L_reg [0, 5, 7, 17, 18, 19] (fun K hK => ?_)
    simp [he]
    apply hK; clear hK K
    refine L_exit ?_
    refine L_reg [0, 5, 7, 17, 18, 19] (fun K hK => ?_)
    simp [wrap_i64 (a := (j : Int) + 1) (by omega)]
    apply hK; clear hK K
    refine ⟨l.length - (j + 1), [v', .int .i64 (j + 1 : Nat)], by omega, by simp, j + 1, s, v', done ++ [(-1 : Int)], rfl, by omega, hnl, by simp [hd], by simpa using hp, rfl, ⟨by omega, fun k hk => by rw [hrest k (by omega), hE2.2 k hk]⟩, ?_, by simpa using hO'⟩
    rw [hrest _ (by omega), hrow2]
end Go.Proofs.Ytojblooaiojmcaa
