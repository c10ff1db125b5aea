/- A plain reading of runs: what the operations that write or make memory do. -/
import Derived.Test.YtjfmiohgkcjdnaaAxF
import Derived.Deep.DeepAppendWide
import Derived.Laws.MakeOwn
namespace Go.Proofs.Ytjfmiohgkcjdnaa.AX
open Go Go.RowKit
section
variable {P : Program} {base : Nat} {w0 w : World} {σ : Inj} {H : AH}

def NextOk (σ : Inj) : Option AV → Next → Prop
  | some v, .value c => RelV σ v c
  | none, .skip => True
  | _, _ => False

theorem byteCells_rel (s : ByteArray) : RelVs σ (s.data.toList.map fun b => AV.int .u8 b.toNat) (byteCells s) := by
  unfold byteCells
  generalize s.data.toList = l
  induction l with
  | nil => exact .nil
  | cons b l ih => exact .cons (.int _ _) ih

theorem aSrc_sound (S : Sim base w0 σ H w) {tx : TypeId} {size : Nat} {x : AV} {a : Value} {n : Nat} {vs : List AV} (h : aSrc P H tx size x = some (n, vs)) (hx : RelV σ x a) (h1 : vs.all AV.one = true) (hl : vs.length = n * size) :
    ∃ news, Src P size tx a n news w ∧ RelVs σ vs news := by
  have hone : ∀ v ∈ vs, v.one = true := by simpa using h1
  unfold aSrc at h
  split at h
  case h_5 => cases h
  case h_3 e r off len ver sz hu =>
    cases hx with
    | clip hf hv hc ho =>
      rename_i b o m sp d
      split at h
      · rename_i hcond
        obtain ⟨rfl, hpos⟩ := hcond
        obtain ⟨vs', h2, h3⟩ := Option.map_eq_some_iff.1 h
        cases h3
        obtain ⟨ho1, ho2, rfl⟩ := ho (by omega)
        obtain ⟨cs, g1, g2, g3⟩ := S.ldn h2 hf ho1 hc
        exact ⟨cs, Src.ofSlice w hu ⟨b, o, none⟩ _ _ cs g2 (fun j u hj => by rw [add_plain]; exact g1 j u hj) (g3.one hone), g3⟩
      · split at h
        · rename_i h0
          subst h0
          cases h
          exact ⟨[], Src.ofSlice w hu ⟨b, o, sp⟩ 0 _ [] (by simp) (fun j u hj => by simp at hj) (by simp), .nil⟩
        · cases h
  case h_1 e off ver sz full hu =>
    cases h
    cases hx
    exact ⟨[], Src.ofNil w hu 0, .nil⟩
  case h_2 e r off len ver sz full hu =>
    cases hx with
    | slice hf hv hc hlc ho hfl hfin =>
      rename_i b o m cap sp d
      split at h
      · rename_i hcond
        obtain ⟨rfl, hpos⟩ := hcond
        obtain ⟨vs', h2, h3⟩ := Option.map_eq_some_iff.1 h
        cases h3
        obtain ⟨ho1, ho2, rfl⟩ := ho (by omega)
        obtain ⟨cs, g1, g2, g3⟩ := S.ldn h2 hf ho1 hc
        exact ⟨cs, Src.ofSlice w hu ⟨b, o, none⟩ _ cap cs g2 (fun j u hj => by rw [add_plain]; exact g1 j u hj) (g3.one hone), g3⟩
      · split at h
        · rename_i h0
          subst h0
          cases h
          exact ⟨[], Src.ofSlice w hu ⟨b, o, sp⟩ 0 cap [] (by simp) (fun j u hj => by simp at hj) (by simp), .nil⟩
        · cases h
  case h_4 s hu =>
    split at h
    case isFalse => cases h
    rename_i hs
    subst hs
    cases h
    cases hx with | str s => ?_
    exact ⟨byteCells s, Src.ofString w hu s, byteCells_rel s⟩

theorem zeroCells_size (zero : Array Value) (n : Nat) : (Builtin.zeroCells zero n).size = n * zero.size := by
  simp [Builtin.zeroCells]

theorem aAppend_clip (S : Sim base w0 σ H w) {t tx ty e : TypeId} {i : TypeInfo} {z : Value} {I : TI} {v : AV} {a b : Value} {H' : AH} {n r off len ver sz : Nat} {vs : List AV} {news : List Value} (hu : P.underlying t = some (.slice e))
    (hi : P.info? e = some i) (hz : i.zero = some z) (hsz : i.size = I.size) (hby : i.bytes = I.bytes) (hzs : z.cells.size = I.size) (_hpos : 0 < I.size) (hbytes : I.bytes ≤ 4096)
    (hS : Src P I.size tx b n news w) (hS' : Src P i.size tx b n news w) (hnews : RelVs σ vs news) (hvs : vs.all AV.one = true ∧ vs.length = n * I.size)
    (h : (if n = 0 then some (.clip r off len ver sz, H) else
            if sz = I.size ∧ len + n ≤ 16777216 then
              (ldn H r ver (len * sz) off).map fun olds => (.slice (some H.length) 0 (len + n) 0 sz false, H ++ [.row (olds ++ vs) 0 0 false])
            else none) = some (v, H')) (hs : RelV σ (.clip r off len ver sz) a) :
    ∃ c w' σ', (Builtin.append_ #[t, tx] ty #[a, b]).run P w = .ok c w' ∧ σ.le σ' ∧ Sim base w0 σ' H' w' ∧ RelV σ' v c := by
  have hnl := hnews.length
  cases hs with
  | clip hf hv hc ho =>
  rename_i bb o m sp d
  split at h
  · rename_i hn
    subst hn
    cases h
    refine ⟨.slice (some ⟨bb, o, sp⟩) len len, w, σ, ?_, .refl σ, S, .clip hf hv hc ho⟩
    have hnil : news = [] := by
      have : vs.length = 0 := by rw [hvs.2]; simp
      exact List.eq_nil_of_length_eq_zero (by omega)
    subst hnil
    have hst : ∀ a : Addr, (storeCells a [] 0).run P w = .ok () w := fun _ => rfl
    rcases hS.kind with ⟨e', hk⟩ | hk <;> simp [Builtin.append_, run_underlying hu, run_underlying hk, sizeOf, typeInfo, hi, hS.len, hS'.cells, hst]
  · rename_i hn
    split at h
    case isFalse => cases h
    rename_i hcond
    obtain ⟨rfl, hnb⟩ := hcond
    have hge := grownCap_ge w (len + n) len e
    have hcsz : ∀ olds : List Value, olds.length = len * I.size → ((olds ++ news).toArray ++ Builtin.zeroCells z.cells (grownCap w (len + n) len e - (len + n))).size = grownCap w (len + n) len e * I.size := by
      intro olds hol
      have : ((olds ++ news).toArray ++ Builtin.zeroCells z.cells (grownCap w (len + n) len e - (len + n))).size = (len + n) * I.size + (grownCap w (len + n) len e - (len + n)) * I.size := by
        simp [zeroCells_size, hzs, hol, Nat.add_mul]; omega
      rw [this, ← Nat.add_mul]; congr 1; omega
    obtain ⟨ovs, h2, h3⟩ := Option.map_eq_some_iff.1 h
    cases h3
    have holds : ∃ olds : List Value, olds.length = len * I.size ∧ (len ≠ 0 → w.rangeAt bb o olds) ∧ RelVs σ ovs olds := by
      by_cases hcap : len = 0
      · subst hcap
        simp [ldn] at h2
        subst h2
        exact ⟨[], by simp, fun h => absurd rfl h, .nil⟩
      · obtain ⟨ho1, _, _⟩ := ho hcap
        obtain ⟨olds, g1, g2, g3⟩ := S.ldn h2 hf ho1 hc
        exact ⟨olds, g2, fun _ => g1, g3⟩
    obtain ⟨olds, hol, hor, horel⟩ := holds
    have hfit : Builtin.nextslicecap (len + n) len * i.bytes ≤ 281474976710656 := by
      rw [hby]
      have h1 := nextslicecap_le_wide (need := len + n) (old := len) (by omega)
      have h2 : Builtin.nextslicecap (len + n) len * I.bytes ≤ 20971712 * 4096 := Nat.mul_le_mul (by omega) hbytes
      omega
    have hrun := run_append_grow_src (P := P) w t tx ty e i z hu hi hz (some ⟨bb, o, sp⟩) len len olds (by
      by_cases hcap : len = 0
      · subst hcap
        have : olds = [] := List.eq_nil_of_length_eq_zero (by simpa using hol)
        subst this
        exact run_firstCells_some w.drew i.size 0 _ 0 0 [] (by simp) (fun j u hj => by simp at hj)
      · obtain ⟨_, _, rfl⟩ := ho hcap
        exact run_firstCells_some w.drew i.size len _ len len olds (by rw [hsz]; exact hol) (fun j u hj => by rw [add_plain]; exact hor hcap j u hj)) b n news hS' (by omega) (by push_cast; omega) hfit
    have hrel := horel.append hnews
    have halloc := S.drew.alloc (cells := ovs ++ vs) (C := ((olds ++ news).toArray ++ Builtin.zeroCells z.cells (grownCap w (len + n) len e - (len + n)))) e 0 (fun p v hp _ => by
      obtain ⟨c, h3, h4⟩ := hrel.get hp
      refine ⟨c, ?_, h4⟩
      have hlt : p < (olds ++ news).length := by
        rcases Nat.lt_or_ge p (olds ++ news).length with h5 | h5
        · exact h5
        · rw [List.getElem?_eq_none h5] at h3; cases h3
      rw [Array.getElem?_append_left (by simpa using hlt)]
      simpa using h3)
    refine ⟨_, _, _, hrun, S.drew.le_new _ _, halloc, ?_⟩
    refine .slice (b := w.heap.size) (n := ((olds ++ news).toArray ++ Builtin.zeroCells z.cells (grownCap w (len + n) len e - (len + n))).size) (d := 0) ?_ ?_ ?_ ?_ ?_ ?_ ?_
    · simp [Inj.new]
    · simp [Inj.new]
    · intro _; simp [Inj.new]
    · omega
    · intro _
      refine ⟨rfl, ?_, rfl⟩
      rw [hcsz olds hol]; omega
    · intro h; cases h
    · intro _
      simp only [Inj.new, if_true, List.length_append]
      rw [hvs.2, horel.length, hol, Nat.zero_add, ← Nat.add_mul]
      exact Nat.mul_le_mul_right _ (by omega)

theorem aAppend_sound (S : Sim base w0 σ H w) {t tx ty : TypeId} {s x v : AV} {a b : Value} {H' : AH} (h : aAppend P H t tx s x = some (v, H')) (hs : RelV σ s a) (hx : RelV σ x b) :
    ∃ c w' σ', (Builtin.append_ #[t, tx] ty #[a, b]).run P w = .ok c w' ∧ σ.le σ' ∧ Sim base w0 σ' H' w' ∧ RelV σ' v c := by
  unfold aAppend at h
  split at h
  case h_2 => cases h
  rename_i e hu
  split at h
  case h_2 => cases h
  rename_i I hI
  obtain ⟨hue, i, z, hi, hz, hsz, hby, hzs, hzero⟩ := tiOf_some hI
  split at h
  case isFalse => cases h
  rename_i hcond
  obtain ⟨hpos, hbytes⟩ := hcond
  obtain ⟨⟨n, vs⟩, hsrc, h⟩ := Option.bind_eq_some_iff.1 h
  simp only [] at h
  split at h
  case isFalse => cases h
  rename_i hvs
  simp only [Bool.and_eq_true, beq_iff_eq] at hvs
  obtain ⟨news, hS, hnews⟩ := aSrc_sound S hsrc hx hvs.1 hvs.2
  have hnl := hnews.length
  have hS' : Src P i.size tx b n news w := by rw [hsz]; exact hS
  split at h
  case h_4 => cases h
  case h_3 r off len ver sz h => exact aAppend_clip S hu hi hz hsz hby hzs hpos hbytes hS hS' hnews hvs h hs
  case h_1 off ver sz full h =>
    cases hs
    split at h
    · rename_i hn
      subst hn
      cases h
      refine ⟨.slice none 0 0, w, σ, ?_, .refl σ, S, .nilslice⟩
      have hnil : news = [] := by
        have : vs.length = 0 := by rw [hvs.2]; simp
        exact List.eq_nil_of_length_eq_zero (by omega)
      subst hnil
      rcases hS.kind with ⟨e', hk⟩ | hk <;> simp [Builtin.append_, run_underlying hu, run_underlying hk, sizeOf, typeInfo, hi, hS.len, hS'.cells]
    · rename_i hn
      split at h
      case isFalse => cases h
      rename_i hnb
      cases h
      have hfit : Builtin.nextslicecap (0 + n) 0 * i.bytes ≤ 281474976710656 := by
        rw [hby]
        have h1 := nextslicecap_le_wide (need := 0 + n) (old := 0) (by omega)
        have h2 : Builtin.nextslicecap (0 + n) 0 * I.bytes ≤ 20971712 * 4096 := Nat.mul_le_mul (by omega) hbytes
        omega
      have hrun := run_append_grow_src (P := P) w t tx ty e i z hu hi hz none 0 0 [] (run_firstCells_none _ _ _ _ _) b n news hS' (by omega) (by push_cast; omega) hfit
      simp only [Nat.zero_add] at hrun
      have hge := grownCap_ge w n 0 e
      have halloc := S.drew.alloc (cells := vs) (C := (([] ++ news).toArray ++ Builtin.zeroCells z.cells (grownCap w n 0 e - n))) e 0 (fun p v hp _ => by
        obtain ⟨c, h3, h4⟩ := hnews.get hp
        refine ⟨c, ?_, h4⟩
        have hlt : p < news.length := by
          rcases Nat.lt_or_ge p news.length with h5 | h5
          · exact h5
          · rw [List.getElem?_eq_none h5] at h3; cases h3
        rw [Array.getElem?_append_left (by simpa using hlt)]
        simpa using h3)
      refine ⟨_, _, _, hrun, S.drew.le_new _ _, halloc, ?_⟩
      refine .slice (b := w.heap.size) (n := ((([] ++ news).toArray ++ Builtin.zeroCells z.cells (grownCap w n 0 e - n))).size) (d := 0) ?_ ?_ ?_ ?_ ?_ ?_ ?_
      rotate_right
      · intro _
        simp only [Inj.new, if_true]
        rw [hvs.2, Nat.zero_add]
        exact Nat.mul_le_mul_right _ (by omega)
      · simp [Inj.new]
      · simp [Inj.new]
      · intro _; simp [Inj.new]
      · omega
      · intro _
        refine ⟨rfl, ?_, rfl⟩
        have h1 : (([] ++ news).toArray ++ Builtin.zeroCells z.cells (grownCap w n 0 e - n)).size = n * I.size + (grownCap w n 0 e - n) * I.size := by
          simp [zeroCells_size, hzs]; omega
        rw [h1, ← Nat.add_mul, Nat.zero_add]
        exact Nat.mul_le_mul_right _ (by omega)
      · intro h; cases h
  case h_2 r off len ver sz full h =>
    cases hs with
    | slice hf hv hc hlc ho hfl hfin =>
    rename_i bb o m cap sp d
    split at h
    · rename_i hn
      subst hn
      cases h
      refine ⟨.slice (some ⟨bb, o, sp⟩) len cap, w, σ, ?_, .refl σ, S, .slice hf hv hc hlc ho hfl hfin⟩
      have hnil : news = [] := by
        have : vs.length = 0 := by rw [hvs.2]; simp
        exact List.eq_nil_of_length_eq_zero (by omega)
      subst hnil
      have hst : ∀ a : Addr, (storeCells a [] 0).run P w = .ok () w := fun _ => rfl
      rcases hS.kind with ⟨e', hk⟩ | hk <;> simp [Builtin.append_, run_underlying hu, run_underlying hk, sizeOf, typeInfo, hi, hS.len, hS'.cells, hlc, hst]
    · rename_i hn
      split at h
      case isFalse => cases h
      rename_i hcond
      obtain ⟨rfl, hnb⟩ := hcond
      have hgrow : cap < len + n → ∀ (olds : List Value), olds.length = len * I.size → (cap ≠ 0 → w.rangeAt bb o olds) →
          (Builtin.append_ #[t, tx] ty #[.slice (some ⟨bb, o, sp⟩) len cap, b]).run P w = .ok (.slice (some ⟨w.heap.size, 0, none⟩) (len + n) (grownCap w (len + n) cap e))
            (w.drew.alloc (.cells ((olds ++ news).toArray ++ Builtin.zeroCells z.cells (grownCap w (len + n) cap e - (len + n))) e)) := by
        intro hlt olds hol hr
        have hfit : Builtin.nextslicecap (len + n) cap * i.bytes ≤ 281474976710656 := by
          rw [hby]
          have h1 := nextslicecap_le_wide (need := len + n) (old := cap) hlt
          have h2 : Builtin.nextslicecap (len + n) cap * I.bytes ≤ 20971712 * 4096 := Nat.mul_le_mul (by omega) hbytes
          omega
        refine run_append_grow_src (P := P) w t tx ty e i z hu hi hz _ len cap olds ?_ b n news hS' hlt (by push_cast; omega) hfit
        by_cases hcap : cap = 0
        · have hl0 : len = 0 := by omega
          subst hl0
          have : olds = [] := List.eq_nil_of_length_eq_zero (by simpa using hol)
          subst this
          exact run_firstCells_some w.drew i.size 0 _ 0 cap [] (by simp) (fun j u hj => by simp at hj)
        · obtain ⟨_, _, rfl⟩ := ho hcap
          exact run_firstCells_some w.drew i.size len _ len cap olds (by rw [hsz]; exact hol) (fun j u hj => by rw [add_plain]; exact hr hcap j u hj)
      have hge := grownCap_ge w (len + n) cap e
      have hcsz : ∀ olds : List Value, olds.length = len * I.size → ((olds ++ news).toArray ++ Builtin.zeroCells z.cells (grownCap w (len + n) cap e - (len + n))).size = grownCap w (len + n) cap e * I.size := by
        intro olds hol
        have : ((olds ++ news).toArray ++ Builtin.zeroCells z.cells (grownCap w (len + n) cap e - (len + n))).size = (len + n) * I.size + (grownCap w (len + n) cap e - (len + n)) * I.size := by
          simp [zeroCells_size, hzs, hol, Nat.add_mul]; omega
        rw [this, ← Nat.add_mul]; congr 1; omega
      split at h
      · rename_i hfull
        have hcl := hfl hfull
        obtain ⟨ovs, h2, h3⟩ := Option.map_eq_some_iff.1 h
        cases h3
        have holds : ∃ olds : List Value, olds.length = len * I.size ∧ (cap ≠ 0 → w.rangeAt bb o olds) ∧ RelVs σ ovs olds := by
          by_cases hcap : cap = 0
          · have hl0 : len = 0 := by omega
            subst hl0
            simp [ldn] at h2
            subst h2
            exact ⟨[], by simp, fun h => absurd hcap h, .nil⟩
          · obtain ⟨ho1, _, _⟩ := ho hcap
            obtain ⟨olds, g1, g2, g3⟩ := S.ldn h2 hf ho1 hc
            exact ⟨olds, g2, fun _ => g1, g3⟩
        obtain ⟨olds, hol, hor, horel⟩ := holds
        have hrun := hgrow (by omega) olds hol hor
        have hrel := horel.append hnews
        have halloc := S.drew.alloc (cells := ovs ++ vs) (C := ((olds ++ news).toArray ++ Builtin.zeroCells z.cells (grownCap w (len + n) cap e - (len + n)))) e 0 (fun p v hp _ => by
          obtain ⟨c, h3, h4⟩ := hrel.get hp
          refine ⟨c, ?_, h4⟩
          have hlt : p < (olds ++ news).length := by
            rcases Nat.lt_or_ge p (olds ++ news).length with h5 | h5
            · exact h5
            · rw [List.getElem?_eq_none h5] at h3; cases h3
          rw [Array.getElem?_append_left (by simpa using hlt)]
          simpa using h3)
        refine ⟨_, _, _, hrun, S.drew.le_new _ _, halloc, ?_⟩
        refine .slice (b := w.heap.size) (n := ((olds ++ news).toArray ++ Builtin.zeroCells z.cells (grownCap w (len + n) cap e - (len + n))).size) (d := 0) ?_ ?_ ?_ ?_ ?_ ?_ ?_
        rotate_right
        · intro _
          simp only [Inj.new, if_true, List.length_append]
          rw [hvs.2, horel.length, hol, Nat.zero_add, ← Nat.add_mul]
          exact Nat.mul_le_mul_right _ (by omega)
        · simp [Inj.new]
        · simp [Inj.new]
        · intro _; simp [Inj.new]
        · omega
        · intro _
          refine ⟨rfl, ?_, rfl⟩
          rw [hcsz olds hol]; omega
        · intro h; cases h
      · split at h
        · rename_i H1 hin
          cases h
          unfold inPlace at hin
          split at hin
          case h_2 => cases hin
          rename_i cells v0 s0 hr
          split at hin
          case isFalse => cases hin
          rename_i hcnd
          obtain ⟨hv0, hle⟩ := hcnd
          have R := S.rows _ _ _ _ _ hr
          have hfq := hfin (by rw [R.ver]; exact hv0.symm)
          rw [R.fin] at hfq
          simp only [Bool.false_eq_true, if_false] at hfq
          have hroom : len + n ≤ cap := by
            have : (len + n) * I.size ≤ cap * I.size := by omega
            exact Nat.le_of_mul_le_mul_right this hpos
          have hcap : cap ≠ 0 := by omega
          obtain ⟨ho1, ho2, rfl⟩ := ho hcap
          obtain ⟨g1, g2, g3⟩ := S.stn (b := bb) (o := o + len * I.size) hin hnews hf (by push_cast; omega) hc
          have hrun := run_append_room_src (P := P) w t tx ty e i hu hi bb o len cap b n news hS' hroom (fun j hj => by rw [hsz]; exact (g1 j hj).1) (fun j hj => by rw [hsz]; exact (g1 j hj).2)
          rw [hsz] at hrun
          exact ⟨_, _, σ, hrun, .refl σ, g3, .slice hf hv hc hroom (fun _ => ⟨ho1, ho2, rfl⟩) (fun h => by cases h) hfin⟩
        obtain ⟨⟨H1, v'⟩, h2, h3⟩ := Option.map_eq_some_iff.1 h
        cases h3
        by_cases hroom : len + n ≤ cap
        · have hcap : cap ≠ 0 := by omega
          obtain ⟨ho1, ho2, rfl⟩ := ho hcap
          have hmul : (len + n) * I.size ≤ cap * I.size := Nat.mul_le_mul_right _ hroom
          rw [Nat.add_mul] at hmul
          obtain ⟨g1, g2, g3⟩ := S.grow_in h2 hf ho1 hc hnews (by omega)
          have hrun := run_append_room_src (P := P) w t tx ty e i hu hi bb o len cap b n news hS' hroom (fun j hj => by rw [hsz]; exact (g1 j hj).1) (fun j hj => by rw [hsz]; exact (g1 j hj).2)
          rw [hsz] at hrun
          refine ⟨_, _, _, hrun, g2, g3, ?_⟩
          refine .slice (b := bb) (n := m) (d := d) ?_ ?_ ?_ hroom (fun _ => ⟨ho1, ho2, rfl⟩) (fun h => by cases h) (fun _ => by
            simp only [Inj.new, if_true]
            rw [hvs.2]
            rw [← Nat.add_mul] at hmul ⊢
            omega)
          · simp [Inj.new]
          · simp [Inj.new]
          · intro _; simp [Inj.new]
        · obtain ⟨olds, g1, g2, g3⟩ := S.grow_out h2 hf (o := o) (fun hne => by
            have hcap : cap ≠ 0 := by
              intro h0
              have : len = 0 := by omega
              subst this
              simp at hne
            obtain ⟨ho1, ho2, _⟩ := ho hcap
            have : len * I.size ≤ cap * I.size := Nat.mul_le_mul_right _ hlc
            exact ⟨ho1, by omega⟩) hc hnews
          have hrun := hgrow (by omega) olds g1 (fun _ => g2)
          obtain ⟨g4, g5⟩ := g3 (Builtin.zeroCells z.cells (grownCap w (len + n) cap e - (len + n))).toList e ((olds ++ news).toArray ++ Builtin.zeroCells z.cells (grownCap w (len + n) cap e - (len + n))) (by simp)
          refine ⟨_, _, _, hrun, g4, g5, ?_⟩
          refine .slice (b := w.heap.size) (n := ((olds ++ news).toArray ++ Builtin.zeroCells z.cells (grownCap w (len + n) cap e - (len + n))).size) (d := -(off : Int)) ?_ ?_ ?_ ?_ ?_ ?_ ?_
          rotate_right
          · intro _
            simp only [Inj.new, if_true]
            rw [hvs.2, ← Nat.add_mul]
            have := Nat.mul_le_mul_right I.size hge
            omega
          · simp [Inj.new]
          · simp [Inj.new]
          · intro _; simp [Inj.new]
          · omega
          · intro _
            refine ⟨by omega, ?_, rfl⟩
            rw [hcsz olds g1]; omega
          · intro h; cases h

theorem fold_length (off : Nat) : ∀ (l : List (AV × Nat)) (cells : List AV), (l.foldl (fun cs (x : AV × Nat) => cs.set (off + x.2) x.1) cells).length = cells.length
  | [], _ => rfl
  | x :: l, cells => by rw [List.foldl_cons, fold_length off l]; simp
theorem aFill_length {place : Nat → Option (Nat × Nat)} : ∀ {parts : List (Nat × AV)} {cells cells' : List AV}, aFill place cells parts = some cells' → cells'.length = cells.length
  | [], _, _, h => by simp [aFill] at h; subst h; rfl
  | (i, v) :: l, cells, cells', h => by
    simp only [aFill] at h
    split at h
    · cases h
    · split at h
      · cases h
      · rw [aFill_length h, fold_length]

theorem zeroList_rel {k : Nat} (z : Value) (n : Nat) (h : z.cells.size = k) (hk : n = 0 ∨ 0 < k) :
    RelVs σ ((List.range n).map fun i => ((z.cells.toList.map (absV 2))[i % (z.cells.toList.map (absV 2)).length]?).getD .undef) ((Array.range n).map (z.cells[· % z.cells.size]!)).toList := by
  rw [Array.toList_map, Array.toList_range]
  have : ∀ l : List Nat, (∀ i ∈ l, 0 < z.cells.size) → RelVs σ (l.map fun i => ((z.cells.toList.map (absV 2))[i % (z.cells.toList.map (absV 2)).length]?).getD .undef) (l.map fun i => z.cells[i % z.cells.size]!) := by
    intro l
    induction l with
    | nil => intro _; exact .nil
    | cons i l ih =>
      intro hl
      have hpos := hl i (by simp)
      refine .cons ?_ (ih fun j hj => hl j (by simp [hj]))
      have hlt : i % z.cells.size < z.cells.size := Nat.mod_lt _ hpos
      simp [hlt, relV_absV]
  refine this _ (fun i hi => ?_)
  rcases hk with h1 | h1
  · subst h1; simp at hi
  · omega

theorem slParts_some {v : AV} {c : Value} {r off len ver sz : Nat} (h : slParts v = some (r, off, len, ver, sz)) (hr : RelV σ v c) : ∃ b o sp cap n d, c = .slice (some ⟨b, o, sp⟩) len cap ∧ σ.fam b = some (r, d, n) ∧ (ver = σ.ver r → b = σ.canon r) ∧
    (len ≠ 0 → (o : Int) = d + off ∧ o + len * sz ≤ n ∧ sp = none) := by
  unfold slParts at h
  split at h
  case h_3 => cases h
  case h_1 =>
    cases h
    cases hr with
    | slice hf hv hc hl ho hfl hfin =>
      rename_i b o n cap sp d
      refine ⟨b, o, sp, cap, n, d, rfl, hf, hc, fun hne => ?_⟩
      obtain ⟨g1, g2, g3⟩ := ho (by omega)
      have : len * sz ≤ cap * sz := Nat.mul_le_mul_right _ hl
      exact ⟨g1, by omega, g3⟩
  case h_2 =>
    cases h
    cases hr with
    | clip hf hv hc ho =>
      rename_i b o n sp d
      exact ⟨b, o, sp, _, n, d, rfl, hf, hc, ho⟩
theorem isNilSl_some {v : AV} {c : Value} (h : isNilSl v = true) (hr : RelV σ v c) : c = .slice none 0 0 := by
  unfold isNilSl at h
  split at h
  · cases hr; rfl
  · cases h

theorem aCopy_sound (S : Sim base w0 σ H w) {t : TypeId} {d s v : AV} {a b : Value} {H' : AH} {ts : Array TypeId} {ty : TypeId} {as : Array Value} (h : aCopy P H t d s = some (v, H')) (hd : RelV σ d a) (hs : RelV σ s b) (ht : ts[0]? = some t) (ha : as[0]? = some a) (hb : as[1]? = some b) :
    ∃ c w', (Builtin.copy_ ts ty as).run P w = .ok c w' ∧ Sim base w0 σ H' w' ∧ RelV σ v c := by
  unfold aCopy at h
  split at h
  case h_2 => cases h
  rename_i e hu
  split at h
  case h_2 => cases h
  rename_i ie hie
  have hst : ∀ a : Addr, (storeCells a [] 0).run P w = .ok () w := fun _ => rfl
  split at h
  · rename_i hc
    simp only [Bool.and_eq_true, Bool.or_eq_true] at hc
    cases h
    have ea := isNilSl_some hc.1 hd
    subst ea
    refine ⟨goInt 0, w, ?_, S, .int _ _⟩
    rcases hc.2 with h1 | h1
    · have eb := isNilSl_some h1 hs
      subst eb
      simp [Builtin.copy_, ht, ha, hb, run_underlying hu, Builtin.lenOf, Builtin.firstCells, sizeOf, typeInfo, hie]
    · obtain ⟨⟨r, off, len, ver, sz⟩, h2⟩ := Option.isSome_iff_exists.1 h1
      obtain ⟨bb, o, sp, cap, n, dd, rfl, hf, hcn, ho⟩ := slParts_some h2 hs
      have := run_firstCells_some (P := P) w ie.size 0 ⟨bb, o, sp⟩ len cap [] (by simp) (fun j u hj => by simp at hj)
      simp [Builtin.copy_, ht, ha, hb, run_underlying hu, Builtin.lenOf, sizeOf, typeInfo, hie, this]
  · split at h
    · rename_i hc
      simp only [Bool.and_eq_true] at hc
      cases h
      have eb := isNilSl_some hc.1 hs
      subst eb
      obtain ⟨⟨r, off, len, ver, sz⟩, h2⟩ := Option.isSome_iff_exists.1 hc.2
      obtain ⟨bb, o, sp, cap, n, dd, rfl, hf, hcn, ho⟩ := slParts_some h2 hd
      refine ⟨goInt 0, w, ?_, S, .int _ _⟩
      simp [Builtin.copy_, ht, ha, hb, run_underlying hu, Builtin.lenOf, Builtin.firstCells, sizeOf, typeInfo, hie, hst]
    · split at h
      case h_2 => cases h
      rename_i r off len ver sz r2 off2 len2 ver2 sz2 hpd hps
      obtain ⟨bb, o, sp, cap, n, dd, rfl, hf, hcn, ho⟩ := slParts_some hpd hd
      obtain ⟨bb2, o2, sp2, cap2, n2, dd2, rfl, hf2, hcn2, ho2⟩ := slParts_some hps hs
      split at h
      · rename_i h0
        cases h
        refine ⟨goInt 0, w, ?_, S, .int _ _⟩
        have h0' : Nat.min len2 len = 0 := h0
        have := run_firstCells_some (P := P) w ie.size 0 ⟨bb2, o2, sp2⟩ len2 cap2 [] (by simp) (fun j u hj => by simp at hj)
        simp [Builtin.copy_, ht, ha, hb, run_underlying hu, Builtin.lenOf, sizeOf, typeInfo, hie, this, h0', hst]
      · rename_i h0
        split at h
        case isFalse => cases h
        rename_i hc
        obtain ⟨rfl, e2⟩ := hc
        subst e2
        obtain ⟨vs, h1, h2⟩ := Option.bind_eq_some_iff.1 h
        split at h2
        case isFalse => cases h2
        rename_i hone
        obtain ⟨H1, h3, h4⟩ := Option.map_eq_some_iff.1 h2
        cases h4
        obtain ⟨p1, p2, rfl⟩ := ho (by omega)
        obtain ⟨q1, q2, rfl⟩ := ho2 (by omega)
        obtain ⟨cs, g1, g2, g3⟩ := S.ldn h1 hf2 q1 hcn2
        obtain ⟨k1, k2, k3⟩ := S.stn h3 g3 hf p1 hcn
        have hld := run_firstCells_some (P := P) w ie.size (Nat.min len2 len) ⟨bb2, o2, none⟩ len2 cap2 cs g2 (fun j u hj => by rw [add_plain]; exact g1 j u hj)
        have hstc := run_storeCells_cells (P := P) bb o cs 0 w (fun j hj => (k1 j hj).1) (fun j hj => (k1 j hj).2) k2
        simp only [Nat.add_zero] at hstc
        refine ⟨goInt (Nat.min len2 len : Nat), w.setCells bb o cs, ?_, k3, .int _ _⟩
        simp [Builtin.copy_, ht, ha, hb, run_underlying hu, Builtin.lenOf, sizeOf, typeInfo, hie, hld, hstc]

theorem aClear_sound (S : Sim base w0 σ H w) {t : TypeId} {x : AV} {a : Value} {H' : AH} {ts : Array TypeId} {ty : TypeId} {as : Array Value} (h : aClear P H t x = some H') (hx : RelV σ x a) (ht : ts[0]? = some t) (ha : as[0]? = some a) :
    ∃ w', (Builtin.clear_ ts ty as).run P w = .ok (.tuple #[]) w' ∧ Sim base w0 σ H' w' := by
  unfold aClear at h
  split at h
  case h_2 => cases h
  rename_i e hu
  split at h
  case h_2 => cases h
  rename_i I hI
  obtain ⟨hue, i, z, hi, hz, hsz, hby, hzs, hzero⟩ := tiOf_some hI
  split at h
  · rename_i hn
    cases h
    have ea := isNilSl_some hn hx
    subst ea
    exact ⟨w, by simp [Builtin.clear_, ht, ha, run_underlying hu], S⟩
  · split at h
    case h_2 => cases h
    rename_i r off len ver sz hp
    obtain ⟨b, o, sp, cap, n, d, rfl, hf, hc, ho⟩ := slParts_some hp hx
    split at h
    · rename_i h0
      subst h0
      cases h
      exact ⟨w, by simp [Builtin.clear_, ht, ha, run_underlying hu], S⟩
    · rename_i h0
      split at h
      case isFalse => cases h
      rename_i hcd
      obtain ⟨rfl, hpos⟩ := hcd
      obtain ⟨ho1, ho2, rfl⟩ := ho h0
      rw [hzero] at h
      have hrel := zeroList_rel (σ := σ) z (len * I.size) hzs (.inr hpos)
      obtain ⟨k1, k2, k3⟩ := S.stn h hrel hf ho1 hc
      have hstc := run_storeCells_cells (P := P) b o _ 0 w (fun j hj => (k1 j hj).1) (fun j hj => (k1 j hj).2) k2
      simp only [Nat.add_zero, Array.toList_map, Array.toList_range] at hstc
      refine ⟨_, ?_, k3⟩
      have hzc : Builtin.zeroCells z.cells len = (Array.range (len * I.size)).map (z.cells[· % z.cells.size]!) := by simp [Builtin.zeroCells, hzs]
      cases len with
      | zero => exact absurd rfl h0
      | succ len => simp [Builtin.clear_, ht, ha, run_underlying hu, zeroValue, typeInfo, hi, hz, hzc, hstc]

theorem aWrite_sound {ρ : Operand → AV} {ρc : Operand → Value} (hρ : ∀ x, RelV σ (ρ x) (ρc x)) (S : Sim base w0 σ H w) {o : Oper} {v : Option AV} {H' : AH} (h : aWrite P ρ H o.op = some (v, H')) :
    ∃ n w' σ', (execOp ρc o).run P w = .ok n w' ∧ σ.le σ' ∧ Sim base w0 σ' H' w' ∧ NextOk σ' v n := by
  unfold aWrite at h
  unfold execOp
  split at h <;> first | (cases h; done) | skip
  all_goals (rename_i heq; rw [heq]; simp only [])
  case h_1 t x y =>
    have hx := hρ x
    have hy := hρ y
    split at h
    case h_2 => cases h
    rename_i i r off ver hi hv
    rw [hv] at hx
    split at h
    · cases h
    rename_i hc
    simp only [Bool.or_eq_true, bne_iff_ne, ne_eq, not_or, Bool.not_eq_true, Decidable.not_not] at hc
    obtain ⟨H1, h1, h2⟩ := Option.map_eq_some_iff.1 h
    cases h2
    have hcs := hy.cells hc.1
    have hlen := hcs.length
    generalize ρc x = c at hx ⊢
    generalize ρc y = d at hy hcs hlen ⊢
    cases hx with
    | ptr hf ho hver hcn =>
      rename_i b oo n dd
      obtain ⟨g1, g2, g3⟩ := S.stn h1 hcs hf ho hcn
      have hst := run_storeCells_cells (P := P) b oo d.cells.toList 0 w (fun j hj => (g1 j hj).1) (fun j hj => (g1 j hj).2) g2
      have hsz : d.cells.size = i.size := by rw [← hc.2, hlen]; simp
      refine ⟨.skip, _, σ, ?_, .refl σ, g3, trivial⟩
      simp only [Nat.add_zero] at hst
      simp [Instr.storeAt, Instr.sureAddr, storeVar, sizeOf, typeInfo, hi, hsz, hst]
  case h_2 t =>
    obtain ⟨I, hI, h1⟩ := Option.map_eq_some_iff.1 h
    cases h1
    obtain ⟨_, i, z, hi, hz, hsz, _, hzs, hzero⟩ := tiOf_some hI
    refine ⟨.value (.pointer (some ⟨w.heap.size, 0, none⟩)), w.alloc (.cells z.cells t), _, ?_, S.le_new _ _, S.alloc t 0 (fun p v hp _ => ?_), ?_⟩
    · simp [Instr.alloc, zeroValue, typeInfo, hi, hz, newVar, newRow]
    · rw [hzero] at hp
      obtain ⟨c, g1, g2⟩ := (RelVs.of_map (σ := σ) (f := absV 2) (l := z.cells.toList) fun v _ => relV_absV σ 2 v).get hp
      exact ⟨c, by simpa using g1, g2⟩
    · exact .ptr (d := 0) (n := z.cells.size) (by simp [Inj.new]) (by omega) (by simp [Inj.new]) (fun _ => by simp [Inj.new])
  case h_3 t x =>
    split at h
    · cases h
    rename_i hu
    cases h
    have hcs := (hρ x).cells (by simpa using hu)
    refine ⟨.value (.pointer (some ⟨w.heap.size, 0, none⟩)), w.alloc (.cells (ρc x).cells t), _, ?_, S.le_new _ _, S.alloc t 0 (fun p v hp _ => ?_), ?_⟩
    · simp [Instr.box, newVar, newRow]
    · obtain ⟨c, g1, g2⟩ := hcs.get hp
      exact ⟨c, by simpa using g1, g2⟩
    · exact .ptr (d := 0) (n := (ρc x).cells.size) (by simp [Inj.new]) (by omega) (by simp [Inj.new]) (fun _ => by simp [Inj.new])
  case h_4 t len parts =>
    split at h
    case h_2 => cases h
    rename_i e hu
    split at h
    case h_2 => cases h
    rename_i I hI
    obtain ⟨_, i, z, hi, hz, hsz, _, hzs, hzero⟩ := tiOf_some hI
    split at h
    case isFalse => cases h
    rename_i hc
    obtain ⟨cells, h1, h2⟩ := Option.map_eq_some_iff.1 h
    cases h2
    rw [hzero] at h1
    obtain ⟨C, g1, g2⟩ := aFill_sound h1 (RelPs.of_map hρ parts.toList) (zeroList_rel (σ := σ) z (len * I.size) hzs (by
      rcases hc.2 with h3 | h3
      · left; simp [h3]
      · right; exact h3))
    have hrun : (Instr.buildSlice t len (parts.map fun x => (x.1, ρc x.2))).run P w = .ok (.slice (some ⟨w.heap.size, 0, none⟩) len len) (w.alloc (.cells C e)) := by
      by_cases hl0 : len * i.size = 0
      · have hl0' : len * I.size = 0 := by rw [← hsz]; exact hl0
        rw [hl0'] at g1
        simp only [hsz] at hl0
        have g1' : Instr.fill (fun i => some (i * I.size, I.size)) #[] (parts.map fun x => (x.1, ρc x.2)).toList = some C := by
          rw [Array.toList_map]; simpa [show Array.range 0 = #[] from rfl] using g1
        have hl2 : len * i.size = 0 := by rw [hsz]; exact hl0'
        simp only [Instr.buildSlice, Sem.run_bind, run_underlying hu, sizeOf, typeInfo, run_program, hi, Sem.run_pure, Result.andThen_ok, hl2, if_true]
        simp only [hsz, show Array.range 0 = #[] from rfl, Array.map_empty, g1']
        rfl
      · refine run_buildSlice w t e len _ C i z hu hi hz (by rw [hsz]; omega) hl0 ?_
        rw [Array.toList_map, hsz]; exact g1
    have hcl := g2.length
    refine ⟨_, _, _, run_v hrun, S.le_new _ _, S.alloc e cells.length (fun p v hp _ => ?_), ?_⟩
    · obtain ⟨c, g3, g4⟩ := g2.get hp
      exact ⟨c, by simpa using g3, g4⟩
    · have hsize : C.size = len * I.size := by
        have := aFill_length h1
        simp at this hcl
        omega
      refine .slice (b := w.heap.size) (n := C.size) (d := 0) (by simp [Inj.new]) (by simp [Inj.new]) (fun _ => by simp [Inj.new]) (Nat.le_refl _) (fun _ => ⟨rfl, by rw [hsize]; omega, rfl⟩) (fun h => by cases h) (fun _ => by
        simp only [Inj.new, if_true]; simp at hcl; omega)
  case h_5 t l c =>
    split at h
    case h_2 => cases h
    rename_i e l' c' hu hl hc
    split at h
    case h_2 => cases h
    rename_i I hI
    obtain ⟨_, i, z, hi, hz, hsz, hby, hzs, hzero⟩ := tiOf_some hI
    split at h
    case isFalse => cases h
    rename_i hcond
    obtain ⟨q0, q1, q2, q3, q4⟩ := hcond
    cases h
    have hl' := hρ l
    have hc' := hρ c
    rw [hl] at hl'
    rw [hc] at hc'
    generalize ρc l = lv at hl' ⊢
    generalize ρc c = cv at hc' ⊢
    cases hl'
    cases hc'
    have hbytes : (i.bytes : Int) * c' ≤ 281474976710656 := by
      have h1 : (i.bytes : Int) * c' ≤ 4096 * 16777216 := by
        refine Int.mul_le_mul (by omega) q2 (by omega) (by omega)
      omega
    have hrun := run_make w t e i z hu hi hz .i64 .i64 l' c' q0 q1 hbytes (by omega)
    have hmade : madeCells z.cells (c'.toNat * i.size) = (Array.range (c'.toNat * i.size)).map (z.cells[· % z.cells.size]!) := rfl
    have hrel := zeroList_rel (σ := σ) z (c'.toNat * I.size) hzs (.inr q4)
    refine ⟨_, _, _, run_v hrun, S.le_new _ _, S.alloc e 0 (fun p v hp _ => ?_), ?_⟩
    · rw [hmade, hsz]
      rw [List.getElem?_map] at hp
      obtain ⟨q, hq, hqv⟩ := Option.map_eq_some_iff.1 hp
      have hqp : q = p ∧ p < l'.toNat * I.size := by
        rcases Nat.lt_or_ge p (l'.toNat * I.size) with h5 | h5
        · rw [List.getElem?_range h5] at hq
          cases hq
          exact ⟨rfl, h5⟩
        · rw [List.getElem?_eq_none (by simpa using h5)] at hq; cases hq
      obtain ⟨rfl, hlt⟩ := hqp
      have hle : l'.toNat * I.size ≤ c'.toNat * I.size := Nat.mul_le_mul_right _ (by omega)
      obtain ⟨c, g3, g4⟩ := hrel.get (q := q) (x := v) (by rw [List.getElem?_map, List.getElem?_range (by omega), ← hqv, hzero]; rfl)
      exact ⟨c, by rw [← g3, Array.getElem?_toList], g4⟩
    · refine .slice (b := w.heap.size) (n := (madeCells z.cells (c'.toNat * i.size)).size) (d := 0) (by simp [Inj.new]) (by simp [Inj.new]) (fun _ => by simp [Inj.new]) (by omega) (fun _ => ⟨rfl, by rw [size_madeCells, hsz]; omega, rfl⟩) (fun h => by cases h) (fun _ => by
        simp only [Inj.new, if_true, List.length_map, List.length_range, Nat.zero_add]
        exact Nat.mul_le_mul_right _ (by omega))
  case h_6 args ts =>
    split at h
    case h_2 => cases h
    rename_i t tx s x ht htx hs hx
    split at h
    case isFalse => cases h
    rename_i hsz
    obtain ⟨⟨v1, H1⟩, h1, h2⟩ := Option.map_eq_some_iff.1 h
    cases h2
    have e1 : ts = #[t, tx] := by
      apply Array.ext'
      have hl : ts.toList.length = 2 := by simpa using hsz.1
      have a0 : ts.toList[0]? = some t := by simpa using ht
      have a1 : ts.toList[1]? = some tx := by simpa using htx
      match hts : ts.toList, hl with
      | [p, q], _ => rw [hts] at a0 a1; simp at a0 a1; simp [a0, a1]
    have e2 : args = #[s, x] := by
      apply Array.ext'
      have hl : args.toList.length = 2 := by simpa using hsz.2
      have a0 : args.toList[0]? = some s := by simpa using hs
      have a1 : args.toList[1]? = some x := by simpa using hx
      match hts : args.toList, hl with
      | [p, q], _ => rw [hts] at a0 a1; simp at a0 a1; simp [a0, a1]
    subst e1
    subst e2
    obtain ⟨c, w', σ', g1, g2, g3, g4⟩ := aAppend_sound (ty := o.type) S h1 (hρ s) (hρ x)
    exact ⟨.value c, w', σ', by simp [resolve, invoke, builtin, g1], g2, g3, g4⟩
  case h_7 args ts =>
    split at h
    case h_2 => cases h
    rename_i t d s ht hd hs
    obtain ⟨⟨v1, H1⟩, h1, h2⟩ := Option.map_eq_some_iff.1 h
    cases h2
    obtain ⟨c, w', g1, g2, g3⟩ := aCopy_sound (ts := ts) (ty := o.type) (as := args.map ρc) S h1 (hρ d) (hρ s) ht (by simp [hd]) (by simp [hs])
    exact ⟨.value c, w', σ, by simp [resolve, invoke, builtin, g1], .refl σ, g2, g3⟩
  case h_8 args ts =>
    split at h
    case h_2 => cases h
    rename_i t x ht hx
    obtain ⟨H1, h1, h2⟩ := Option.map_eq_some_iff.1 h
    cases h2
    obtain ⟨w', g1, g2⟩ := aClear_sound (ts := ts) (ty := o.type) (as := args.map ρc) S h1 (hρ x) ht (by simp [hx])
    exact ⟨.value (.tuple #[]), w', σ, by simp [resolve, invoke, builtin, g1], .refl σ, g2, .tuple .nil⟩
end
end Go.Proofs.Ytjfmiohgkcjdnaa.AX
