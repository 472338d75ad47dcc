
section
/- Permutations by four rounds and by walking cycles: plain mathematics. -/
namespace Go.Proofs.YtcmepgjbplpnbaaDoor.Pm

/-! ### Rounds -/
def rnd (F : Nat → Nat → Nat) (r : Nat) (p : Nat × Nat) : Nat × Nat := (p.2, p.1 ^^^ F r p.2)
def dnr (F : Nat → Nat → Nat) (r : Nat) (p : Nat × Nat) : Nat × Nat := (p.2 ^^^ F r p.1, p.1)
theorem dnr_rnd (F : Nat → Nat → Nat) (r : Nat) (p : Nat × Nat) : dnr F r (rnd F r p) = p := by
  unfold dnr rnd
  simp [Nat.xor_assoc]
theorem rnd_dnr (F : Nat → Nat → Nat) (r : Nat) (p : Nat × Nat) : rnd F r (dnr F r p) = p := by
  unfold dnr rnd
  simp [Nat.xor_assoc]
def In (B : Nat) (p : Nat × Nat) : Prop := p.1 < B ∧ p.2 < B
theorem xor_lt (k a b : Nat) (ha : a < 2 ^ k) (hb : b < 2 ^ k) : a ^^^ b < 2 ^ k := Nat.xor_lt_two_pow ha hb
theorem rnd_in {F : Nat → Nat → Nat} {k r : Nat} {p : Nat × Nat} (hF : ∀ r x, F r x < 2 ^ k) (h : In (2 ^ k) p) : In (2 ^ k) (rnd F r p) := ⟨h.2, xor_lt k _ _ h.1 (hF _ _)⟩
theorem dnr_in {F : Nat → Nat → Nat} {k r : Nat} {p : Nat × Nat} (hF : ∀ r x, F r x < 2 ^ k) (h : In (2 ^ k) p) : In (2 ^ k) (dnr F r p) := ⟨xor_lt k _ _ h.2 (hF _ _), h.1⟩
/-- The first c rounds; the last c ones, backward. -/
def rnds (F : Nat → Nat → Nat) (p : Nat × Nat) : Nat → Nat × Nat
  | 0 => p
  | c + 1 => rnd F c (rnds F p c)
def dnrs (F : Nat → Nat → Nat) (p : Nat × Nat) : Nat → Nat × Nat
  | 0 => p
  | c + 1 => dnr F (3 - c) (dnrs F p c)
def pair (B x : Nat) : Nat × Nat := (x / B, x % B)
def unpair (B : Nat) (p : Nat × Nat) : Nat := p.1 * B + p.2
theorem pair_unpair {B : Nat} {p : Nat × Nat} (h : In B p) : pair B (unpair B p) = p := by
  have hB : 0 < B := Nat.lt_of_le_of_lt (Nat.zero_le _) h.2
  unfold pair unpair
  rw [Nat.mul_comm, Nat.mul_add_div hB, Nat.div_eq_of_lt h.2, Nat.mul_add_mod, Nat.mod_eq_of_lt h.2]
  simp
theorem unpair_pair (B x : Nat) : unpair B (pair B x) = x := by unfold pair unpair; rw [Nat.mul_comm]; exact Nat.div_add_mod x B
theorem pair_in {B x : Nat} (h : x < B * B) : In B (pair B x) := ⟨Nat.div_lt_of_lt_mul h, Nat.mod_lt _ (by rcases Nat.eq_zero_or_pos B with h0 | h0; subst h0; omega; exact h0)⟩
theorem unpair_lt {B : Nat} {p : Nat × Nat} (h : In B p) : unpair B p < B * B := by
  unfold unpair
  have h1 : p.1 * B + B ≤ B * B := by rw [← Nat.succ_mul]; exact Nat.mul_le_mul_right _ h.1
  have := h.2
  omega
theorem rnds_in {F : Nat → Nat → Nat} {k : Nat} {p : Nat × Nat} (hF : ∀ r x, F r x < 2 ^ k) (h : In (2 ^ k) p) : ∀ c, In (2 ^ k) (rnds F p c)
  | 0 => h
  | c + 1 => rnd_in hF (rnds_in hF h c)
theorem dnrs_in {F : Nat → Nat → Nat} {k : Nat} {p : Nat × Nat} (hF : ∀ r x, F r x < 2 ^ k) (h : In (2 ^ k) p) : ∀ c, In (2 ^ k) (dnrs F p c)
  | 0 => h
  | c + 1 => dnr_in hF (dnrs_in hF h c)
def mix (F : Nat → Nat → Nat) (B x : Nat) : Nat := unpair B (rnds F (pair B x) 4)
def unmix (F : Nat → Nat → Nat) (B x : Nat) : Nat := unpair B (dnrs F (pair B x) 4)
theorem mix_lt {F : Nat → Nat → Nat} {k x : Nat} (hF : ∀ r x, F r x < 2 ^ k) (h : x < 2 ^ k * 2 ^ k) : mix F (2 ^ k) x < 2 ^ k * 2 ^ k := unpair_lt (rnds_in hF (pair_in h) 4)
theorem unmix_lt {F : Nat → Nat → Nat} {k x : Nat} (hF : ∀ r x, F r x < 2 ^ k) (h : x < 2 ^ k * 2 ^ k) : unmix F (2 ^ k) x < 2 ^ k * 2 ^ k := unpair_lt (dnrs_in hF (pair_in h) 4)
theorem unmix_mix {F : Nat → Nat → Nat} {k x : Nat} (hF : ∀ r x, F r x < 2 ^ k) (h : x < 2 ^ k * 2 ^ k) : unmix F (2 ^ k) (mix F (2 ^ k) x) = x := by
  unfold unmix mix
  rw [pair_unpair (rnds_in hF (pair_in h) 4)]
  simp only [dnrs, rnds, dnr_rnd]
  exact unpair_pair _ _
theorem mix_unmix {F : Nat → Nat → Nat} {k x : Nat} (hF : ∀ r x, F r x < 2 ^ k) (h : x < 2 ^ k * 2 ^ k) : mix F (2 ^ k) (unmix F (2 ^ k) x) = x := by
  unfold unmix mix
  rw [pair_unpair (dnrs_in hF (pair_in h) 4)]
  simp only [dnrs, rnds, rnd_dnr]
  exact unpair_pair _ _

/-! ### Two among too many are the same -/
theorem pigeon : ∀ (M : Nat) (g : Nat → Nat), (∀ j, j ≤ M → g j < M) → ∃ a b, a < b ∧ b ≤ M ∧ g a = g b
  | 0, g, h => absurd (h 0 (Nat.le_refl _)) (Nat.not_lt_zero _)
  | M + 1, g, h => by
    by_cases hj : ∃ j, j ≤ M ∧ g j = g (M + 1)
    · obtain ⟨j, h1, h2⟩ := hj
      exact ⟨j, M + 1, by omega, Nat.le_refl _, h2⟩
    · have hv := h (M + 1) (Nat.le_refl _)
      have hn : ∀ j, j ≤ M → g j ≠ g (M + 1) := fun j h1 h2 => hj ⟨j, h1, h2⟩
      obtain ⟨a, b, h1, h2, h3⟩ := pigeon M (fun j => if g j = M then g (M + 1) else g j) (fun j hjM => by
        have h1 := h j (by omega)
        have h2 := hn j hjM
        by_cases e : g j = M
        · simp only [e, if_true]; omega
        · simp only [e, if_false]; omega)
      have na := hn a (by omega)
      have nb := hn b h2
      refine ⟨a, b, h1, by omega, ?_⟩
      by_cases ea : g a = M <;> by_cases eb : g b = M <;> simp only [ea, eb, if_true, if_false] at h3
      · omega
      · exact absurd h3.symm nb
      · exact absurd h3 na
      · exact h3

/-! ### Walking a cycle -/
def iter (f : Nat → Nat) : Nat → Nat → Nat
  | 0, x => x
  | k + 1, x => f (iter f k x)
theorem iter_add (f : Nat → Nat) (a b x : Nat) : iter f (a + b) x = iter f a (iter f b x) := by
  induction a with
  | zero => simp [iter]
  | succ a ih => rw [Nat.succ_add]; simp only [iter, ih]
theorem iter_lt {f : Nat → Nat} {M : Nat} (hf : ∀ x, x < M → f x < M) {x : Nat} (h : x < M) : ∀ k, iter f k x < M
  | 0 => h
  | k + 1 => hf _ (iter_lt hf h k)
/-- K is the least number of steps, at least one, behind which x has come to less than n. -/
def Hit (f : Nat → Nat) (n x K : Nat) : Prop := 1 ≤ K ∧ iter f K x < n ∧ ∀ j, 1 ≤ j → j < K → ¬ iter f j x < n
theorem Hit.same {f : Nat → Nat} {n x K K' : Nat} (h : Hit f n x K) (h' : Hit f n x K') : K = K' := by
  rcases Nat.lt_trichotomy K K' with a | a | a
  · exact absurd h.2.1 (h'.2.2 K h.1 a)
  · exact a
  · exact absurd h'.2.1 (h.2.2 K' h'.1 a)
theorem least {p : Nat → Prop} [DecidablePred p] : ∀ (k : Nat), p k → ∃ m, m ≤ k ∧ p m ∧ ∀ j, j < m → ¬ p j
  | 0, h => ⟨0, Nat.le_refl _, h, fun j hj => absurd hj (Nat.not_lt_zero _)⟩
  | k + 1, h => by
    by_cases hs : ∃ j, j ≤ k ∧ p j
    · obtain ⟨j, h1, h2⟩ := hs
      obtain ⟨m, a, b, c⟩ := least j h2
      exact ⟨m, by omega, b, c⟩
    · exact ⟨k + 1, Nat.le_refl _, h, fun j hj hp => hs ⟨j, by omega, hp⟩⟩
  termination_by k => k
  decreasing_by omega
/-- A number is met again. -/
theorem hit_of {f g : Nat → Nat} {M n x : Nat} (hf : ∀ x, x < M → f x < M) (hg : ∀ x, x < M → g (f x) = x) (hn : x < n) (hM : x < M) : ∃ K, K ≤ M ∧ Hit f n x K := by
  obtain ⟨a, b, h1, h2, h3⟩ := pigeon M (fun j => iter f j x) (fun j _ => iter_lt hf hM j)
  have back : ∀ a d, iter f a x = iter f (a + d) x → x = iter f d x := by
    intro a
    induction a with
    | zero => intro d h; rw [Nat.zero_add] at h; exact h
    | succ a ih =>
      intro d h
      rw [Nat.succ_add] at h
      refine ih d ?_
      have e := congrArg g h
      simp only [iter] at e
      rwa [hg _ (iter_lt hf hM a), hg _ (iter_lt hf hM (a + d))] at e
  have hr := back a (b - a) (by rw [show a + (b - a) = b by omega]; exact h3)
  obtain ⟨m, m1, m2, m3⟩ := least (p := fun k => iter f (k + 1) x < n) (b - a - 1) (by
    rw [show b - a - 1 + 1 = b - a by omega, ← hr]; exact hn)
  exact ⟨m + 1, by omega, by omega, m2, fun j j1 j2 => by have := m3 (j - 1) (by omega); rwa [show j - 1 + 1 = j by omega] at this⟩
open Classical in
noncomputable def place (f : Nat → Nat) (n x : Nat) : Nat := if h : ∃ K, Hit f n x K then iter f h.choose x else 0
theorem place_is {f : Nat → Nat} {n x K : Nat} (h : Hit f n x K) : place f n x = iter f K x := by
  have hx : ∃ K, Hit f n x K := ⟨K, h⟩
  unfold place
  rw [dif_pos hx, Hit.same hx.choose_spec h]
theorem Hit.back {f g : Nat → Nat} {M n x K : Nat} (hf : ∀ x, x < M → f x < M) (hg : ∀ x, x < M → g (f x) = x) (hn : x < n) (hM : x < M) (h : Hit f n x K) : Hit g n (iter f K x) K ∧ iter g K (iter f K x) = x := by
  have e : ∀ j, j ≤ K → iter g j (iter f K x) = iter f (K - j) x := by
    intro j
    induction j with
    | zero => intro _; rfl
    | succ j ih =>
      intro hj
      simp only [iter]
      rw [ih (by omega), show K - j = (K - (j + 1)) + 1 by omega]
      simp only [iter]
      exact hg _ (iter_lt hf hM _)
  have e1 := e K (Nat.le_refl _)
  rw [Nat.sub_self] at e1
  refine ⟨⟨h.1, by rw [e1]; exact hn, fun j j1 j2 => ?_⟩, e1⟩
  rw [e j (by omega)]
  exact h.2.2 (K - j) (by omega) (by omega)
end Go.Proofs.YtcmepgjbplpnbaaDoor.Pm
end

section
/- The places of numbers: what chapter 6 says of them, as mathematics. -/

namespace Go.Proofs.YtcmepgjbplpnbaaDoor.Pm

/-- The size of n numbers, up to 65536. -/
def lg (n : Nat) : Nat := if n ≤ 1 then 0 else if n ≤ 4 then 1 else if n ≤ 16 then 2 else if n ≤ 64 then 3 else if n ≤ 256 then 4 else if n ≤ 1024 then 5 else if n ≤ 4096 then 6 else if n ≤ 16384 then 7 else 8
theorem lg_le (n : Nat) : lg n ≤ 8 := by unfold lg; split <;> (try omega); repeat (split <;> try omega)
theorem lg_cap {n : Nat} (h : n ≤ 65536) : n ≤ 2 ^ lg n * 2 ^ lg n := by
  unfold lg
  repeat (split; · simp; omega)
  simp; omega
theorem lg_iff {n : Nat} (h : n ≤ 65536) (k : Nat) (hk : k ≤ 8) : (2 ^ k * 2 ^ k < n ↔ k < lg n) := by
  have h0 : lg n ≤ 8 := lg_le n
  match k, hk with
  | 0, _ => unfold lg; simp; repeat (split <;> try omega)
  | 1, _ => unfold lg; simp; repeat (split <;> try omega)
  | 2, _ => unfold lg; simp; repeat (split <;> try omega)
  | 3, _ => unfold lg; simp; repeat (split <;> try omega)
  | 4, _ => unfold lg; simp; repeat (split <;> try omega)
  | 5, _ => unfold lg; simp; repeat (split <;> try omega)
  | 6, _ => unfold lg; simp; repeat (split <;> try omega)
  | 7, _ => unfold lg; simp; repeat (split <;> try omega)
  | 8, _ => unfold lg; simp; repeat (split <;> try omega)

section
variable {F : Nat → Nat → Nat} {k n x : Nat}
theorem mix_hit (hF : ∀ r x, F r x < 2 ^ k) (hx : x < n) (hn : n ≤ 2 ^ k * 2 ^ k) : ∃ K, K ≤ 2 ^ k * 2 ^ k ∧ Hit (mix F (2 ^ k)) n x K :=
  hit_of (fun _ h => mix_lt hF h) (fun _ h => unmix_mix hF h) hx (by omega)
theorem unmix_hit (hF : ∀ r x, F r x < 2 ^ k) (hx : x < n) (hn : n ≤ 2 ^ k * 2 ^ k) : ∃ K, K ≤ 2 ^ k * 2 ^ k ∧ Hit (unmix F (2 ^ k)) n x K :=
  hit_of (fun _ h => unmix_lt hF h) (fun _ h => mix_unmix hF h) hx (by omega)
theorem place_lt (hF : ∀ r x, F r x < 2 ^ k) (hx : x < n) (hn : n ≤ 2 ^ k * 2 ^ k) : place (mix F (2 ^ k)) n x < n := by
  obtain ⟨K, -, h⟩ := mix_hit hF hx hn
  rw [place_is h]
  exact h.2.1
theorem unplace_lt (hF : ∀ r x, F r x < 2 ^ k) (hx : x < n) (hn : n ≤ 2 ^ k * 2 ^ k) : place (unmix F (2 ^ k)) n x < n := by
  obtain ⟨K, -, h⟩ := unmix_hit hF hx hn
  rw [place_is h]
  exact h.2.1
theorem unplace_place (hF : ∀ r x, F r x < 2 ^ k) (hx : x < n) (hn : n ≤ 2 ^ k * 2 ^ k) : place (unmix F (2 ^ k)) n (place (mix F (2 ^ k)) n x) = x := by
  obtain ⟨K, -, h⟩ := mix_hit hF hx hn
  obtain ⟨h1, h2⟩ := h.back (M := 2 ^ k * 2 ^ k) (fun _ h => mix_lt hF h) (fun _ h => unmix_mix hF h) hx (by omega)
  rw [place_is h, place_is h1, h2]
theorem place_unplace (hF : ∀ r x, F r x < 2 ^ k) (hx : x < n) (hn : n ≤ 2 ^ k * 2 ^ k) : place (mix F (2 ^ k)) n (place (unmix F (2 ^ k)) n x) = x := by
  obtain ⟨K, -, h⟩ := unmix_hit hF hx hn
  obtain ⟨h1, h2⟩ := h.back (M := 2 ^ k * 2 ^ k) (fun _ h => unmix_lt hF h) (fun _ h => mix_unmix hF h) hx (by omega)
  rw [place_is h, place_is h1, h2]
/-- A place that is less than a lesser number is the same for it. -/
theorem place_less {m : Nat} (hF : ∀ r x, F r x < 2 ^ k) (hx : x < n) (hn : n ≤ 2 ^ k * 2 ^ k) (hm : m ≤ n) (h : place (mix F (2 ^ k)) n x < m) : place (mix F (2 ^ k)) m x = place (mix F (2 ^ k)) n x := by
  obtain ⟨K, -, hK⟩ := mix_hit hF hx hn
  rw [place_is hK] at h ⊢
  exact place_is ⟨hK.1, h, fun j j1 j2 hj => hK.2.2 j j1 j2 (by omega)⟩
end

/-! ### The sum of a permutation -/
def sumN : List Nat → Nat
  | [] => 0
  | x :: r => x + sumN r
theorem sumN_perm {l m : List Nat} (h : l.Perm m) : sumN l = sumN m := by
  induction h with
  | nil => rfl
  | cons x _ ih => simp [sumN, ih]
  | swap x y l => simp [sumN]; omega
  | trans _ _ h1 h2 => exact h1.trans h2
theorem nodup_long : ∀ (n : Nat) (l : List Nat), l.Nodup → (∀ x ∈ l, x < n) → l.length ≤ n
  | 0, l, _, h => by
    cases l with
    | nil => simp
    | cons x r => exact absurd (h x (by simp)) (Nat.not_lt_zero _)
  | n + 1, l, hd, h => by
    have h1 := nodup_long n (l.erase n) (hd.erase n) (fun x hx => by
      have h2 := h x (List.mem_of_mem_erase hx)
      have h3 : x ≠ n := by
        intro e
        subst e
        exact absurd hx (hd.not_mem_erase)
      omega)
    have h2 : (l.erase n).length = if n ∈ l then l.length - 1 else l.length := List.length_erase
    split at h2 <;> omega
theorem sum_all : ∀ (n : Nat) (l : List Nat), l.Nodup → (∀ x ∈ l, x < n) → l.length = n → 2 * sumN l + n = n * n
  | 0, l, _, _, hl => by
    rw [List.length_eq_zero_iff.1 hl]
    rfl
  | n + 1, l, hd, h, hl => by
    have hm : n ∈ l := by
      apply Decidable.byContradiction
      intro hn
      have := nodup_long n l hd (fun x hx => by
        have h2 := h x hx
        have h3 : x ≠ n := fun e => hn (e ▸ hx)
        omega)
      omega
    have hp := List.perm_cons_erase hm
    have h1 := sum_all n (l.erase n) (hd.erase n) (fun x hx => by
      have h2 := h x (List.mem_of_mem_erase hx)
      have h3 : x ≠ n := by
        intro e
        subst e
        exact absurd hx (hd.not_mem_erase)
      omega) (by rw [List.length_erase_of_mem hm]; omega)
    rw [sumN_perm hp]
    simp only [sumN]
    have : (n + 1) * (n + 1) = n * n + 2 * n + 1 := by rw [Nat.add_mul, Nat.mul_add, Nat.one_mul, Nat.mul_one]; omega
    omega
end Go.Proofs.YtcmepgjbplpnbaaDoor.Pm
end

