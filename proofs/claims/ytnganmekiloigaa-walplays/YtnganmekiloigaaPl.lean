/- A disk, by plain data: no program. -/
namespace Go.Proofs.Ytnganmekiloigaa

abbrev Bs := List UInt8
/-- Sectors; Writes that wait; whether it is cut, how many more are done then; whether it is off. -/
structure Dk where
  secs : List Bs
  wait : List (Nat × Bs)
  cut : Bool
  left : Int
  off : Bool
  cap : Nat

/-- Bytes as a sector. -/
def pad (b : Bs) : Bs := b ++ List.replicate (64 - b.length) 0
theorem pad_length {b : Bs} (h : b.length ≤ 64) : (pad b).length = 64 := by simp [pad]; omega
/-- What it must be whatever is done. -/
structure Dk.Ok (D : Dk) : Prop where
  secs : ∀ s ∈ D.secs, s.length = 64
  wait : ∀ x ∈ D.wait, x.2.length = 64 ∧ x.1 < D.secs.length
  left : 0 ≤ D.left ∧ D.left ≤ 9223372036854775807

/-- One more is done; none: it may not be. -/
def Dk.spend (D : Dk) : Bool × Dk := if D.cut then (if D.left = 0 then (false, { D with off := true }) else (true, { D with left := D.left - 1 })) else (true, D)
/-- Why a sector is not to be had. -/
def Dk.reach (D : Dk) (i : Int) : Int := if D.off then 7 else if 0 ≤ i ∧ i < D.secs.length then 0 else 2
def Dk.awake (D : Dk) : Int := if D.off then 7 else 0
def Dk.write (D : Dk) (i : Int) (b : Bs) : Int × Dk :=
  if D.reach i = 0 then (if b.length ≤ 64 then (if D.spend.1 then (0, { D.spend.2 with wait := D.spend.2.wait ++ [(i.toNat, pad b)] }) else (7, D.spend.2)) else (3, D)) else (D.reach i, D)
/-- A sector as it will be once all that waits is flushed. -/
def latest (secs : List Bs) : List (Nat × Bs) → Nat → Bs
  | [], i => secs.getD i []
  | x :: r, i => if r.any (fun y => y.1 == i) then latest secs r i else if x.1 = i then x.2 else secs.getD i []
def Dk.read (D : Dk) (i : Int) : Bs × Int := if D.reach i = 0 then (latest D.secs D.wait i.toNat, 0) else ([], D.reach i)
/-- The Writes that wait, of which some stay, are done, one by one. -/
def land (keep : Nat → Bool) : Nat → List (Nat × Bs) → List Bs → List Bs
  | _, [], s => s
  | k, x :: r, s => land keep (k + 1) r (if keep k then s.set x.1 x.2 else s)
def Dk.flush (D : Dk) : Int × Dk :=
  if D.off then (7, D) else if D.spend.1 then (0, { D.spend.2 with secs := land (fun _ => true) 0 D.wait D.secs, wait := [] }) else (7, D.spend.2)
def Dk.doCut (D : Dk) (n : Int) : Dk := if D.off then D else { D with cut := true, left := max n 0 }
def Dk.crash (D : Dk) (keep : List Bool) : Dk := { secs := land (fun k => keep.getD k false) 0 D.wait D.secs, wait := [], cut := false, left := 0, off := false, cap := D.cap }

theorem land_length (keep : Nat → Bool) : ∀ (k : Nat) (l : List (Nat × Bs)) (s : List Bs), (land keep k l s).length = s.length
  | _, [], _ => rfl
  | k, x :: r, s => by
    unfold land
    rw [land_length keep (k + 1) r]
    split <;> simp
theorem land_ok (keep : Nat → Bool) : ∀ (k : Nat) (l : List (Nat × Bs)) (s : List Bs), (∀ x ∈ s, x.length = 64) → (∀ x ∈ l, x.2.length = 64) → ∀ x ∈ land keep k l s, x.length = 64
  | _, [], _, h, _ => h
  | k, y :: r, s, h, hl => by
    unfold land
    refine land_ok keep (k + 1) r _ ?_ (fun x hx => hl x (by simp [hx]))
    split
    · intro x hx
      rcases List.mem_or_eq_of_mem_set hx with hx | rfl
      · exact h x hx
      · exact hl y (by simp)
    · exact h

theorem Dk.Ok.spend {D : Dk} (h : D.Ok) : D.spend.2.Ok := by
  unfold Dk.spend
  split
  · split
    · exact ⟨h.secs, h.wait, h.left⟩
    · rename_i h0
      exact ⟨h.secs, h.wait, by have := h.left; simp only; omega⟩
  · exact h
theorem spend_secs (D : Dk) : D.spend.2.secs = D.secs ∧ D.spend.2.wait = D.wait ∧ D.spend.2.cut = D.cut := by
  unfold Dk.spend
  split
  · split <;> exact ⟨rfl, rfl, rfl⟩
  · exact ⟨rfl, rfl, rfl⟩
theorem Dk.Ok.write {D : Dk} (h : D.Ok) (i : Int) (b : Bs) : (D.write i b).2.Ok := by
  unfold Dk.write
  split
  · rename_i hr
    split
    · rename_i hb
      split
      · have h2 := h.spend
        have h3 := spend_secs D
        refine ⟨h2.secs, fun x hx => ?_, h2.left⟩
        rcases List.mem_append.1 hx with hx | hx
        · exact h2.wait x hx
        · rw [List.mem_singleton.1 hx]
          refine ⟨pad_length hb, ?_⟩
          show i.toNat < D.spend.2.secs.length
          rw [h3.1]
          unfold Dk.reach at hr
          split at hr
          · omega
          · split at hr
            · omega
            · omega
      · exact h.spend
    · exact h
  · exact h
theorem Dk.Ok.flush {D : Dk} (h : D.Ok) : D.flush.2.Ok := by
  unfold Dk.flush
  split
  · exact h
  · split
    · have h2 := h.spend
      exact ⟨land_ok _ _ _ _ h.secs (fun x hx => (h.wait x hx).1), fun x hx => by simp at hx, h2.left⟩
    · exact h.spend
theorem Dk.Ok.doCut {D : Dk} (h : D.Ok) {n : Int} (hn : n ≤ 9223372036854775807) : (D.doCut n).Ok := by
  unfold Dk.doCut
  split
  · exact h
  · exact ⟨h.secs, h.wait, by simp only; omega⟩
theorem Dk.Ok.crash {D : Dk} (h : D.Ok) (keep : List Bool) : (D.crash keep).Ok :=
  ⟨land_ok _ _ _ _ h.secs (fun x hx => (h.wait x hx).1), fun x hx => by simp [Dk.crash] at hx, by simp [Dk.crash]⟩

/-- A new one. -/
def newDk (n : Nat) : Dk := ⟨List.replicate n (List.replicate 64 0), [], false, 0, false, n⟩
theorem newDk_ok (n : Nat) : (newDk n).Ok := ⟨fun s hs => by simp [newDk] at hs; rw [hs.2]; simp, fun x hx => by simp [newDk] at hx, by simp [newDk]⟩

end Go.Proofs.Ytnganmekiloigaa
