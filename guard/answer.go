package guard

import "riparian/api"

// answer is Yes, unless it is No, or Waits: for the unbound variables of these terms. With No the terms do not matter.
type answer struct {
	no bool
	on []api.Term
}

// yesIf returns Yes or No.
func yesIf(holds bool) answer { return answer{no: !holds} }

// waitsFor returns Waits for the unbound variables of terms.
func waitsFor(l ...api.Term) answer { return answer{on: l} }

// join makes an answer that of it and of another one together.
func (a *answer) join(b answer) {
	a.no = a.no || b.no
	a.on = append(a.on, b.on...)
}

// isYes reports whether an answer is Yes.
func (a answer) isYes() bool { return !a.no && len(a.on) == 0 }

// opposite returns Yes for No, No for Yes, and Waits likewise.
func (a answer) opposite() answer {
	if !a.no && len(a.on) > 0 {
		return a
	}
	return yesIf(a.no)
}
