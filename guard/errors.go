package guard

import "riparian/api"

// wrong is what is thrown where a call ends with an error.
type wrong struct{ e api.Errno }

// demand throws an error unless something holds.
func demand(holds bool, e api.Errno) {
	if !holds {
		panic(wrong{e})
	}
}

// catch carries something out, and returns the error that was thrown.
func catch(do func()) (e api.Errno) {
	defer func() {
		switch thrown := recover().(type) {
		case nil:
		case wrong:
			e = thrown.e
		default:
			panic(thrown)
		}
	}()
	do()
	return api.OK
}
