package token

// body is a body of a saga, and the items that stand in it.
type body struct {
	saga, alt int
	items     []int
}

// token is what may call off what is to be done in its body.
type token struct {
	body
	within *token // the one in which it stands, nil of the saga's own
	called bool
}

// off tells whether the token, or one in which it stands, was called off. Only that is kept, so the order in which tokens are called off can't tell.
func (x *token) off() bool {
	for ; x != nil; x = x.within {
		if x.called {
			return true
		}
	}
	return false
}
