package pack

import (
	"slices"

	"maund/api"
	"maund/cart"
	"maund/wire"
)

// most is how many carts a list has at most.
const most = 2000

// Keyed is a cart, and its key.
type Keyed struct {
	Key  string
	Cart cart.Cart
}

// Right tells whether a list may be: its keys, and each cart, and not too many.
func Right(l []Keyed) bool {
	return keysRight(l) && !slices.ContainsFunc(l, func(k Keyed) bool { return !cart.Right(k.Cart) })
}

// WriteAll is a list's bytes; ErrForm, if it may not be.
func WriteAll(l []Keyed) ([]byte, api.Errno) {
	if !Right(l) {
		return nil, api.ErrForm
	}
	var w wire.Writer
	w.Num(uint64(len(l)))
	for _, k := range l {
		w.Text([]byte(k.Key))
		put(&w, k.Cart)
	}
	return w.Bytes(), api.OK
}

// ReadAll is the list of bytes; ErrForm, if they are no list's.
func ReadAll(b []byte) ([]Keyed, api.Errno) {
	r := wire.From(b)
	n := r.Small(most)
	var l []Keyed
	for i := 0; i < n && r.Err() == api.OK; i++ {
		key := string(r.Text(api.MaxKey))
		l = append(l, Keyed{Key: key, Cart: Take(r)})
	}
	if r.End() != api.OK || !keysRight(l) {
		return nil, api.ErrForm
	}
	return l, api.OK
}

// Find is the first cart of a key, and whether there is one.
func Find(l []Keyed, key string) (cart.Cart, bool) {
	at := slices.IndexFunc(l, func(k Keyed) bool { return k.Key == key })
	if at < 0 {
		return cart.Cart{}, false
	}
	return fresh(l[at].Cart), true
}

// With is a list with a key's cart: in the place of each that there is, or where the key stands. The list need not be in order, so all of it is gone through.
func With(l []Keyed, key string, c cart.Cart) []Keyed {
	with := make([]Keyed, 0, len(l)+1)
	there := false
	for _, k := range l {
		if k.Key == key {
			k.Cart, there = c, true
		}
		with = append(with, Keyed{Key: k.Key, Cart: fresh(k.Cart)})
	}
	if there {
		return with
	}
	at := slices.IndexFunc(with, func(k Keyed) bool { return k.Key > key })
	if at < 0 {
		at = len(with)
	}
	return slices.Insert(with, at, Keyed{Key: key, Cart: fresh(c)})
}

// keysRight tells whether keys are short enough, strictly rising, and not too many.
func keysRight(l []Keyed) bool {
	if len(l) > most {
		return false
	}
	for i, k := range l {
		if len(k.Key) > api.MaxKey || i > 0 && l[i-1].Key >= k.Key {
			return false
		}
	}
	return true
}
