package request

import (
	"spillway/api"
	"spillway/tokens"
)

// method is what requests with a method are like.
type method struct {
	name             string
	safe, idempotent bool
	bodiless         bool // they have no body
	counted          bool // their message says how long the body is, even if it is empty
	refused          bool
}

var methods = [...]method{
	{name: "GET", safe: true, idempotent: true, bodiless: true},
	{name: "HEAD", safe: true, idempotent: true, bodiless: true},
	{name: "OPTIONS", safe: true, idempotent: true},
	{name: "TRACE", safe: true, idempotent: true, bodiless: true},
	{name: "PUT", idempotent: true, counted: true},
	{name: "DELETE", idempotent: true},
	{name: "POST", counted: true},
	{name: "PATCH", counted: true},
	{name: "CONNECT", refused: true},
}

// Method reports whether a method is safe, and whether it is idempotent.
func Method(s string) (safe, idempotent bool, e api.Errno) {
	if !isMethod(s) {
		return false, false, api.ErrForm
	}
	m := methodOf(s)
	return m.safe, m.idempotent, api.OK
}

func checkMethod(s string) api.Errno {
	if !isMethod(s) {
		return api.ErrForm
	}
	if methodOf(s).refused {
		return api.ErrDown
	}
	return api.OK
}

func isMethod(s string) bool { return len(s) <= api.MaxRqMethod && tokens.Token(s) }

// methodOf returns what is known of a method: of most of them, nothing.
func methodOf(name string) method {
	for _, m := range methods {
		if m.name == name {
			return m
		}
	}
	return method{}
}
